/-
  The contract of mac.Sum.
-/
import Derived.Test.YtgnjicpmfpgdeaaDoorShConcat
import Derived.Test.YtgnjicpmfpgdeaaDoorShClosed
namespace Go.Proofs.YtgnjicpmfpgdeaaDoor.Sh
open Go.RowKit Sha

theorem put_block (w : World) (l : List Nat) (g : Nat) (hg : g = w.heap.size) :
    Below w.heap.size w ((w.alloc (.cells (arr .u8 z64) 83)).setRow g (arr .u8 l)) ∧ ((w.alloc (.cells (arr .u8 z64) 83)).setRow g (arr .u8 l)).heap[g]? = some (.cells (arr .u8 l) 83 (0, 0)) ∧ ((w.alloc (.cells (arr .u8 z64) 83)).setRow g (arr .u8 l)).heap.size = w.heap.size + 1 := by
  subst hg
  have b := bel_alloc w (.cells (arr .u8 z64) 83)
  have e := heap_new w (.cells (arr .u8 z64) 83)
  have h1 := setRow_heap _ w.heap.size _ (arr .u8 l) _ _ e
  refine ⟨below_setRow b (Nat.le_refl _) _, h1, ?_⟩
  simp

theorem add_plain' (a : Addr) : a.add 0 = a := by cases a; simp [Addr.add]

theorem blockL_lt (key : List Nat) (h : ∀ j, key.getD j 0 < 256) : ∀ j, (blockL key).getD j 0 < 256 := by
  rw [blockL]
  refine getD_app _ _ ?_ ?_
  · unfold Sha.keyOf
    split
    · exact digest_lt key
    · exact h
  · rw [all_lt]
    intro z hz
    rw [List.eq_of_mem_replicate hz]
    decide

set_option maxHeartbeats 3200000 in
set_option maxRecDepth 100000 in
theorem macSum_word (a : Option Addr) (cap : Nat) (key : List Nat) (ad : Addr) (c : Nat) (l : List (List Nat)) (w : World) (hlaid : Laid w) (hr : Rd w (.slice a key.length cap) a cap key) (hk : key.length ≤ 100000)
    (hp : Ps w (some ad) c l) (h0 : 0 < l.length) (hn : l.length ≤ 1000) (hl : l.flatten.length ≤ 300000) :
    Calls Tryd.prog 36 #[.slice a key.length cap, .slice (some ad) l.length c] w fun e w' => e = .returned (.agg (arr .u8 (hmac key l.flatten))) ∧ Below w.heap.size w w' := by
  have b1 := bel_alloc w (.cells (arr .u8 z32) 39)
  have e1 := heap_new w (.cells (arr .u8 z32) 39)
  have s1 : (w.alloc (.cells (arr .u8 z32) 39)).heap.size = w.heap.size + 1 := by simp
  have HB1 := hid b1
  have HL1 := hid (hlaid.later b1)
  have HP1 := hid (hp.later b1)
  have HBO := hid (blockOf_word a cap key _ (hlaid.later b1) (hr.later b1) hk)
  have HX36 := hid (fun W : World => xored_word (blockL key) 54 W (blockL_length key) (blockL_lt key hr.hi) (by decide))
  have HX5C := hid (fun W : World => xored_word (blockL key) 92 W (blockL_length key) (blockL_lt key hr.hi) (by decide))
  have HXB1 := hid (xorL_lt 54 (blockL key) (by decide) (blockL_lt key hr.hi))
  have HXB2 := hid (xorL_lt 92 (blockL key) (by decide) (blockL_lt key hr.hi))
  have HXL1 : Hid ((xorL 54 (blockL key)).length = 64) := (xorL_length _ _).trans (blockL_length key)
  have HXL2 : Hid ((xorL 92 (blockL key)).length = 64) := (xorL_length _ _).trans (blockL_length key)
  have HBL := hid (blockL_length key)
  have HH : Hid (hmac key l.flatten = digest (xorL 92 (blockL key) ++ digest (xorL 54 (blockL key) ++ l.flatten))) := rfl
  have hbs : (arr .u8 (blockL key)).size = 64 := by rw [arr_size, blockL_length]
  have hba : (Tryd.prog.info? 83).map (·.size) = some (arr .u8 (blockL key)).size := by rw [hbs]; exact Tryd.size83
  have hxs : (arr .u8 (xorL 54 (blockL key))).size = 64 := by rw [arr_size, HXL1.out]
  clear hr hp hlaid
  generalize hmac key l.flatten = MM at *
  generalize xorL 54 (blockL key) = x1 at *
  generalize xorL 92 (blockL key) = x2 at *
  generalize blockL key = bk at *
  generalize hln : l.length = ln at *
  have HLN := hid hln
  clear hln b1
  go_enter Tryd.func36, Tryd.ntmps36
  go_wp2_with (refine wpList_alloc_at rfl 39 rfl (some 4) rfl (arr .u8 z32) Tryd.zero39 w.heap.size rfl ?_)
  generalize w.alloc (.cells (arr .u8 z32) 39) = w1 at *
  go_at_call 56
  refine HBO.out.mono ?_
  rintro _ w2 ⟨rfl, hb2⟩
  have hz2 := hb2.size
  have n2 := heap_new w2 (.cells (arr .u8 z64) 83)
  obtain ⟨q3, f3, z3⟩ := put_block w2 bk w2.heap.size rfl
  go_wp2_with (first
    | (refine wpList_alloc_at rfl 83 rfl (some 5) rfl (arr .u8 z64) Tryd.zero83 w2.heap.size rfl ?_)
    | (refine wpList_store_rowTo rfl 83 _ _ rfl rfl w2.heap.size (arr .u8 bk) rfl rfl 83 _ n2 hba (by rw [hbs]; rfl) (arr_one _ _) ?_)
    | (refine wpList_load_row rfl 83 _ rfl w2.heap.size rfl 83 (arr .u8 bk) (0, 0) _ f3 Tryd.underlying83 rfl hba ?_))
  generalize (w2.alloc (.cells (arr .u8 z64) 83)).setRow w2.heap.size (arr .u8 bk) = w3 at *
  go_at_call 57
  refine (HX36.out w3).mono ?_
  rintro _ w4 ⟨rfl, hb4⟩
  have hz4 := hb4.size
  have n4 := heap_new w4 (.cells (arr .u8 z64) 83)
  obtain ⟨q5, f5, z5⟩ := put_block w4 x1 w4.heap.size rfl
  have b13 : Below w1.heap.size w1 w3 := Bn hb2 q3
  have hB5 := Bn b13 (Bn hb4 q5)
  have HR5 := hid (Rd.block 64 HXL1.out f5 (by decide) HXB1.out)
  have hxa : (Tryd.prog.info? 83).map (·.size) = some (arr .u8 x1).size := by rw [hxs]; exact Tryd.size83
  go_wp2_with (first
    | (refine wpList_alloc_at rfl 83 rfl (some 6) rfl (arr .u8 z64) Tryd.zero83 w4.heap.size rfl ?_)
    | (refine wpList_store_rowTo rfl 83 _ _ rfl rfl w4.heap.size (arr .u8 x1) rfl rfl 83 _ n4 hxa (by rw [hxs]; rfl) (arr_one _ _) ?_))
  generalize (w4.alloc (.cells (arr .u8 z64) 83)).setRow w4.heap.size (arr .u8 x1) = w5 at *
  have b6 := bel_alloc w5 (.cells #[.slice (some ⟨w4.heap.size, 0, none⟩) 64 64] 22)
  have c6 := World.cell?_alloc_mark w5 #[.slice (some ⟨w4.heap.size, 0, none⟩) 64 64] 22 (0, 0)
  have s6 : (w5.alloc (.cells #[.slice (some ⟨w4.heap.size, 0, none⟩) 64 64] 22)).heap.size = w4.heap.size + 1 + 1 := by simp [z5]
  rw [z5] at c6
  generalize hw6 : w5.alloc (.cells #[.slice (some ⟨w4.heap.size, 0, none⟩) 64 64] 22) = w6 at *
  have b7 := bel_alloc w6 (.cells #[.slice (some ⟨w4.heap.size + 1, 0, none⟩) 1 1, .slice (some ad) ln c] 79)
  have c7 := World.cell?_alloc_mark w6 #[.slice (some ⟨w4.heap.size + 1, 0, none⟩) 1 1, .slice (some ad) ln c] 79 (0, 0)
  have s7 : (w6.alloc (.cells #[.slice (some ⟨w4.heap.size + 1, 0, none⟩) 1 1, .slice (some ad) ln c] 79)).heap.size = w4.heap.size + 1 + 1 + 1 := by simp [s6]
  rw [s6] at c7
  generalize hw7 : w6.alloc (.cells #[.slice (some ⟨w4.heap.size + 1, 0, none⟩) 1 1, .slice (some ad) ln c] 79) = w7 at *
  have hB7 := Bn hB5 (Bn b6 b7)
  have hps := HP1.out.later hB7
  obtain ⟨ab, ao, hab, habl, _⟩ := hps.cells (by rw [HLN.out]; exact h0)
  obtain ⟨vals, hV, hVc, hV1⟩ := hps.vals
  have hvl : vals.length = ln := hV.len.trans HLN.out
  have hr7 := HR5.out.later (Bn b6 b7)
  have hV0 : Vals w7 [.slice (some ⟨w4.heap.size, 0, none⟩) 64 64] [x1] := ⟨rfl, fun j hj => by
    obtain rfl : j = 0 := by simp at hj; omega
    exact ⟨_, _, hr7⟩⟩
  have HV := hid (hV0.app hV)
  have HCN := hid (concat_rows (w4.heap.size + 1 + 1) 1 1 ln c ⟨w4.heap.size + 1, 0, none⟩ ad [.slice (some ⟨w4.heap.size, 0, none⟩) 64 64] vals w7 (by omega) (c7 0) (c7 1) rfl hvl (by omega)
    (fun j u hu => by
      obtain rfl : j = 0 := by have := (List.getElem?_eq_some_iff.1 hu).1; simp at this; omega
      rw [add_plain']
      exact ((b7.cell (p := ⟨w4.heap.size + 1, 0, none⟩) (by show w4.heap.size + 1 < _; omega)).trans (c6 0)).trans hu)
    hVc (by intro u hu; simp at hu; subst hu; rfl) hV1 (by show w4.heap.size + 1 < _; omega) (by injection hab with hab; subst hab; exact habl))
  have hk7 : w7.heap[w2.heap.size]? = some (.cells (arr .u8 bk) 83 (0, 0)) := by rw [(Bn (Bn hb4 q5) (Bn b6 b7)).block _ (by omega)]; exact f3
  have hr7' : w7.heap[w.heap.size]? = some (.cells (arr .u8 z32) 39 (0, 0)) := by rw [hB7.block _ (by omega)]; exact e1
  have HB7 := hid (Bn HB1.out hB7)
  have HL7 := hid (HL1.out.later hB7)
  clear hps hV hVc hV1 hr7 hV0 c6 c7 b6 b7 hB7 hB5 b13 q5 f5 hb4 q3 f3 hb2 e1 HP1 HR5 n2 n4 hab habl
  subst hw7 hw6
  go_at_call 58
  generalize (w5.alloc (.cells #[.slice (some ⟨w4.heap.size, 0, none⟩) 64 64] 22)).alloc (.cells #[.slice (some ⟨w4.heap.size + 1, 0, none⟩) 1 1, .slice (some ad) ln c] 79) = w7 at *
  refine HCN.out.mono ?_
  rintro _ w8 ⟨v8, rfl, hown, hb8⟩
  have hml : ([x1] ++ l).length = 1 + ln := by rw [List.length_append, HLN.out]; rfl
  have hfl : ([x1] ++ l).flatten = x1 ++ l.flatten := by simp
  obtain ⟨a8, c8, hv8, hps8⟩ := ps_own (v := v8) HV.out (by rw [hml]; exact hown) hb8
  rw [hml] at hv8
  subst hv8
  have hk8 : w8.heap[w2.heap.size]? = some (.cells (arr .u8 bk) 83 (0, 0)) := by rw [hb8.block _ (by omega)]; exact hk7
  have hr8 : w8.heap[w.heap.size]? = some (.cells (arr .u8 z32) 39 (0, 0)) := by rw [hb8.block _ (by omega)]; exact hr7'
  have HB8 := hid (Bn HB7.out hb8)
  have HL8 := hid (HL7.out.later hb8)
  have HP8 := hid hps8
  have hz8 := hb8.size
  have HCS := hid (fun (W : World) (h : Below w8.heap.size w8 W) => sum_word a8 c8 ([x1] ++ l) W (HL8.out.later h) (HP8.out.later h) (by rw [hfl, List.length_append, HXL1.out]; omega))
  rw [hml, hfl] at HCS
  have HCL := hid (fun (W : World) (h : Below w8.heap.size w8 W) => closed_word x2 (digest (x1 ++ l.flatten)) W (HL8.out.later h) HXL2.out (digest_len _) HXB2.out (digest_lt _))
  rw [← HH.out] at HCL
  generalize digest (x1 ++ l.flatten) = D1 at *
  clear hown hb8 hps8 HP8 hk7 hr7' HCN HV
  go_wp2_with (refine wpList_load_row rfl 83 _ rfl w2.heap.size rfl 83 (arr .u8 bk) (0, 0) _ hk8 Tryd.underlying83 rfl hba ?_)
  go_at_call 57
  refine (HX5C.out w8).mono ?_
  rintro _ w9 ⟨rfl, hb9⟩
  have HB9 := hid hb9
  clear hb9
  go_wp2_with fail
  go_at_call 60
  refine (HCS.out w9 HB9.out).mono ?_
  rintro _ w10 ⟨rfl, hb10⟩
  have HB10 := hid (Bn HB9.out hb10)
  clear hb10
  go_wp2_with fail
  go_at_call 59
  refine (HCL.out w10 HB10.out).mono ?_
  rintro _ w11 ⟨rfl, hb11⟩
  have hb8b := Bn HB10.out hb11
  have hres : w11.heap[w.heap.size]? = some (.cells (arr .u8 z32) 39 (0, 0)) := by rw [hb8b.block _ (by omega)]; exact hr8
  have hbel := Bn HB8.out hb8b
  have hsz : (arr .u8 MM).size = 32 := by rw [HH.out, arr_size, digest_len]
  have hasz : (Tryd.prog.info? 39).map (·.size) = some (arr .u8 MM).size := by rw [hsz]; exact Tryd.size39'
  clear hb11 hb8b
  go_wp2_with (refine wpList_store_rowTo rfl 39 _ _ rfl rfl w.heap.size (arr .u8 MM) rfl rfl 39 _ hres hasz (by rw [hsz]; rfl) (arr_one _ _) ?_)
  refine bodyPost_ret (results_cell_row (ty := 39) rfl _ _ _ _ _ _ _ rfl (setRow_heap _ _ _ _ _ _ hres) Tryd.underlying39 rfl hasz) rfl ?_
  exact ⟨rfl, below_setRow hbel (Nat.le_refl _) _⟩
end Go.Proofs.YtgnjicpmfpgdeaaDoor.Sh
