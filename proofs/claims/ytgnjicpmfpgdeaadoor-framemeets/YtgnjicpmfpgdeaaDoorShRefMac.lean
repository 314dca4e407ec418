/-
  The contracts of the document's Sum and Of, of MACs.
-/
import Derived.Test.YtgnjicpmfpgdeaaDoorShRefBlock
import Derived.Test.YtgnjicpmfpgdeaaDoorShMacSumW
namespace Go.Proofs.YtgnjicpmfpgdeaaDoor.Sh
open Go.RowKit Sha

theorem block_ref' (a : Option Addr) (cap : Nat) (zs : List Nat) (w : World) (hr : Rd w (.slice a zs.length cap) a cap zs) (hbd : zs.length ≤ 100000) :
    Calls Tryd.prog 69 #[.slice a zs.length cap] w fun e w' => ∃ g c, e = .returned (.slice (some ⟨g, 0, none⟩) 64 c) ∧ Rd w' (.slice (some ⟨g, 0, none⟩) 64 c) (some ⟨g, 0, none⟩) c (blockL zs) ∧ Below w.heap.size w w' := by
  refine (block_ref a cap zs w hr hbd).mono fun e w' ⟨v, he, hown, hb⟩ => ?_
  have hl := blockL_length zs
  rw [← hl] at hown
  obtain ⟨g, c, hv, _, hrd⟩ := rd_own hown (by omega) (blockL_lt zs hr.hi)
  rw [hv] at hrd he
  rw [hl] at hrd he
  exact ⟨g, c, he, hrd, hb⟩
theorem xored_ref' (a : Option Addr) (cap : Nat) (l : List Nat) (x : Nat) (w : World) (hr : Rd w (.slice a 64 cap) a cap l) (hl : l.length = 64) (hx : x < 256) :
    Calls Tryd.prog 70 #[.slice a 64 cap, .int .u8 (x : Int)] w fun e w' => ∃ g c, e = .returned (.slice (some ⟨g, 0, none⟩) 64 c) ∧ Rd w' (.slice (some ⟨g, 0, none⟩) 64 c) (some ⟨g, 0, none⟩) c (xorL x l) ∧ Below w.heap.size w w' := by
  have h := xored_ref a cap l x w (by rw [hl]; exact hr) hx (by omega)
  rw [hl] at h
  refine h.mono fun e w' ⟨v, he, hown, hb⟩ => ?_
  have hxl : (xorL x l).length = 64 := (xorL_length _ _).trans hl
  rw [show w'.ownsRow w.heap.size 5 1 v 64 (V (xorL x l)) = w'.ownsRow w.heap.size 5 1 v (xorL x l).length (V (xorL x l)) from by rw [hxl]] at hown
  obtain ⟨g, c, hv, _, hrd⟩ := rd_own hown (by omega) (xorL_lt x l hx hr.hi)
  rw [hv] at hrd he
  rw [hxl] at hrd he
  exact ⟨g, c, he, hrd, hb⟩

set_option maxHeartbeats 3200000 in
set_option maxRecDepth 100000 in
theorem macSum_ref (a : Option Addr) (cap : Nat) (key : List Nat) (ad : Addr) (c : Nat) (l : List (List Nat)) (w : World) (hr : Rd w (.slice a key.length cap) a cap key) (hk : key.length ≤ 100000)
    (hp : Ps w (some ad) c l) (h0 : 0 < l.length) (hn : l.length ≤ 1000) (hl : l.flatten.length ≤ 300000) :
    Calls Tryd.prog 54 #[.slice a key.length cap, .slice (some ad) l.length c] w fun e w' => e = .returned (.agg (arr .u8 (hmac key l.flatten))) ∧ Below w.heap.size w w' := by
  obtain ⟨i0, hi, hz0, hz1, hz2⟩ := info_parts Tryd.info22
  have b1 := bel_alloc w (.cells (arr .u8 z32) 39)
  have e1 := heap_new w (.cells (arr .u8 z32) 39)
  have s1 : (w.alloc (.cells (arr .u8 z32) 39)).heap.size = w.heap.size + 1 := by simp
  have HB1 := hid b1
  have HP1 := hid (hp.later b1)
  have HBO := hid (block_ref' a cap key _ (hr.later b1) hk)
  have HXL1 : Hid ((xorL 54 (blockL key)).length = 64) := (xorL_length _ _).trans (blockL_length key)
  have HX := hid (fun (x : Nat) (hx : x < 256) (g c : Nat) (W : World) (h : Rd W (.slice (some ⟨g, 0, none⟩) 64 c) (some ⟨g, 0, none⟩) c (blockL key)) => xored_ref' (some ⟨g, 0, none⟩) c (blockL key) x W h (blockL_length key) hx)
  have HX1 := hid (fun (g c : Nat) (W : World) (h : Rd W (.slice (some ⟨g, 0, none⟩) 64 c) (some ⟨g, 0, none⟩) c (blockL key)) => HX.out 54 (by decide) g c W h)
  have HX2 := hid (fun (g c : Nat) (W : World) (h : Rd W (.slice (some ⟨g, 0, none⟩) 64 c) (some ⟨g, 0, none⟩) c (blockL key)) => HX.out 92 (by decide) g c W h)
  have HXL2 : Hid ((xorL 92 (blockL key)).length = 64) := (xorL_length _ _).trans (blockL_length key)
  have HH : Hid (hmac key l.flatten = digest (xorL 92 (blockL key) ++ digest (xorL 54 (blockL key) ++ l.flatten))) := rfl
  clear hr hp HX
  generalize hmac key l.flatten = MM at *
  generalize xorL 54 (blockL key) = x1 at *
  generalize xorL 92 (blockL key) = x2 at *
  generalize blockL key = bk at *
  generalize hln : l.length = ln at *
  have HLN := hid hln
  clear hln b1
  go_enter Tryd.func54, Tryd.ntmps54
  go_wp2_with (refine wpList_alloc_at rfl 39 rfl (some 4) rfl (arr .u8 z32) Tryd.zero39 w.heap.size rfl ?_)
  generalize w.alloc (.cells (arr .u8 z32) 39) = w1 at *
  go_at_call 69
  refine HBO.out.mono ?_
  rintro _ w2 ⟨g2, c2, rfl, hr2, hb2⟩
  have HR2 := hid hr2
  have HB2 := hid hb2
  clear hr2 hb2
  go_wp2_with fail
  go_at_call 70
  refine (HX1.out g2 c2 w2 HR2.out).mono ?_
  rintro _ w3 ⟨g3, c3, rfl, hr3, hb3⟩
  have hB3 := Bn HB2.out hb3
  have HR23 := hid (HR2.out.later hb3)
  have b4 := bel_alloc w3 (.cells #[.slice (some ⟨g3, 0, none⟩) 64 c3] 22)
  have o4 := World.ownsRow_lit (base := w3.heap.size) (e := 22) (size := 1) w3 #[.slice (some ⟨g3, 0, none⟩) 64 c3] 1 (Nat.le_refl _) (by unfold maxLen; omega) rfl
  have s4 : (w3.alloc (.cells #[.slice (some ⟨g3, 0, none⟩) 64 c3] 22)).heap.size = w3.heap.size + 1 := by simp
  have hB4 := Bn hB3 b4
  have hps := HP1.out.later hB3
  obtain ⟨ab, ao, hab, habl, _⟩ := hps.cells (by rw [HLN.out]; exact h0)
  obtain ⟨vals, hV, hVc3, hV1⟩ := hps.vals
  have hVc : ∀ (j : Nat) (u : Value), vals[j]? = some u → (w3.alloc (.cells #[.slice (some ⟨g3, 0, none⟩) 64 c3] 22)).cell? (ad.add j) = some u := fun j u hu => (b4.cell (p := ad.add j) (by rw [add_block]; injection hab with hab; subst hab; exact habl)).trans (hVc3 j u hu)
  have hvl : vals.length = ln * 1 := by rw [Nat.mul_one]; exact hV.len.trans HLN.out
  have hV0 : Vals w3 [.slice (some ⟨g3, 0, none⟩) 64 c3] [x1] := ⟨rfl, fun j hj => by
    obtain rfl : j = 0 := by simp at hj; omega
    exact ⟨_, _, hr3⟩⟩
  have HV := hid (hV0.app hV)
  have hq3 : 1 + ln ≤ maxLen := by unfold maxLen; omega
  have hq4 : (1 + ln) * 24 ≤ 140737488355328 := by omega
  have hq5 : w3.heap.size ≤ (w3.alloc (.cells #[.slice (some ⟨g3, 0, none⟩) 64 c3] 22)).heap.size := by omega
  clear hps hV hV0 hr3 hVc3 hab habl
  go_wp2_with (at_builtin; refine wpList_append_own _ rfl _ _ 79 rfl w3.heap.size 22 i0 (.slice none 0 0) 1 24 Tryd.underlying79 hi hz0 hz1 hz2 rfl (by decide) _ _ _ rfl o4 ad ln c vals rfl hvl hVc hV1 hq3 hq4 hq5 ?_)
  intro v5 w5 hown5 hgrow5 _
  have hb5 := b4.grown hgrow5 hq5 (fun j hj => (o4.lt j hj).1)
  have hml : ([x1] ++ l).length = 1 + ln := by rw [List.length_append, HLN.out]; rfl
  have hfl : ([x1] ++ l).flatten = x1 ++ l.flatten := by simp
  obtain ⟨a5, c5, hv5, hps5⟩ := ps_own (v := v5) HV.out (by rw [hml]; exact hown5) hb5
  rw [hml] at hv5
  subst hv5
  have hsm := sum_ref a5 c5 ([x1] ++ l) w5 hps5 (by rw [hfl, List.length_append, HXL1.out]; omega)
  rw [hml, hfl] at hsm
  have HSM := hid hsm
  have hB5 := Bn hB3 hb5
  have HB5 := hid hB5
  have HR5 := hid (HR23.out.later hb5)
  have hDl := digest_len (x1 ++ l.flatten)
  have HDT := hid (digest_lt (x1 ++ l.flatten))
  have hr5 : w5.heap[w.heap.size]? = some (.cells (arr .u8 z32) 39 (0, 0)) := by rw [hB5.block _ (by omega)]; exact e1
  have hz5 := hB5.size
  clear hown5 hgrow5 hsm hps5 hb5 o4 b4 hVc hV1 hB4 hB5 hB3 hb3 e1 HV hvl
  generalize digest (x1 ++ l.flatten) = D1 at *
  go_wp2_with fail
  go_at_call 71
  refine HSM.out.mono ?_
  rintro _ w6 ⟨rfl, hb6⟩
  obtain ⟨q7, f7, z7⟩ := put_new w6 D1 38 w6.heap.size rfl
  have hn6 := heap_new w6 (.cells (arr .u8 z32) 38)
  have hsd : (arr .u8 D1).size = 32 := by rw [arr_size, hDl]
  have hz6 := hb6.size
  go_wp2_with (first
    | (refine wpList_alloc_at rfl 38 rfl (some 7) rfl (arr .u8 z32) Tryd.zero38 w6.heap.size rfl ?_)
    | (refine wpList_store_rowTo rfl 38 _ _ rfl rfl w6.heap.size (arr .u8 D1) rfl rfl 38 _ hn6 (by rw [hsd]; exact Tryd.size38) (by rw [hsd]; rfl) (arr_one _ _) ?_))
  generalize (w6.alloc (.cells (arr .u8 z32) 38)).setRow w6.heap.size (arr .u8 D1) = w7 at *
  have hrd7 := Rd.block 32 hDl f7 (by decide) HDT.out
  have hb57 := Bn hb6 q7
  have hS7 : Below w.heap.size w w7 := Bn HB1.out (Bn HB5.out hb57)
  have hres7 : w7.heap[w.heap.size]? = some (.cells (arr .u8 z32) 39 (0, 0)) := by rw [hb57.block _ (by omega)]; exact hr5
  have HR7 := hid (HR5.out.later hb57)
  refine wp_region_held_drew (S := fun w' => Below w.heap.size w w') (by as_aux_lemma => kernel_rfl) hS7.drew (fun hS => ?_)
  have hD := (Below.refl w7.heap.size w7).drew
  have hzD : w7.drew.heap.size = w7.heap.size := rfl
  generalize w7.drew = wD at *
  refine Ord.take (i := 0) (d := 17) (v := ?v0) rfl rfl (by as_aux_lemma => kernel_rfl) (by as_aux_lemma => kernel_rfl) (by as_aux_lemma => kernel_rfl) (fun _ _ _ h => h) (by rfl) ?h0 (by assumption) ?_
  case h0 => intro w hSw; go_simp; try with_reducible rfl
  simp only [List.setIfInBounds_toArray, List.set_cons_zero, List.set_cons_succ]
  refine Ord.take (i := 2) (d := 19) (v := .slice (some ⟨w6.heap.size, 0, none⟩) 32 32) rfl rfl (by as_aux_lemma => kernel_rfl) (by as_aux_lemma => kernel_rfl) (by as_aux_lemma => kernel_rfl) (fun _ _ _ h => h) (by rfl) ?h2 (by assumption) ?_
  case h2 => intro w hSw; go_simp; try with_reducible rfl
  simp only [List.setIfInBounds_toArray, List.set_cons_zero, List.set_cons_succ]
  refine wpAnyH_ready (rs := [1]) (by as_aux_lemma => kernel_rfl) (by simp) (AllReadyH.cons rfl (fun K hK => ?_) AllReadyH.nil)
  go_simp
  refine (HX2.out g2 c2 wD (HR7.out.later hD)).mono ?_
  rintro _ w8 ⟨g8, c8, rfl, hr8, hb8⟩
  have hS8 := Bn hS hb8
  have hB8 := Bn hD hb8
  refine hK.out _ _ hS8 (fun _ => ?_)
  clear hK K
  have b9 := bel_alloc w8 (.cells #[.slice (some ⟨g8, 0, none⟩) 64 c8, .slice (some ⟨w6.heap.size, 0, none⟩) 32 32] 22)
  have p9 := Ps.two hr8 (hrd7.later hB8) w8.heap.size rfl
  have hS9 := Bn hS8 b9
  have hB9 := Bn hB8 b9
  refine wpAnyH_ready (rs := [3]) (by as_aux_lemma => kernel_rfl) (by simp) (AllReadyH.cons rfl (fun K hK => ?_) AllReadyH.nil)
  go_simp
  refine hK.out _ _ hS9 (fun _ => ?_)
  clear hK K
  generalize hw9 : w8.alloc (.cells #[.slice (some ⟨g8, 0, none⟩) 64 c8, .slice (some ⟨w6.heap.size, 0, none⟩) 32 32] 22) = w9 at *
  have hs2 := sum_ref _ _ _ w9 p9 (by simp [HXL2.out, hDl])
  rw [show [x2, D1].flatten = x2 ++ D1 from by simp, ← HH.out] at hs2
  have HS2 := hid hs2
  have hsz : (arr .u8 MM).size = 32 := by rw [HH.out, arr_size, digest_len]
  clear hs2 p9 hrd7 hr8 hB8 hb8 hw9 b9
  refine wpAnyH_ready (rs := [4]) (by as_aux_lemma => kernel_rfl) (by simp) (AllReadyH.cons rfl (fun K hK => ?_) AllReadyH.nil)
  go_simp
  refine HS2.out.mono ?_
  rintro _ w10 ⟨rfl, hb10⟩
  have hS10 := Bn hS9 hb10
  have hB10 := Bn hB9 hb10
  refine hK.out _ _ hS10 (fun _ => ?_)
  clear hK K
  have hres10 : w10.heap[w.heap.size]? = some (.cells (arr .u8 z32) 39 (0, 0)) := by rw [hB10.block _ (by omega)]; exact hres7
  have hasz : (Tryd.prog.info? 39).map (·.size) = some (arr .u8 MM).size := by rw [hsz]; exact Tryd.size39'
  have hS11 : Below w.heap.size w (w10.setRow w.heap.size (arr .u8 MM)) := below_setRow hS10 (Nat.le_refl _) _
  refine wpAnyH_ready (rs := [5]) (by as_aux_lemma => kernel_rfl) (by simp) (AllReadyH.cons rfl (fun K hK => ?_) AllReadyH.nil)
  refine wp_store_row 39 (.tmp 4) (.tmp 21) rfl w.heap.size (arr .u8 MM) rfl rfl 39 _ hres10 hasz (by rw [hsz]; rfl) (arr_one _ _) ?_
  refine hK.out _ _ hS11 (fun _ => ?_)
  clear hK K
  refine wpAnyH_done (by as_aux_lemma => kernel_rfl) ?_ _
  have HS11 := hid hS11
  have hrr := setRow_heap _ _ _ (arr .u8 MM) _ _ hres10
  clear hS11 hS10 hS9 hS8 hS hres10 hres7 hb10 hB10 hB9 hD hS7 hb57 hb6 q7 f7
  generalize w10.setRow w.heap.size (arr .u8 MM) = w11 at *
  go_wp2
  refine bodyPost_ret (results_cell_row (ty := 39) rfl _ _ _ _ _ _ _ rfl hrr Tryd.underlying39 rfl hasz) rfl ?_
  exact ⟨rfl, HS11.out⟩
end Go.Proofs.YtgnjicpmfpgdeaaDoor.Sh
