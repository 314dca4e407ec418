/-
  MacPieces: of bytes cut in any way there is one MAC, by a Mac and by Sum, and it is the document's; where the program's tables are as its text lays them.
-/
import Derived.Test.YtkipepodgmfbnaaDoorMacWrites
namespace Go.Proofs.YtkipepodgmfbnaaDoor.macPieces
open Go.ChangeShapes Go.WideShapes Go.ChangeAt Go.RowKit Sha macWrites

theorem own_rows_kept {w w' : World} {B n g : Nat} {v : Value} {xs : List Value} (h : w.ownsRow B 22 1 v n xs) (hg : w.grownBy w' (some g)) (hB : g < B) : w'.ownsRow B 22 1 v n xs := by
  refine ⟨h.1, ?_⟩
  rcases h.2 with h1 | ⟨q, cap, cur, hv, hq, hh, hr⟩
  · exact Or.inl h1
  · exact Or.inr ⟨q, cap, cur, hv, hq, (hg.block q (Array.getElem?_eq_some_iff.1 hh).1 (by intro h; injection h with h; omega)).trans hh, hr⟩

set_option maxHeartbeats 3200000 in
set_option maxRecDepth 100000 in
theorem walk (a : Option Addr) (cap : Nat) (ks : List Nat) (b : Option Addr) (capb : Nat) (zs : List Nat) (c : Option Addr) (capc : Nat) (cs : List Nat) (W : World) (hl : Laid W) (hr : Rd W (.slice a ks.length cap) a cap ks) (hrb : Rd W (.slice b zs.length capb) b capb zs) (hrc : Rd W (.slice c cs.length capc) c capc cs) :
    Calls Tryd.prog 7 #[.slice a ks.length cap, .slice b zs.length capb, .slice c cs.length capc] W fun e w' => e = .returned (.bool true) ∧ Below W.heap.size W w' := by
  obtain ⟨i0, hi, hz0, hz1, hz2⟩ := info_parts Tryd.info22
  have HAW := hid (awake_any W hl)
  have HC1 := hid (fun (w : World) (h : Below W.heap.size W w) => cut_row a cap ks w (hr.later h))
  have HC2 := hid (fun (w : World) (h : Below W.heap.size W w) => cut_row b capb zs w (hrb.later h))
  have HR := hid (hr.take 2000)
  have HRB := hid (hrb.take 2000)
  have HRC := hid hrc
  have hkl := take_len ks
  have hzl := take_len zs
  have HL := hid hl
  have hcr := hrc.room
  have hcm := hrc.most
  unfold maxLen at hcm
  clear hr hrb hrc hl
  generalize ks.take 2000 = key at *
  generalize zs.take 2000 = z at *
  have HNW := hid (fun (w : World) (h : Below W.heap.size W w) => macNew_word a cap key w (HL.out.later h) (HR.out.later h) (by omega))
  have HOF := hid (fun (w : World) (h : Below W.heap.size W w) => macOf_ref a cap key b capb z w (HR.out.later h) (HRB.out.later h) (by omega) (by omega))
  have HH : Hid (digest (xorL 92 (blockL key) ++ digest (xorL 54 (blockL key) ++ z)) = hmac key z) := rfl
  have HX1 : Hid ((xorL 54 (blockL key)).length = 64) := (xorL_length _ _).trans (blockL_length key)
  have HX2 : Hid ((xorL 92 (blockL key)).length = 64) := (xorL_length _ _).trans (blockL_length key)
  have HXB : Hid (∀ j, (xorL 92 (blockL key)).getD j 0 < 256) := xorL_lt 92 (blockL key) (by decide) (blockL_lt key HR.out.hi)
  have HDM := hid (hmac_length key z)
  have hq := eq25 (hmac key z) (hmac_length key z)
  have HMS := hid (fun (w : World) (h : Below W.heap.size W w) (ad : Addr) (q : Nat) (m : List (List Nat)) (hm : m.flatten = z) (h0 : 0 < m.length) (h1 : m.length ≤ 1000) (hp : Ps w (some ad) q m) => macSum_word a cap key ad q m w (HL.out.later h) (HR.out.later h) (by omega) hp h0 h1 (by rw [hm]; omega))
  generalize xorL 54 (blockL key) = x1 at *
  generalize xorL 92 (blockL key) = x2 at *
  have hg := guard25
  generalize hcn : cs.length = cn at *
  have HCN := hid hcn
  clear hcn
  go_enter Tryd.func7, Tryd.ntmps7
  go_wp2_with fail
  go_at_call 14
  refine HAW.out.mono ?_
  rintro _ w1 ⟨rfl, hb1⟩
  have HB1 := hid hb1
  clear hb1 HAW
  go_wp2_with fail
  go_at_call 9
  refine (HC1.out w1 HB1.out).mono ?_
  rintro _ w2 ⟨rfl, hw⟩
  obtain rfl := hw.symm
  clear hw
  go_wp2_with fail
  go_at_call 9
  refine (HC2.out w1 HB1.out).mono ?_
  rintro _ w2 ⟨rfl, hw⟩
  obtain rfl := hw.symm
  clear hw HC1 HC2
  go_wp2_with fail
  go_at_call 22
  refine (HOF.out w1 HB1.out).mono ?_
  rintro _ w2 ⟨rfl, hb2⟩
  obtain ⟨q3, f3, z3⟩ := put_new w2 (hmac key z) 26 w2.heap.size rfl
  have hn2 := heap_new w2 (.cells (arr .u8 z32) 26)
  have hWw2 : W.heap.size ≤ w2.heap.size := (Bn HB1.out hb2).size
  generalize hMM : hmac key z = M at *
  have HMM := hid hMM
  clear hMM
  go_wp2_with (first
    | (refine wpList_alloc_at rfl 26 rfl (some 7) rfl (arr .u8 z32) Tryd.zero26 w2.heap.size rfl ?_)
    | (refine wpList_store_rowTo rfl 26 _ _ rfl rfl w2.heap.size (arr .u8 M) rfl rfl 26 _ hn2 (by rw [arr_size, HDM.out]; exact Tryd.size26') (by rw [arr_size, arr_size, HDM.out]; rfl) (arr_one _ _) ?_))
  have hB3 := Bn HB1.out (Bn hb2 q3)
  generalize (w2.alloc (.cells (arr .u8 z32) 26)).setRow w2.heap.size (arr .u8 M) = w3 at *
  go_at_call 20
  refine (HNW.out w3 hB3).mono ?_
  rintro _ w4 ⟨g, hgw3, rfl, ⟨op4, hm4⟩, hb4⟩
  have hg4 : g < w4.heap.size := (Array.getElem?_eq_some_iff.1 hm4.blk).1
  have HM4 := hid hm4
  have HB4 := hid (Bn hB3 hb4)
  have h2g : 2 ≤ g := by have := (HL.out.later HB1.out).two; have := HB1.out.size; have := hB3.size; have := (HL.out).two; omega
  have hWg : W.heap.size ≤ g := by have := hB3.size; omega
  have hw2g : w2.heap.size < g := by omega
  have f4 : w4.heap[w2.heap.size]? = some (.cells (arr .u8 M) 26 (0, 0)) := by rw [hb4.block _ (by omega)]; exact f3
  have HF4 := hid f4
  generalize hgw : w2.heap.size = gw at *
  clear hm4 hb4 HNW HOF q3 f3 hb2 hB3 hn2 f4 hgw
  generalize hB : w4.heap.size = B at *
  have HBB := hid hB
  clear hB
  generalize hzn : z.length = zn at *
  have HZN := hid hzn
  clear hzn
  generalize key.length = kn at *
  have HRB4 : Hid (Rd W (.slice b (z.drop 0).length capb) b capb (z.drop 0)) := by show Rd _ _ _ _ _; rw [List.drop_zero, HZN.out]; exact HRB.out
  go_wp2_with fail
  go_loopw [1, 9, 10] (fun bv v i wr => ∃ (k p : Nat) (vals : List Value) (m : List (List Nat)) (op : List Nat) (bq : Option Addr) (cq : Nat), k ≤ 100 ∧ p ≤ zn ∧ i = .int .i64 k ∧ bv = .slice bq (zn - p) cq ∧ Rd W (.slice bq (zn - p) cq) bq cq (z.drop p) ∧ Vals W vals m ∧ vals.length = k ∧ m.flatten = z.take p ∧ wr.ownsRow B 22 1 v k vals ∧ Hm (lst .u8 x2) wr g (x1 ++ z.take p) op ∧ wr.heap[gw]? = some (.cells (arr .u8 M) 26 (0, 0)) ∧ Below W.heap.size W wr ∧ B ≤ wr.heap.size) (fun _ _ i _ => 100 - (intOf i).toNat)
  case atStart => exact ⟨0, 0, [], [], op4, b, capb, by omega, by omega, rfl, rfl, by rw [List.drop_zero]; exact HRB.out, ⟨rfl, fun j hj => by simp at hj⟩, rfl, by simp, World.ownsRow_nil _ _ _ _, by rw [List.take_zero, List.append_nil]; exact HM4.out, HF4.out, HB4.out, by rw [HBB.out]; exact Nat.le_refl _⟩
  case round =>
    obtain ⟨k, p, vals, m, op, bq, cq, hk, hpz, rfl, rfl, hrq, hV, hvl, hfl, hown, hHm, hfw, hbel, hBr⟩ := hrel
    have hszr := hbel.size
    have hdl : (z.drop p).length = zn - p := by rw [List.length_drop, HZN.out]
    have hqr := hrq.room
    have hqm := hrq.most
    unfold maxLen at hqm
    rw [hdl] at hqr
    have HRQ := hid hrq
    have HV := hid hV
    have HFL := hid hfl
    have HHm := hid hHm
    have HFW := hid hfw
    have HBL := hid hbel
    have HDL := hid hdl
    clear hrq hV hfl hHm hfw hbel hdl
    by_cases hkc : k < cn
    · by_cases hk1 : k < 100
      · have hkn : (k : Int) < (cn : Int) := by omega
        have hk100 : (k : Int) < 100 := by omega
        obtain ⟨cb, off, hce, hbw, hc⟩ := HRC.out.cells (by have := HCN.out; omega)
        subst hce
        have hck : wr.cell? ⟨cb, off + k, none⟩ = some (.int .u8 ((cs.getD k 0 : Nat) : Int)) := (HBL.out.cell (p := ⟨cb, off + k, none⟩) hbw).trans (hc k (by have := HCN.out; omega))
        have hcu := HRC.out.hi k
        generalize cs.getD k 0 = cu at *
        clear hc
        obtain ⟨q, hqq⟩ : ∃ q, q = min cu (zn - p) := ⟨_, rfl⟩
        have hqi : min (cu : Int) ((zn - p : Nat) : Int) = (q : Int) := by omega
        have hqp : p + q ≤ zn := by omega
        have hqz : q ≤ zn - p := by omega
        clear hqq
        have hr1 : Rd W (.slice bq q cq) bq cq ((z.drop p).take q) := by
          have h := (show Rd W (.slice bq (z.drop p).length cq) bq cq (z.drop p) by rw [HDL.out]; exact HRQ.out).take q
          rw [List.length_take, HDL.out, show min q (zn - p) = q from by omega] at h
          exact h
        obtain ⟨a2, c2, hv2, hr2⟩ := mid_part (w := W) (a := bq) (cap := cq) (zs := z.drop p) (by rw [HDL.out]; exact HRQ.out) q (zn - p - q) (by rw [HDL.out]; omega)
        have L2 := slice_rest bq (zn - p) cq q (by omega)
        rw [show q + (zn - p - q) = zn - p from by omega] at hv2
        rw [hv2] at L2
        rw [List.drop_drop, List.take_of_length_le (by rw [List.length_drop, HZN.out]; omega)] at hr2
        rw [show zn - p - q = zn - (p + q) from by omega] at hr2 hv2 L2
        have HR2 := hid hr2
        have HR1 := hid hr1
        have HV1 := hid (HV.out.snoc hr1)
        have HFL1 : Hid ((m ++ [(z.drop p).take q]).flatten = z.take (p + q)) := by
          show _ = _
          rw [List.flatten_append, List.flatten_singleton, HFL.out, List.take_add]
        have HMQ : Hid (x1 ++ z.take p ++ (z.drop p).take q = x1 ++ z.take (p + q)) := by
          show _ = _
          rw [List.append_assoc, List.take_add]
        have HQL : Hid (((z.drop p).take q).length = q) := by show _ = _; rw [List.length_take, HDL.out]; omega
        have HTL : Hid ((x1 ++ z.take p).length ≤ 3000) := by show _ ≤ _; rw [List.length_append, HX1.out, List.length_take]; omega
        clear hr1 hr2 hv2
        go_wp2_with (at_builtin; refine wpList_append_own _ rfl _ _ 29 rfl B 22 i0 (.slice none 0 0) 1 24 Tryd.underlying29 hi hz0 hz1 hz2 rfl (by decide) _ _ _ rfl (hown.alloc _) ⟨wr.heap.size, 0, none⟩ 1 1 [.slice bq q cq] rfl rfl (row_new wr _) (row_cell _ _ _) (by unfold maxLen; omega) (by omega) (by simp; omega) ?_)
        intro v5 w5 hown5 hgrow5 _
        have hbA := bel_alloc wr (.cells #[.slice bq q cq] 22)
        have hsA : (wr.alloc (.cells #[.slice bq q cq] 22)).heap.size = wr.heap.size + 1 := by simp
        have hb5 : Below B wr w5 := (hbA.mono (by omega)).grown hgrow5 (by omega) (fun j hj => (hown.lt j hj).1)
        have hbW5 : Below W.heap.size W w5 := HBL.out.trans (hb5.mono (by omega))
        have HHm5 := hid (hm_kept HHm.out hb5 hg4)
        have hfw5 : w5.heap[gw]? = some (.cells (arr .u8 M) 26 (0, 0)) := by rw [hb5.block _ (by omega)]; exact HFW.out
        have hz5 := hb5.size
        have HW5 := hid (macWrite_word (lst .u8 x2) (by rw [lst_length, HX2.out]) g bq cq ((z.drop p).take q) (x1 ++ z.take p) op w5 (HL.out.later hbW5) h2g ⟨by rw [HQL.out]; exact HR1.out.later hbW5, fun h0 ad had => by
            obtain ⟨b', o', hab, hbw', _⟩ := HR1.out.cells h0
            rw [hab] at had
            injection had with had
            subst had
            show b' ≠ g
            omega⟩ HHm5.out (by have := HTL.out; rw [HQL.out]; omega))
        rw [HQL.out, HMQ.out] at HW5
        clear hown hgrow5 hbA hsA hck
        go_wp2_with fail
        go_at_call 23
        refine HW5.out.mono ?_
        rintro _ w6 ⟨rfl, ⟨op6, hm6⟩, hg6⟩
        have ho6 := own_rows_kept hown5 hg6 hg4
        have hbW6 := hbW5.trans (grown_bel hg6 hWg hbW5.size)
        have hfw6 : w6.heap[gw]? = some (.cells (arr .u8 M) 26 (0, 0)) := by rw [hg6.block _ (by omega) (by intro h; injection h with h; omega)]; exact hfw5
        have hz6 := hg6.size
        have HO6 := hid ho6
        have HM6 := hid hm6
        have HB6 := hid hbW6
        clear ho6 hm6 hg6 hbW5 hbW6 hown5 HW5 hb5
        go_wp2
        exact ⟨⟨k + 1, p + q, _, _, op6, a2, c2, by omega, hqp, by go_num, rfl, HR2.out, HV1.out, by simp [hvl], HFL1.out, HO6.out, HM6.out, hfw6, HB6.out, by omega⟩, by simp [intOf]; omega⟩
      · have hkn : (k : Int) < (cn : Int) := by omega
        have hk100 : ¬ (k : Int) < 100 := by omega
        have HFE : Hid ((m ++ [z.drop p]).flatten = z) := by show _ = _; rw [List.flatten_append, List.flatten_singleton, HFL.out, List.take_append_drop]
        have HML : Hid ((m ++ [z.drop p]).length = k + 1) := by show _ = _; rw [List.length_append, ← HV.out.len, hvl]; rfl
        have HVE := hid (HV.out.snoc HRQ.out)
        have HMQ : Hid (x1 ++ z.take p ++ z.drop p = x1 ++ z) := by show _ = _; rw [List.append_assoc, List.take_append_drop]
        have hXl : (x1 ++ z).length ≤ 3000 := by rw [List.length_append, HX1.out, HZN.out]; omega
        have HTL : Hid ((x1 ++ z.take p).length ≤ 3000) := by show _ ≤ _; rw [List.length_append, HX1.out, List.length_take]; omega
        have HW5 := hid (macWrite_word (lst .u8 x2) (by rw [lst_length, HX2.out]) g bq cq (z.drop p) (x1 ++ z.take p) op wr (HL.out.later HBL.out) h2g ⟨by rw [HDL.out]; exact HRQ.out.later HBL.out, fun h0 ad had => by
            obtain ⟨b', o', hab, hbw', _⟩ := HRQ.out.cells h0
            rw [hab] at had
            injection had with had
            subst had
            show b' ≠ g
            omega⟩ HHm.out (by have := HTL.out; rw [HDL.out]; omega))
        rw [HDL.out, HMQ.out] at HW5
        have HO := hid hown
        clear hown
        go_wp2_with fail
        go_at_call 23
        refine HW5.out.mono ?_
        rintro _ w6 ⟨rfl, ⟨op6, hm6⟩, hg6⟩
        have HO6 := hid (own_rows_kept HO.out hg6 hg4)
        have hbW6 := HBL.out.trans (grown_bel hg6 hWg HBL.out.size)
        have hfw6 : w6.heap[gw]? = some (.cells (arr .u8 M) 26 (0, 0)) := by rw [hg6.block _ (by omega) (by intro h; injection h with h; omega)]; exact HFW.out
        have hz6 := hg6.size
        have hsm := macGet_word x2 HX2.out HXB.out g (x1 ++ z) op6 w6 (HL.out.later hbW6) hm6 (by omega)
        rw [HH.out] at hsm
        have HSM := hid hsm
        have HB6 := hid hbW6
        clear hsm hm6 hg6 hbW6 HW5
        go_wp2_with fail
        go_at_call 21
        refine HSM.out.mono ?_
        rintro _ w7 ⟨rfl, hb7⟩
        obtain ⟨q8, f8, z8⟩ := put_new w7 M 26 w7.heap.size rfl
        have hn7 := heap_new w7 (.cells (arr .u8 z32) 26)
        have hz7 := hb7.size
        have hbr8 := Bn hb7 q8
        go_wp2_with (first
          | (refine wpList_alloc_at rfl 26 rfl (some 12) rfl (arr .u8 z32) Tryd.zero26 w7.heap.size rfl ?_)
          | (refine wpList_store_rowTo rfl 26 _ _ rfl rfl w7.heap.size (arr .u8 M) rfl rfl 26 _ hn7 (by rw [arr_size, HDM.out]; exact Tryd.size26') (by rw [arr_size, arr_size, HDM.out]; rfl) (arr_one _ _) ?_))
        have hO8 := own_rows_later HO6.out hbr8
        have f8w : ((w7.alloc (.cells (arr .u8 z32) 26)).setRow w7.heap.size (arr .u8 M)).heap[gw]? = some (.cells (arr .u8 M) 26 (0, 0)) := by rw [hbr8.block _ (by omega)]; exact hfw6
        generalize (w7.alloc (.cells (arr .u8 z32) 26)).setRow w7.heap.size (arr .u8 M) = w8 at *
        have hbW8 := Bn HB6.out hbr8
        have hB8 : B ≤ w8.heap.size := by omega
        have hgw8 : gw < B := by omega
        have h78 : w7.heap.size < w8.heap.size := by omega
        refine wp_region_held_drew (S := fun w' => Below W.heap.size W w' ∧ w'.heap[w7.heap.size]? = some (.cells (arr .u8 M) 26 (0, 0)) ∧ w'.heap[gw]? = some (.cells (arr .u8 M) 26 (0, 0))) (by as_aux_lemma => kernel_rfl) ⟨hbW8.drew, f8, f8w⟩ (fun hS => ?_)
        have hO8d : w8.drew.ownsRow B 22 1 u9 k vals := hO8
        have h7D : w7.heap.size < w8.drew.heap.size := h78
        have hgD : gw < w8.drew.heap.size := by show gw < w8.heap.size; omega
        have hBD : B ≤ w8.drew.heap.size := hB8
        generalize w8.drew = wD at *
        clear z8
        refine Ord.take (i := 0) (d := 67) (v := ?v0p) rfl rfl (by as_aux_lemma => kernel_rfl) (by as_aux_lemma => kernel_rfl) (by as_aux_lemma => kernel_rfl) (fun _ _ _ h => h) (by rfl) ?h0 (by assumption) ?_
        case h0 => intro w hSw; go_simp; try with_reducible rfl
        simp only [List.setIfInBounds_toArray, List.set_cons_zero, List.set_cons_succ]
        refine Ord.take (i := 1) (d := 68) (v := .bool true) rfl rfl (by as_aux_lemma => kernel_rfl) (by as_aux_lemma => kernel_rfl) (by as_aux_lemma => kernel_rfl) (fun _ _ _ h => h) (by rfl) ?h1 (by assumption) ?_
        case h1 => intro w hSw; go_simp; try with_reducible rfl
        simp only [List.setIfInBounds_toArray, List.set_cons_zero, List.set_cons_succ]
        refine Ord.take (i := 2) (d := 69) (v := ?v2p) rfl rfl (by as_aux_lemma => kernel_rfl) (by as_aux_lemma => kernel_rfl) (by as_aux_lemma => kernel_rfl) (fun _ _ _ h => h) (by rfl) ?h2 (by assumption) ?_
        case h2 => intro w hSw; go_simp; try with_reducible rfl
        simp only [List.setIfInBounds_toArray, List.set_cons_zero, List.set_cons_succ]
        refine Ord.take (i := 3) (d := 70) (v := .agg (arr .u8 M)) rfl rfl (by as_aux_lemma => kernel_rfl) (by as_aux_lemma => kernel_rfl) (by as_aux_lemma => kernel_rfl) (fun _ _ _ h => h) (by rfl) ?h3 (by assumption) ?_
        case h3 => exact fun w hSw => run_load_op (p := .pointer (some ⟨w7.heap.size, 0, none⟩)) rfl rfl (load_whole hSw.2.1 Tryd.underlying26 rfl (by rw [HDM.out]; exact Tryd.size26'))
        simp only [List.setIfInBounds_toArray, List.set_cons_zero, List.set_cons_succ]
        refine Ord.take (i := 4) (d := 71) (v := .agg (arr .u8 M)) rfl rfl (by as_aux_lemma => kernel_rfl) (by as_aux_lemma => kernel_rfl) (by as_aux_lemma => kernel_rfl) (fun _ _ _ h => h) (by rfl) ?h4 (by assumption) ?_
        case h4 => exact fun w hSw => run_load_op (p := .pointer (some ⟨gw, 0, none⟩)) rfl rfl (load_whole hSw.2.2 Tryd.underlying26 rfl (by rw [HDM.out]; exact Tryd.size26'))
        simp only [List.setIfInBounds_toArray, List.set_cons_zero, List.set_cons_succ]
        refine Ord.take (i := 5) (d := 72) (v := .bool true) rfl rfl (by as_aux_lemma => kernel_rfl) (by as_aux_lemma => kernel_rfl) (by as_aux_lemma => kernel_rfl) (fun _ _ _ h => h) (by rfl) ?h5 (by assumption) ?_
        case h5 => exact fun w _ => run_eql_op rfl rfl rfl hg (hq w)
        simp only [List.setIfInBounds_toArray, List.set_cons_zero, List.set_cons_succ]
        refine Ord.take (i := 6) (d := 73) (v := .bool true) rfl rfl (by as_aux_lemma => kernel_rfl) (by as_aux_lemma => kernel_rfl) (by as_aux_lemma => kernel_rfl) (fun _ _ _ h => h) (by rfl) ?h6 (by assumption) ?_
        case h6 => intro w hSw; go_simp; try with_reducible rfl
        simp only [List.setIfInBounds_toArray, List.set_cons_zero, List.set_cons_succ]
        refine Ord.take (i := 7) (d := 74) (v := ?v7p) rfl rfl (by as_aux_lemma => kernel_rfl) (by as_aux_lemma => kernel_rfl) (by as_aux_lemma => kernel_rfl) (fun _ _ _ h => h) (by rfl) ?h7 (by assumption) ?_
        case h7 => intro w hSw; go_simp; try with_reducible rfl
        simp only [List.setIfInBounds_toArray, List.set_cons_zero, List.set_cons_succ]
        refine Ord.take (i := 8) (d := 75) (v := ?v8p) rfl rfl (by as_aux_lemma => kernel_rfl) (by as_aux_lemma => kernel_rfl) (by as_aux_lemma => kernel_rfl) (fun _ _ _ h => h) (by rfl) ?h8 (by assumption) ?_
        case h8 => intro w hSw; go_simp; try with_reducible rfl
        simp only [List.setIfInBounds_toArray, List.set_cons_zero, List.set_cons_succ]
        refine Ord.take (i := 9) (d := 76) (v := ?v9p) rfl rfl (by as_aux_lemma => kernel_rfl) (by as_aux_lemma => kernel_rfl) (by as_aux_lemma => kernel_rfl) (fun _ _ _ h => h) (by rfl) ?h9 (by assumption) ?_
        case h9 => intro w hSw; go_simp; try with_reducible rfl
        simp only [List.setIfInBounds_toArray, List.set_cons_zero, List.set_cons_succ]
        refine Ord.take (i := 10) (d := 77) (v := ?v10p) rfl rfl (by as_aux_lemma => kernel_rfl) (by as_aux_lemma => kernel_rfl) (by as_aux_lemma => kernel_rfl) (fun _ _ _ h => h) (by rfl) ?h10 (by assumption) ?_
        case h10 => intro w hSw; go_simp; try with_reducible rfl
        simp only [List.setIfInBounds_toArray, List.set_cons_zero, List.set_cons_succ]
        refine Ord.take (i := 14) (d := 81) (v := .agg (arr .u8 M)) rfl rfl (by as_aux_lemma => kernel_rfl) (by as_aux_lemma => kernel_rfl) (by as_aux_lemma => kernel_rfl) (fun _ _ _ h => h) (by rfl) ?h14 (by assumption) ?_
        case h14 => exact fun w hSw => run_load_op (p := .pointer (some ⟨gw, 0, none⟩)) rfl rfl (load_whole hSw.2.2 Tryd.underlying26 rfl (by rw [HDM.out]; exact Tryd.size26'))
        simp only [List.setIfInBounds_toArray, List.set_cons_zero, List.set_cons_succ]
        refine wpAnyH_ready (rs := [11]) (by as_aux_lemma => kernel_rfl) (by simp) (AllReadyH.cons rfl (fun K hK => ?_) AllReadyH.nil)
        go_simp
        have hbA := bel_alloc wD (.cells #[.slice bq (zn - p) cq] 22)
        have hsA : (wD.alloc (.cells #[.slice bq (zn - p) cq] 22)).heap.size = wD.heap.size + 1 := by simp
        have hSA : Below W.heap.size W (wD.alloc (.cells #[.slice bq (zn - p) cq] 22)) ∧ (wD.alloc (.cells #[.slice bq (zn - p) cq] 22)).heap[w7.heap.size]? = some (.cells (arr .u8 M) 26 (0, 0)) ∧ (wD.alloc (.cells #[.slice bq (zn - p) cq] 22)).heap[gw]? = some (.cells (arr .u8 M) 26 (0, 0)) := ⟨Bn hS.1 hbA, by rw [hbA.block _ (by omega)]; exact hS.2.1, by rw [hbA.block _ (by omega)]; exact hS.2.2⟩
        have hOA := hO8d.alloc (.cells #[.slice bq (zn - p) cq] 22)
        have hnA := row_new wD (.slice bq (zn - p) cq)
        refine hK.out _ _ hSA (fun _ => ?_)
        clear hK K
        generalize wD.alloc (.cells #[.slice bq (zn - p) cq] 22) = wA at *
        refine wpAnyH_ready (rs := [12]) (by as_aux_lemma => kernel_rfl) (by simp) (AllReadyH.cons rfl (fun K hK => ?_) AllReadyH.nil)
        have hBA : B ≤ wA.heap.size := by omega
        refine wp_append_own _ (.tmp 76) (.tmp 78) 29 rfl B 22 i0 (.slice none 0 0) 1 24 Tryd.underlying29 hi hz0 hz1 hz2 rfl (by decide) _ _ _ rfl hOA ⟨wD.heap.size, 0, none⟩ 1 1 [.slice bq (zn - p) cq] rfl rfl hnA (row_cell _ _ _) (by unfold maxLen; omega) (by omega) hBA ?_
        intro v9 w9 ho9 hg9 _
        have hb9 : Below B wA w9 := ⟨hg9.os, hg9.tape, hg9.output, hg9.size, fun q hq => hg9.block q (by omega) (fun h => by have := (hOA.lt q h.symm).1; omega)⟩
        have hbW9 : Below W.heap.size W w9 := hSA.1.trans (hb9.mono (by omega))
        have hgw9 : w9.heap[gw]? = some (.cells (arr .u8 M) 26 (0, 0)) := by rw [hb9.block _ hgw8]; exact hSA.2.2
        have h79 : w9.heap[w7.heap.size]? = some (.cells (arr .u8 M) 26 (0, 0)) := by
          rw [hg9.block _ (by omega) (fun h => by have := (HO6.out.lt _ h.symm).2; omega)]; exact hSA.2.1
        obtain ⟨p9, c9, hv9, hps9⟩ := ps_own (v := v9) HVE.out (by rw [HML.out]; exact ho9) hbW9
        rw [HML.out] at hv9
        subst hv9
        obtain ⟨b9, o9, hab9, _, _⟩ := hps9.cells (by rw [HML.out]; omega)
        subst hab9
        have hms := HMS.out w9 hbW9 ⟨b9, o9, none⟩ c9 _ HFE.out (by rw [HML.out]; omega) (by rw [HML.out]; omega) hps9
        rw [HFE.out, HMM.out, HML.out] at hms
        have HM9 := hid hms
        have hS9 : Below W.heap.size W w9 ∧ w9.heap[w7.heap.size]? = some (.cells (arr .u8 M) 26 (0, 0)) ∧ w9.heap[gw]? = some (.cells (arr .u8 M) 26 (0, 0)) := ⟨hbW9, h79, hgw9⟩
        have hz79 : w7.heap.size < w9.heap.size := by have := hg9.size; omega
        have hzg9 : gw < w9.heap.size := by omega
        refine hK.out _ _ hS9 (fun _ => ?_)
        clear hK K hms hps9 ho9 hg9 hOA hnA
        refine Ord.put (d := 79) rfl ?_
        simp only [List.setIfInBounds_toArray, List.set_cons_zero, List.set_cons_succ]
        refine wpAnyH_ready (rs := [13]) (by as_aux_lemma => kernel_rfl) (by simp) (AllReadyH.cons rfl (fun K hK => ?_) AllReadyH.nil)
        go_simp
        refine HM9.out.mono ?_
        rintro _ w10 ⟨rfl, hb10⟩
        have hS10 : Below W.heap.size W w10 ∧ w10.heap[w7.heap.size]? = some (.cells (arr .u8 M) 26 (0, 0)) ∧ w10.heap[gw]? = some (.cells (arr .u8 M) 26 (0, 0)) := ⟨Bn hS9.1 hb10, by rw [hb10.block _ hz79]; exact hS9.2.1, by rw [hb10.block _ hzg9]; exact hS9.2.2⟩
        refine hK.out _ _ hS10 (fun _ => ?_)
        clear hK K
        refine Ord.take (i := 15) (d := 82) (v := .bool true) rfl rfl (by as_aux_lemma => kernel_rfl) (by as_aux_lemma => kernel_rfl) (by as_aux_lemma => kernel_rfl) (fun _ _ _ h => h) (by rfl) ?h15 (by assumption) ?_
        case h15 => exact fun w _ => run_eql_op rfl rfl rfl hg (hq w)
        simp only [List.setIfInBounds_toArray, List.set_cons_zero, List.set_cons_succ]
        refine Ord.take (i := 16) (d := 83) (v := .bool true) rfl rfl (by as_aux_lemma => kernel_rfl) (by as_aux_lemma => kernel_rfl) (by as_aux_lemma => kernel_rfl) (fun _ _ _ h => h) (by rfl) ?h16 (by assumption) ?_
        case h16 => intro w hSw; go_simp; try with_reducible rfl
        simp only [List.setIfInBounds_toArray, List.set_cons_zero, List.set_cons_succ]
        refine Ord.take (i := 17) (d := 6) (v := .bool true) rfl rfl (by as_aux_lemma => kernel_rfl) (by as_aux_lemma => kernel_rfl) (by as_aux_lemma => kernel_rfl) (fun _ _ _ h => h) (by rfl) ?h17 (by assumption) ?_
        case h17 => intro w hSw; go_simp; try with_reducible rfl
        simp only [List.setIfInBounds_toArray, List.set_cons_zero, List.set_cons_succ]
        refine wpAnyH_done (by as_aux_lemma => kernel_rfl) ?_ _
        have HE := hid hS10.1
        clear hS hSA hS9 hS10 hb10 hbW9 hb9
        go_wp2
        go_ret
        exact ⟨rfl, HE.out⟩
    · have hkn : ¬ (k : Int) < (cn : Int) := by omega
      have HFE : Hid ((m ++ [z.drop p]).flatten = z) := by show _ = _; rw [List.flatten_append, List.flatten_singleton, HFL.out, List.take_append_drop]
      have HML : Hid ((m ++ [z.drop p]).length = k + 1) := by show _ = _; rw [List.length_append, ← HV.out.len, hvl]; rfl
      have HVE := hid (HV.out.snoc HRQ.out)
      have HMQ : Hid (x1 ++ z.take p ++ z.drop p = x1 ++ z) := by show _ = _; rw [List.append_assoc, List.take_append_drop]
      have hXl : (x1 ++ z).length ≤ 3000 := by rw [List.length_append, HX1.out, HZN.out]; omega
      have HTL : Hid ((x1 ++ z.take p).length ≤ 3000) := by show _ ≤ _; rw [List.length_append, HX1.out, List.length_take]; omega
      have HW5 := hid (macWrite_word (lst .u8 x2) (by rw [lst_length, HX2.out]) g bq cq (z.drop p) (x1 ++ z.take p) op wr (HL.out.later HBL.out) h2g ⟨by rw [HDL.out]; exact HRQ.out.later HBL.out, fun h0 ad had => by
          obtain ⟨b', o', hab, hbw', _⟩ := HRQ.out.cells h0
          rw [hab] at had
          injection had with had
          subst had
          show b' ≠ g
          omega⟩ HHm.out (by have := HTL.out; rw [HDL.out]; omega))
      rw [HDL.out, HMQ.out] at HW5
      have HO := hid hown
      clear hown
      go_wp2_with fail
      go_at_call 23
      refine HW5.out.mono ?_
      rintro _ w6 ⟨rfl, ⟨op6, hm6⟩, hg6⟩
      have HO6 := hid (own_rows_kept HO.out hg6 hg4)
      have hbW6 := HBL.out.trans (grown_bel hg6 hWg HBL.out.size)
      have hfw6 : w6.heap[gw]? = some (.cells (arr .u8 M) 26 (0, 0)) := by rw [hg6.block _ (by omega) (by intro h; injection h with h; omega)]; exact HFW.out
      have hz6 := hg6.size
      have hsm := macGet_word x2 HX2.out HXB.out g (x1 ++ z) op6 w6 (HL.out.later hbW6) hm6 (by omega)
      rw [HH.out] at hsm
      have HSM := hid hsm
      have HB6 := hid hbW6
      clear hsm hm6 hg6 hbW6 HW5
      go_wp2_with fail
      go_at_call 21
      refine HSM.out.mono ?_
      rintro _ w7 ⟨rfl, hb7⟩
      obtain ⟨q8, f8, z8⟩ := put_new w7 M 26 w7.heap.size rfl
      have hn7 := heap_new w7 (.cells (arr .u8 z32) 26)
      have hz7 := hb7.size
      have hbr8 := Bn hb7 q8
      go_wp2_with (first
        | (refine wpList_alloc_at rfl 26 rfl (some 12) rfl (arr .u8 z32) Tryd.zero26 w7.heap.size rfl ?_)
        | (refine wpList_store_rowTo rfl 26 _ _ rfl rfl w7.heap.size (arr .u8 M) rfl rfl 26 _ hn7 (by rw [arr_size, HDM.out]; exact Tryd.size26') (by rw [arr_size, arr_size, HDM.out]; rfl) (arr_one _ _) ?_))
      have hO8 := own_rows_later HO6.out hbr8
      have f8w : ((w7.alloc (.cells (arr .u8 z32) 26)).setRow w7.heap.size (arr .u8 M)).heap[gw]? = some (.cells (arr .u8 M) 26 (0, 0)) := by rw [hbr8.block _ (by omega)]; exact hfw6
      generalize (w7.alloc (.cells (arr .u8 z32) 26)).setRow w7.heap.size (arr .u8 M) = w8 at *
      have hbW8 := Bn HB6.out hbr8
      have hB8 : B ≤ w8.heap.size := by omega
      have hgw8 : gw < B := by omega
      have h78 : w7.heap.size < w8.heap.size := by omega
      refine wp_region_held_drew (S := fun w' => Below W.heap.size W w' ∧ w'.heap[w7.heap.size]? = some (.cells (arr .u8 M) 26 (0, 0)) ∧ w'.heap[gw]? = some (.cells (arr .u8 M) 26 (0, 0))) (by as_aux_lemma => kernel_rfl) ⟨hbW8.drew, f8, f8w⟩ (fun hS => ?_)
      have hO8d : w8.drew.ownsRow B 22 1 u9 k vals := hO8
      have h7D : w7.heap.size < w8.drew.heap.size := h78
      have hgD : gw < w8.drew.heap.size := by show gw < w8.heap.size; omega
      have hBD : B ≤ w8.drew.heap.size := hB8
      generalize w8.drew = wD at *
      clear z8
      refine Ord.take (i := 0) (d := 67) (v := ?v0px) rfl rfl (by as_aux_lemma => kernel_rfl) (by as_aux_lemma => kernel_rfl) (by as_aux_lemma => kernel_rfl) (fun _ _ _ h => h) (by rfl) ?h0 (by assumption) ?_
      case h0 => intro w hSw; go_simp; try with_reducible rfl
      simp only [List.setIfInBounds_toArray, List.set_cons_zero, List.set_cons_succ]
      refine Ord.take (i := 1) (d := 68) (v := .bool true) rfl rfl (by as_aux_lemma => kernel_rfl) (by as_aux_lemma => kernel_rfl) (by as_aux_lemma => kernel_rfl) (fun _ _ _ h => h) (by rfl) ?h1 (by assumption) ?_
      case h1 => intro w hSw; go_simp; try with_reducible rfl
      simp only [List.setIfInBounds_toArray, List.set_cons_zero, List.set_cons_succ]
      refine Ord.take (i := 2) (d := 69) (v := ?v2px) rfl rfl (by as_aux_lemma => kernel_rfl) (by as_aux_lemma => kernel_rfl) (by as_aux_lemma => kernel_rfl) (fun _ _ _ h => h) (by rfl) ?h2 (by assumption) ?_
      case h2 => intro w hSw; go_simp; try with_reducible rfl
      simp only [List.setIfInBounds_toArray, List.set_cons_zero, List.set_cons_succ]
      refine Ord.take (i := 3) (d := 70) (v := .agg (arr .u8 M)) rfl rfl (by as_aux_lemma => kernel_rfl) (by as_aux_lemma => kernel_rfl) (by as_aux_lemma => kernel_rfl) (fun _ _ _ h => h) (by rfl) ?h3 (by assumption) ?_
      case h3 => exact fun w hSw => run_load_op (p := .pointer (some ⟨w7.heap.size, 0, none⟩)) rfl rfl (load_whole hSw.2.1 Tryd.underlying26 rfl (by rw [HDM.out]; exact Tryd.size26'))
      simp only [List.setIfInBounds_toArray, List.set_cons_zero, List.set_cons_succ]
      refine Ord.take (i := 4) (d := 71) (v := .agg (arr .u8 M)) rfl rfl (by as_aux_lemma => kernel_rfl) (by as_aux_lemma => kernel_rfl) (by as_aux_lemma => kernel_rfl) (fun _ _ _ h => h) (by rfl) ?h4 (by assumption) ?_
      case h4 => exact fun w hSw => run_load_op (p := .pointer (some ⟨gw, 0, none⟩)) rfl rfl (load_whole hSw.2.2 Tryd.underlying26 rfl (by rw [HDM.out]; exact Tryd.size26'))
      simp only [List.setIfInBounds_toArray, List.set_cons_zero, List.set_cons_succ]
      refine Ord.take (i := 5) (d := 72) (v := .bool true) rfl rfl (by as_aux_lemma => kernel_rfl) (by as_aux_lemma => kernel_rfl) (by as_aux_lemma => kernel_rfl) (fun _ _ _ h => h) (by rfl) ?h5 (by assumption) ?_
      case h5 => exact fun w _ => run_eql_op rfl rfl rfl hg (hq w)
      simp only [List.setIfInBounds_toArray, List.set_cons_zero, List.set_cons_succ]
      refine Ord.take (i := 6) (d := 73) (v := .bool true) rfl rfl (by as_aux_lemma => kernel_rfl) (by as_aux_lemma => kernel_rfl) (by as_aux_lemma => kernel_rfl) (fun _ _ _ h => h) (by rfl) ?h6 (by assumption) ?_
      case h6 => intro w hSw; go_simp; try with_reducible rfl
      simp only [List.setIfInBounds_toArray, List.set_cons_zero, List.set_cons_succ]
      refine Ord.take (i := 7) (d := 74) (v := ?v7px) rfl rfl (by as_aux_lemma => kernel_rfl) (by as_aux_lemma => kernel_rfl) (by as_aux_lemma => kernel_rfl) (fun _ _ _ h => h) (by rfl) ?h7 (by assumption) ?_
      case h7 => intro w hSw; go_simp; try with_reducible rfl
      simp only [List.setIfInBounds_toArray, List.set_cons_zero, List.set_cons_succ]
      refine Ord.take (i := 8) (d := 75) (v := ?v8px) rfl rfl (by as_aux_lemma => kernel_rfl) (by as_aux_lemma => kernel_rfl) (by as_aux_lemma => kernel_rfl) (fun _ _ _ h => h) (by rfl) ?h8 (by assumption) ?_
      case h8 => intro w hSw; go_simp; try with_reducible rfl
      simp only [List.setIfInBounds_toArray, List.set_cons_zero, List.set_cons_succ]
      refine Ord.take (i := 9) (d := 76) (v := ?v9px) rfl rfl (by as_aux_lemma => kernel_rfl) (by as_aux_lemma => kernel_rfl) (by as_aux_lemma => kernel_rfl) (fun _ _ _ h => h) (by rfl) ?h9 (by assumption) ?_
      case h9 => intro w hSw; go_simp; try with_reducible rfl
      simp only [List.setIfInBounds_toArray, List.set_cons_zero, List.set_cons_succ]
      refine Ord.take (i := 10) (d := 77) (v := ?v10px) rfl rfl (by as_aux_lemma => kernel_rfl) (by as_aux_lemma => kernel_rfl) (by as_aux_lemma => kernel_rfl) (fun _ _ _ h => h) (by rfl) ?h10 (by assumption) ?_
      case h10 => intro w hSw; go_simp; try with_reducible rfl
      simp only [List.setIfInBounds_toArray, List.set_cons_zero, List.set_cons_succ]
      refine Ord.take (i := 14) (d := 81) (v := .agg (arr .u8 M)) rfl rfl (by as_aux_lemma => kernel_rfl) (by as_aux_lemma => kernel_rfl) (by as_aux_lemma => kernel_rfl) (fun _ _ _ h => h) (by rfl) ?h14 (by assumption) ?_
      case h14 => exact fun w hSw => run_load_op (p := .pointer (some ⟨gw, 0, none⟩)) rfl rfl (load_whole hSw.2.2 Tryd.underlying26 rfl (by rw [HDM.out]; exact Tryd.size26'))
      simp only [List.setIfInBounds_toArray, List.set_cons_zero, List.set_cons_succ]
      refine wpAnyH_ready (rs := [11]) (by as_aux_lemma => kernel_rfl) (by simp) (AllReadyH.cons rfl (fun K hK => ?_) AllReadyH.nil)
      go_simp
      have hbA := bel_alloc wD (.cells #[.slice bq (zn - p) cq] 22)
      have hsA : (wD.alloc (.cells #[.slice bq (zn - p) cq] 22)).heap.size = wD.heap.size + 1 := by simp
      have hSA : Below W.heap.size W (wD.alloc (.cells #[.slice bq (zn - p) cq] 22)) ∧ (wD.alloc (.cells #[.slice bq (zn - p) cq] 22)).heap[w7.heap.size]? = some (.cells (arr .u8 M) 26 (0, 0)) ∧ (wD.alloc (.cells #[.slice bq (zn - p) cq] 22)).heap[gw]? = some (.cells (arr .u8 M) 26 (0, 0)) := ⟨Bn hS.1 hbA, by rw [hbA.block _ (by omega)]; exact hS.2.1, by rw [hbA.block _ (by omega)]; exact hS.2.2⟩
      have hOA := hO8d.alloc (.cells #[.slice bq (zn - p) cq] 22)
      have hnA := row_new wD (.slice bq (zn - p) cq)
      refine hK.out _ _ hSA (fun _ => ?_)
      clear hK K
      generalize wD.alloc (.cells #[.slice bq (zn - p) cq] 22) = wA at *
      refine wpAnyH_ready (rs := [12]) (by as_aux_lemma => kernel_rfl) (by simp) (AllReadyH.cons rfl (fun K hK => ?_) AllReadyH.nil)
      have hBA : B ≤ wA.heap.size := by omega
      refine wp_append_own _ (.tmp 76) (.tmp 78) 29 rfl B 22 i0 (.slice none 0 0) 1 24 Tryd.underlying29 hi hz0 hz1 hz2 rfl (by decide) _ _ _ rfl hOA ⟨wD.heap.size, 0, none⟩ 1 1 [.slice bq (zn - p) cq] rfl rfl hnA (row_cell _ _ _) (by unfold maxLen; omega) (by omega) hBA ?_
      intro v9 w9 ho9 hg9 _
      have hb9 : Below B wA w9 := ⟨hg9.os, hg9.tape, hg9.output, hg9.size, fun q hq => hg9.block q (by omega) (fun h => by have := (hOA.lt q h.symm).1; omega)⟩
      have hbW9 : Below W.heap.size W w9 := hSA.1.trans (hb9.mono (by omega))
      have hgw9 : w9.heap[gw]? = some (.cells (arr .u8 M) 26 (0, 0)) := by rw [hb9.block _ hgw8]; exact hSA.2.2
      have h79 : w9.heap[w7.heap.size]? = some (.cells (arr .u8 M) 26 (0, 0)) := by
        rw [hg9.block _ (by omega) (fun h => by have := (HO6.out.lt _ h.symm).2; omega)]; exact hSA.2.1
      obtain ⟨p9, c9, hv9, hps9⟩ := ps_own (v := v9) HVE.out (by rw [HML.out]; exact ho9) hbW9
      rw [HML.out] at hv9
      subst hv9
      obtain ⟨b9, o9, hab9, _, _⟩ := hps9.cells (by rw [HML.out]; omega)
      subst hab9
      have hms := HMS.out w9 hbW9 ⟨b9, o9, none⟩ c9 _ HFE.out (by rw [HML.out]; omega) (by rw [HML.out]; omega) hps9
      rw [HFE.out, HMM.out, HML.out] at hms
      have HM9 := hid hms
      have hS9 : Below W.heap.size W w9 ∧ w9.heap[w7.heap.size]? = some (.cells (arr .u8 M) 26 (0, 0)) ∧ w9.heap[gw]? = some (.cells (arr .u8 M) 26 (0, 0)) := ⟨hbW9, h79, hgw9⟩
      have hz79 : w7.heap.size < w9.heap.size := by have := hg9.size; omega
      have hzg9 : gw < w9.heap.size := by omega
      refine hK.out _ _ hS9 (fun _ => ?_)
      clear hK K hms hps9 ho9 hg9 hOA hnA
      refine Ord.put (d := 79) rfl ?_
      simp only [List.setIfInBounds_toArray, List.set_cons_zero, List.set_cons_succ]
      refine wpAnyH_ready (rs := [13]) (by as_aux_lemma => kernel_rfl) (by simp) (AllReadyH.cons rfl (fun K hK => ?_) AllReadyH.nil)
      go_simp
      refine HM9.out.mono ?_
      rintro _ w10 ⟨rfl, hb10⟩
      have hS10 : Below W.heap.size W w10 ∧ w10.heap[w7.heap.size]? = some (.cells (arr .u8 M) 26 (0, 0)) ∧ w10.heap[gw]? = some (.cells (arr .u8 M) 26 (0, 0)) := ⟨Bn hS9.1 hb10, by rw [hb10.block _ hz79]; exact hS9.2.1, by rw [hb10.block _ hzg9]; exact hS9.2.2⟩
      refine hK.out _ _ hS10 (fun _ => ?_)
      clear hK K
      refine Ord.take (i := 15) (d := 82) (v := .bool true) rfl rfl (by as_aux_lemma => kernel_rfl) (by as_aux_lemma => kernel_rfl) (by as_aux_lemma => kernel_rfl) (fun _ _ _ h => h) (by rfl) ?h15 (by assumption) ?_
      case h15 => exact fun w _ => run_eql_op rfl rfl rfl hg (hq w)
      simp only [List.setIfInBounds_toArray, List.set_cons_zero, List.set_cons_succ]
      refine Ord.take (i := 16) (d := 83) (v := .bool true) rfl rfl (by as_aux_lemma => kernel_rfl) (by as_aux_lemma => kernel_rfl) (by as_aux_lemma => kernel_rfl) (fun _ _ _ h => h) (by rfl) ?h16 (by assumption) ?_
      case h16 => intro w hSw; go_simp; try with_reducible rfl
      simp only [List.setIfInBounds_toArray, List.set_cons_zero, List.set_cons_succ]
      refine Ord.take (i := 17) (d := 6) (v := .bool true) rfl rfl (by as_aux_lemma => kernel_rfl) (by as_aux_lemma => kernel_rfl) (by as_aux_lemma => kernel_rfl) (fun _ _ _ h => h) (by rfl) ?h17 (by assumption) ?_
      case h17 => intro w hSw; go_simp; try with_reducible rfl
      simp only [List.setIfInBounds_toArray, List.set_cons_zero, List.set_cons_succ]
      refine wpAnyH_done (by as_aux_lemma => kernel_rfl) ?_ _
      have HE := hid hS10.1
      clear hS hSA hS9 hS10 hb10 hbW9 hb9
      go_wp2
      go_ret
      exact ⟨rfl, HE.out⟩

set_option maxRecDepth 100000 in
theorem lifted (os : Os) (started : os.Started) (H : Type) (enc : TypeId × Value → H) :
    ReturnsInHanded {} Tryd.checked os 7 .any (fun w args => (Rows.macPiecesSpec.pre enc Tryd.prog Tryd.f7 [] false w args ∧ laidMetH Tryd.prog laidL w) ∧ sizedMet enc Tryd.prog Tryd.f7 (OpenSpec.ofChange Rows.macPiecesSpec) false w args)
      (Rows.macPiecesSpec.post enc Tryd.prog Tryd.f7 false true false false) := by
  refine returnsInHanded_of_change_and (C := Tryd.checked) (X := fun w _ => laidMetH Tryd.prog laidL w) (fun _ _ _ hh h => h.of_heap hh) own started (by kernel_rfl) Tryd.func7
    (ChangeSpec.witness_shaped (enc := enc) (C := Tryd.checked) (os := os) (X := fun w _ => laidMetH Tryd.prog laidL w) false (World.doorLaid Tryd.prog 400 os) #[.slice none 0 0, .slice none 0 0, .slice none 0 0] 8 rfl (World.shaped_of_RefB (by kernel_rfl) (by kernel_rfl)) (by kernel_rfl) (by kernel_rfl) (by kernel_rfl) (door_met os _)) ?_
  intro W base args ds gs before hval0 hW _ _ hL _
  have hval : ∀ (j : Nat) t v, Tryd.f7.params[j]? = some t → args[j]? = some v → Value.okWide Tryd.prog W .any base t v := hval0
  have hW' := hW
  obtain ⟨p, q, hA0, hV, rfl, _, _⟩ := hW
  have hA : DataW.TrodAll enc Tryd.prog W 0 (fun _ => true) true Tryd.f7.params.toList args.toList ds p := hA0
  rw [Tryd.params7] at hA hval
  obtain ⟨v0, vs0, d0, ds0, p0, q0, hargs, rfl, rfl, h0, r0⟩ := trodAll_cons hA
  obtain ⟨v1, vs1, d1, ds1, p1, q1, rfl, rfl, rfl, h1, r1⟩ := trodAll_cons r0
  obtain ⟨v2, vs2, d2, ds2, p2, q2, rfl, rfl, rfl, h2, r2⟩ := trodAll_cons r1
  obtain ⟨rfl, rfl, rfl⟩ := trodAll_nil r2
  obtain rfl : args = #[v0, v1, v2] := by cases args; simp_all
  obtain ⟨rfl, rfl⟩ := trodVars_none hV
  have hlaid := of_laid hL
  clear hA0
  simp only [List.append_nil] at hW'
  have hlt0 : ∀ x ∈ p0, x.block < W.heap.size := fun x hx => hW'.lt x (by simp [hx])
  have hk0 := h0
  obtain ⟨a0, cap0, zs0, rfl, hr0⟩ := open_rd (hval 0 22 v0 rfl rfl) h0 hlt0
  have hlt1 : ∀ x ∈ p1, x.block < W.heap.size := fun x hx => hW'.lt x (by simp [hx])
  have hk1 := h1
  obtain ⟨a1, cap1, zs1, rfl, hr1⟩ := open_rd (hval 1 22 v1 rfl rfl) h1 hlt1
  have hlt2 : ∀ x ∈ p2, x.block < W.heap.size := fun x hx => hW'.lt x (by simp [hx])
  have hk2 := h2
  obtain ⟨a2, cap2, zs2, rfl, hr2⟩ := open_rd (hval 2 22 v2 rfl rfl) h2 hlt2
  clear hval0
  refine (walk a0 cap0 zs0 a1 cap1 zs1 a2 cap2 zs2 W hlaid hr0 hr1 hr2).mono fun e W' ⟨he, hb⟩ => ?_
  subst he
  exact ⟨_, rfl, _, _, _, [] ++ [], _, [], hW', trodAll_cons_mk (shut_bool Tryd.underlying4 _) trodAll_mk0, (trodAll_cons_mk (Below.trod Tryd.laidOut (by kernel_rfl) (of_decide_eq_true (by kernel_rfl)) hk0 hb hlt0) (trodAll_cons_mk (Below.trod Tryd.laidOut (by kernel_rfl) (of_decide_eq_true (by kernel_rfl)) hk1 hb hlt1) (trodAll_cons_mk (Below.trod Tryd.laidOut (by kernel_rfl) (of_decide_eq_true (by kernel_rfl)) hk2 hb hlt2) trodAll_mk0))), rfl, hb.frame _, fun h => by cases h⟩

theorem over : Rows.macPiecesRow.holds Tryd.pinned (OpenSpec.ofChange Rows.macPiecesSpec) :=
  OpenClaim.holds_of_wide 7 Tryd.f7 rfl rfl rfl rfl rfl rfl rfl ⟨rfl, rfl, rfl, rfl, rfl⟩ rfl rfl rfl rfl rfl (by kernel_rfl) Tryd.func7 (by kernel_rfl)
    (of_decide_eq_true (by kernel_rfl)) (by unfold Func.isWrapper; first | (rw [if_pos (by decide +kernel)]; kernel_rfl) | (rw [if_neg (by decide +kernel)]; exact ⟨rfl, rfl⟩))
    (fun os started H enc _ => lifted os started H enc)

theorem card : Rows.MacPiecesCardSaid :=
  Claim7.holds_tied_plain_at .later [] [.data, .data] true (true, "2cc0e993b3b64b7b1edc58afe05f57fbf6a628b0274488cf50cfbb3c249229ab") false
    over (fun _ h => by cases h) (by kernel_rfl) (fun _ h => by cases h) macPieces_row_tie rfl ⟨rfl, rfl⟩ (by kernel_rfl) rfl
    (fun f fn hf hfn => by
      obtain rfl : f = 7 := Option.some.inj ((show Tryd.prog.funcNamed "saltern/salternlaw04.MacPieces" = some 7 by kernel_rfl).symm.trans hf) |>.symm
      obtain rfl : fn = Tryd.f7 := (Option.some.inj (Tryd.func7.symm.trans hfn)).symm
      exact ⟨by kernel_rfl, fun j t ht => by
        rw [Tryd.params7] at ht
        have hm : t ∈ [22, 22, 22] := by simpa using Array.mem_of_getElem? ht
        have hall : ([22, 22, 22].all fun u => !Tryd.prog.wantsStandIn u) = true := by kernel_rfl
        exact (show Tryd.prog.wantsStandIn t = false by simpa using List.all_eq_true.1 hall t hm)⟩)
    (by kernel_rfl)

end Go.Proofs.YtkipepodgmfbnaaDoor.macPieces
namespace Go.Proofs.YtkipepodgmfbnaaDoor
theorem macPieces_holds : Rows.MacPiecesCardSaid := macPieces.card
#print axioms macPieces_holds
end Go.Proofs.YtkipepodgmfbnaaDoor
