/-
  What a frame is to a site: frame's Meet.
-/
import Derived.Test.YtgnjicpmfpgdeaaDoorFrJc
namespace Go.Proofs.YtgnjicpmfpgdeaaDoor
open Go.ChangeShapes Go.WideShapes Go.ChangeAt Go.RowKit Go.Deep Go.Lib

attribute [local irreducible] Go.wpList in
set_option maxHeartbeats 12800000 in
set_option maxRecDepth 100000 in
theorem meet_word (me peer vow : Int) (f : Fr) (w : World) : Calls Tryd.prog 22 #[.int .u64 me, .int .u64 peer, .int .i64 vow, .agg f.cs.toArray] w fun e w' => e = .returned (.agg (mtV (meetM me peer vow f)).toArray) ∧ Below w.heap.size w w' := by
  have hB1 := bel_alc w (.cells f.cs.toArray 25)
  have e1 := heap_alc w (.cells f.cs.toArray 25)
  have s1 : (w.alloc (.cells f.cs.toArray 25)).heap.size = w.heap.size + 1 := by simp
  have HS1 : Hid (w.heap.size + 1 = (w.alloc (.cells f.cs.toArray 25)).heap.size) := s1.symm
  have HB1 := hid hB1
  have HE1 := hid e1
  have HZ := hid Tryd.zero43
  obtain ⟨R, hR⟩ : ∃ R, R = meetM me peer vow f := ⟨_, rfl⟩
  rw [← hR]
  unfold meetM at hR
  have HRR := hid hR
  clear hB1 e1 s1 hR
  go_enter Tryd.func22, Tryd.ntmps22
  go_wp2_with (first | refine wpList_alloc_W rfl 43 rfl (some 8) rfl _ HZ.out (w.heap.size + 1) HS1.out ?_ | fail)
  intro W1 HG2 HBl2 HS2
  have HBW : Hid (Below (w.alloc (.cells f.cs.toArray 25)).heap.size (w.alloc (.cells f.cs.toArray 25)) W1) := by show Below _ _ _; rw [← HS1.out]; exact HBl2.out
  have HBX := hid (Bn HB1.out HBW.out)
  have hr0 := blk_later HE1.out HBW.out
  have HC1 := hid (fun X (hX : Below W1.heap.size W1 X) => Fr.c1 (blk_range (blk_later hr0 hX)))
  have HC2 := hid (fun X (hX : Below W1.heap.size W1 X) => Fr.c2 (blk_range (blk_later hr0 hX)))
  have HC3 := hid (fun X (hX : Below W1.heap.size W1 X) => Fr.c3 (blk_range (blk_later hr0 hX)))
  have HG3 := hid (fun X (hX : Below W1.heap.size W1 X) => blk_later HG2.out hX)
  obtain ⟨x1, hx1⟩ : ∃ z, z = f.ep := ⟨_, rfl⟩
  obtain ⟨x2, hx2⟩ : ∃ z, z = f.me := ⟨_, rfl⟩
  obtain ⟨x3, hx3⟩ : ∃ z, z = f.yo := ⟨_, rfl⟩
  rw [← hx1] at HC1 HRR
  rw [← hx2] at HC2 HRR
  rw [← hx3] at HC3 HRR
  clear hr0 HG2 HBl2 HS2 HBW HE1 HS1 HB1 hx1 hx2 hx3
  go_wp2_with fail
  refine wp_region_held_drew (S := fun X => Below W1.heap.size W1 X) (by kernel_rfl) (Below.refl _ _).drew (fun hS_v0 => ?_)
  have hd_v0 : Below W1.heap.size W1 W1.drew := (Below.refl _ _).drew
  generalize W1.drew = v0 at *
  simp only [List.size_toArray, List.length_cons, List.length_nil, Nat.reduceAdd]
  clear hd_v0
  refine Ord.take (i := 0) (d := 11) (v := ?vM0) rfl rfl (by as_aux_lemma => kernel_rfl) (by as_aux_lemma => kernel_rfl) (by as_aux_lemma => kernel_rfl) (fun _ _ _ h => h) (by rfl) ?hM0 (by assumption) ?_
  case hM0 => intro wx hSw; go_simp; try with_reducible rfl
  try simp only [List.setIfInBounds_toArray, List.set_cons_zero, List.set_cons_succ]
  refine Ord.take (i := 1) (d := 12) (v := .int .u64 x2) rfl rfl (by as_aux_lemma => kernel_rfl) (by as_aux_lemma => kernel_rfl) (by as_aux_lemma => kernel_rfl) (fun _ _ _ h => h) (by rfl) ?hM1 (by assumption) ?_
  case hM1 => intro wx hSw; have hc := HC2.out _ hSw; go_simp; try with_reducible rfl
  try simp only [List.setIfInBounds_toArray, List.set_cons_zero, List.set_cons_succ]
  refine Ord.take (i := 2) (d := 13) (v := ?vM2) rfl rfl (by as_aux_lemma => kernel_rfl) (by as_aux_lemma => kernel_rfl) (by as_aux_lemma => kernel_rfl) (fun _ _ _ h => h) (by rfl) ?hM2 (by assumption) ?_
  case hM2 => intro wx hSw; go_simp; try with_reducible rfl
  try simp only [List.setIfInBounds_toArray, List.set_cons_zero, List.set_cons_succ]
  refine Ord.take (i := 3) (d := 14) (v := .bool (decide (x2 < peer))) rfl rfl (by as_aux_lemma => kernel_rfl) (by as_aux_lemma => kernel_rfl) (by as_aux_lemma => kernel_rfl) (fun _ _ _ h => h) (by rfl) ?hM3 (by assumption) ?_
  case hM3 => intro wx hSw; go_simp; try with_reducible rfl
  try simp only [List.setIfInBounds_toArray, List.set_cons_zero, List.set_cons_succ]
  refine Ord.take (i := 4) (d := 15) (v := ?vM4) rfl rfl (by as_aux_lemma => kernel_rfl) (by as_aux_lemma => kernel_rfl) (by as_aux_lemma => kernel_rfl) (fun _ _ _ h => h) (by rfl) ?hM4 (by assumption) ?_
  case hM4 => intro wx hSw; go_simp; try with_reducible rfl
  try simp only [List.setIfInBounds_toArray, List.set_cons_zero, List.set_cons_succ]
  refine Ord.take (i := 5) (d := 16) (v := .int .u64 x3) rfl rfl (by as_aux_lemma => kernel_rfl) (by as_aux_lemma => kernel_rfl) (by as_aux_lemma => kernel_rfl) (fun _ _ _ h => h) (by rfl) ?hM5 (by assumption) ?_
  case hM5 => intro wx hSw; have hc := HC3.out _ hSw; go_simp; try with_reducible rfl
  try simp only [List.setIfInBounds_toArray, List.set_cons_zero, List.set_cons_succ]
  refine Ord.take (i := 6) (d := 17) (v := ?vM6) rfl rfl (by as_aux_lemma => kernel_rfl) (by as_aux_lemma => kernel_rfl) (by as_aux_lemma => kernel_rfl) (fun _ _ _ h => h) (by rfl) ?hM6 (by assumption) ?_
  case hM6 => intro wx hSw; go_simp; try with_reducible rfl
  try simp only [List.setIfInBounds_toArray, List.set_cons_zero, List.set_cons_succ]
  refine Ord.take (i := 7) (d := 18) (v := .bool (x3 == me)) rfl rfl (by as_aux_lemma => kernel_rfl) (by as_aux_lemma => kernel_rfl) (by as_aux_lemma => kernel_rfl) (fun _ _ _ h => h) (by rfl) ?hM7 (by assumption) ?_
  case hM7 => intro wx hSw; go_simp; try with_reducible rfl
  try simp only [List.setIfInBounds_toArray, List.set_cons_zero, List.set_cons_succ]
  refine Ord.take (i := 8) (d := 9) (v := ?vM8) rfl rfl (by as_aux_lemma => kernel_rfl) (by as_aux_lemma => kernel_rfl) (by as_aux_lemma => kernel_rfl) (fun _ _ _ h => h) (by rfl) ?hM8 (by assumption) ?_
  case hM8 => intro wx hSw; go_simp; try with_reducible rfl
  try simp only [List.setIfInBounds_toArray, List.set_cons_zero, List.set_cons_succ]
  refine Ord.take (i := 9) (d := 10) (v := ?vM9) rfl rfl (by as_aux_lemma => kernel_rfl) (by as_aux_lemma => kernel_rfl) (by as_aux_lemma => kernel_rfl) (fun _ _ _ h => h) (by rfl) ?hM9 (by assumption) ?_
  case hM9 => intro wx hSw; go_simp; try with_reducible rfl
  try simp only [List.setIfInBounds_toArray, List.set_cons_zero, List.set_cons_succ]
  refine wpAnyH_done (by as_aux_lemma => kernel_rfl) ?_ _
  have hc1 := HC1.out v0 hS_v0
  have hc2 := HC2.out v0 hS_v0
  have HG4 := hid (HG3.out v0 hS_v0)
  have HBV := hid (Bn HBX.out hS_v0)
  clear hS_v0 HC1 HC2 HC3 HG3 HBX
  by_cases h1 : x2 < peer
  · have HF : Hid (R = (true, decide (peer < x2), (x3 == me), max vow x1, false)) := by show _ = _; rw [HRR.out, decide_eq_true h1]; rfl
    go_wp2_with (first | refine wpList_store_W rfl 43 _ _ rfl rfl (w.heap.size + 1) (mtV (true, decide (peer < x2), (x3 == me), max vow x1, false)).toArray rfl rfl 43 _ HG4.out Tryd.size43 rfl (mtV_one _) ?_ | fail)
    intro W5 HG5 HGR5 HS5
    go_wp2
    refine bodyPost_ret (results_cell_row (ty := 43) rfl _ _ _ _ _ _ _ rfl HG5.out Tryd.underlying43 rfl Tryd.size43) rfl ?_
    exact ⟨by rw [HF.out], HBV.out.trans (bel_grown HGR5.out (Nat.le_succ _) HBV.out.size)⟩
  · by_cases h3 : x3 = me
    · have HF : Hid (R = (false, decide (peer < x2), true, max vow x1, decide (vow ≤ x1))) := by show _ = _; rw [HRR.out, decide_eq_false h1, decide_eq_true h3]; rfl
      have h3b : (x3 == me) = true := by simpa using h3
      go_wp2_with (first | refine wpList_store_W rfl 43 _ _ rfl rfl (w.heap.size + 1) (mtV (false, decide (peer < x2), true, max vow x1, decide (vow ≤ x1))).toArray rfl rfl 43 _ HG4.out Tryd.size43 rfl (mtV_one _) ?_ | fail)
      intro W5 HG5 HGR5 HS5
      go_wp2
      refine bodyPost_ret (results_cell_row (ty := 43) rfl _ _ _ _ _ _ _ rfl HG5.out Tryd.underlying43 rfl Tryd.size43) rfl ?_
      exact ⟨by rw [HF.out], HBV.out.trans (bel_grown HGR5.out (Nat.le_succ _) HBV.out.size)⟩
    · have HF : Hid (R = (false, decide (peer < x2), false, max vow x1, false)) := by show _ = _; rw [HRR.out, decide_eq_false h1, decide_eq_false h3]; rfl
      have h3b : (x3 == me) = false := by simpa using h3
      go_wp2_with (first | refine wpList_store_W rfl 43 _ _ rfl rfl (w.heap.size + 1) (mtV (false, decide (peer < x2), false, max vow x1, false)).toArray rfl rfl 43 _ HG4.out Tryd.size43 rfl (mtV_one _) ?_ | fail)
      intro W5 HG5 HGR5 HS5
      go_wp2
      refine bodyPost_ret (results_cell_row (ty := 43) rfl _ _ _ _ _ _ _ rfl HG5.out Tryd.underlying43 rfl Tryd.size43) rfl ?_
      exact ⟨by rw [HF.out], HBV.out.trans (bel_grown HGR5.out (Nat.le_succ _) HBV.out.size)⟩
end Go.Proofs.YtgnjicpmfpgdeaaDoor
