/-
  The document's Meet; the law's cut.
-/
import Derived.Test.YtgnjicpmfpgdeaaDoorFrM
namespace Go.Proofs.YtgnjicpmfpgdeaaDoor
open Go.ChangeShapes Go.WideShapes Go.ChangeAt Go.RowKit Go.Deep Go.Lib

attribute [local irreducible] Go.wpList in
set_option maxHeartbeats 12800000 in
set_option maxRecDepth 100000 in
theorem dmeet_word (me peer vow : Int) (f : Fr) (w : World) : Calls Tryd.prog 23 #[.int .u64 me, .int .u64 peer, .int .i64 vow, .agg f.cs.toArray] w fun e w' => e = .returned (.agg (mtV (meetM me peer vow f)).toArray) ∧ Below w.heap.size w w' := by
  have hB1 := bel_alc w (.cells f.cs.toArray 25)
  have e1 := heap_alc w (.cells f.cs.toArray 25)
  have s1 : (w.alloc (.cells f.cs.toArray 25)).heap.size = w.heap.size + 1 := by simp
  have HS1 : Hid (w.heap.size + 1 = (w.alloc (.cells f.cs.toArray 25)).heap.size) := s1.symm
  have HB1 := hid hB1
  have HE1 := hid e1
  have HZ := hid Tryd.zero43
  obtain ⟨R, hR⟩ : ∃ R, R = meetM me peer vow f := ⟨_, rfl⟩
  rw [← hR]
  unfold meetM at hR
  have HRR := hid hR
  clear hB1 e1 s1 hR
  go_enter Tryd.func23, Tryd.ntmps23
  go_wp2_with (first | refine wpList_alloc_W rfl 43 rfl (some 8) rfl _ HZ.out (w.heap.size + 1) HS1.out ?_ | fail)
  intro W1 HG2 HBl2 HS2
  have HBW : Hid (Below (w.alloc (.cells f.cs.toArray 25)).heap.size (w.alloc (.cells f.cs.toArray 25)) W1) := by show Below _ _ _; rw [← HS1.out]; exact HBl2.out
  have HBX := hid (Bn HB1.out HBW.out)
  have hr0 := blk_later HE1.out HBW.out
  have c1 := Fr.c1 (blk_range hr0)
  have c2 := Fr.c2 (blk_range hr0)
  have c3 := Fr.c3 (blk_range hr0)
  obtain ⟨x1, hx1⟩ : ∃ z, z = f.ep := ⟨_, rfl⟩
  obtain ⟨x2, hx2⟩ : ∃ z, z = f.me := ⟨_, rfl⟩
  obtain ⟨x3, hx3⟩ : ∃ z, z = f.yo := ⟨_, rfl⟩
  rw [← hx1] at c1 HRR
  rw [← hx2] at c2 HRR
  rw [← hx3] at c3 HRR
  clear hr0 HBl2 HS2 HBW HE1 HS1 HB1 hx1 hx2 hx3
  by_cases h1 : x2 < peer
  · have HF : Hid (R = (true, decide (peer < x2), (x3 == me), max vow x1, false)) := by show _ = _; rw [HRR.out, decide_eq_true h1]; rfl
    have h1b : ¬ peer ≤ x2 := by omega
    go_wp2_with (first | refine wpList_store_W rfl 43 _ _ rfl rfl (w.heap.size + 1) (mtV (true, decide (peer < x2), (x3 == me), max vow x1, false)).toArray rfl rfl 43 _ HG2.out Tryd.size43 rfl (mtV_one _) ?_ | fail)
    intro W5 HG5 HGR5 HS5
    go_wp2
    refine bodyPost_ret (results_cell_row (ty := 43) rfl _ _ _ _ _ _ _ rfl HG5.out Tryd.underlying43 rfl Tryd.size43) rfl ?_
    exact ⟨by rw [HF.out], HBX.out.trans (bel_grown HGR5.out (Nat.le_succ _) HBX.out.size)⟩
  · have h1b : peer ≤ x2 := by omega
    by_cases h3 : x3 = me
    · have HF : Hid (R = (false, decide (peer < x2), true, max vow x1, decide (vow ≤ x1))) := by show _ = _; rw [HRR.out, decide_eq_false h1, decide_eq_true h3]; rfl
      have h3b : (x3 == me) = true := by simpa using h3
      go_wp2_with (first | refine wpList_store_W rfl 43 _ _ rfl rfl (w.heap.size + 1) (mtV (false, decide (peer < x2), true, max vow x1, decide (vow ≤ x1))).toArray rfl rfl 43 _ HG2.out Tryd.size43 rfl (mtV_one _) ?_ | fail)
      intro W5 HG5 HGR5 HS5
      go_wp2
      refine bodyPost_ret (results_cell_row (ty := 43) rfl _ _ _ _ _ _ _ rfl HG5.out Tryd.underlying43 rfl Tryd.size43) rfl ?_
      exact ⟨by rw [HF.out], HBX.out.trans (bel_grown HGR5.out (Nat.le_succ _) HBX.out.size)⟩
    · have HF : Hid (R = (false, decide (peer < x2), false, max vow x1, false)) := by show _ = _; rw [HRR.out, decide_eq_false h1, decide_eq_false h3]; rfl
      have h3b : (x3 == me) = false := by simpa using h3
      go_wp2_with (first | refine wpList_store_W rfl 43 _ _ rfl rfl (w.heap.size + 1) (mtV (false, decide (peer < x2), false, max vow x1, false)).toArray rfl rfl 43 _ HG2.out Tryd.size43 rfl (mtV_one _) ?_ | fail)
      intro W5 HG5 HGR5 HS5
      go_wp2
      refine bodyPost_ret (results_cell_row (ty := 43) rfl _ _ _ _ _ _ _ rfl HG5.out Tryd.underlying43 rfl Tryd.size43) rfl ?_
      exact ⟨by rw [HF.out], HBX.out.trans (bel_grown HGR5.out (Nat.le_succ _) HBX.out.size)⟩
end Go.Proofs.YtgnjicpmfpgdeaaDoor
