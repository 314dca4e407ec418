/-
  The contracts of cmp.Compare, of the comparison by counts, and of slices' insertion sort.
-/
import Derived.Test.YtgecoiakhmnilaaPut
import Derived.Test.YtgecoiakhmnilaaSortMath
import Derived.Test.YtgecoiakhmnilaaCost
namespace Go.Proofs.Ytgecoiakhmnilaa
open Go.RowKit Hf

theorem nan_word (x : Int) (w : World) : Calls Try.prog 56 #[.int .i64 x] w fun e w' => e = .returned (.bool false) ∧ w' = w := by
  have h : (x != x) = false := by simp
  go_enter Try.func56, Try.ntmps56
  go_wp2
  go_ret
  exact ⟨rfl, rfl⟩

/-- What cmp.Compare answers. -/
def cmpI (x y : Int) : Int := if x < y then -1 else if y < x then 1 else 0
theorem cmpI_neg (x y : Int) : cmpI x y < 0 ↔ x < y := by
  unfold cmpI; split
  · simp [*]
  · split <;> simp [*]
theorem compare_word (x y : Int) (w : World) : Calls Try.prog 53 #[.int .i64 x, .int .i64 y] w fun e w' => e = .returned (.int .i64 (cmpI x y)) ∧ w' = w := by
  have H1 := hid (nan_word x w)
  have H2 := hid (nan_word y w)
  by_cases h1 : x < y
  · have e : cmpI x y = -1 := by unfold cmpI; rw [if_pos h1]
    rw [e]
    go_enter Try.func53, Try.ntmps53
    go_wp2_with fail
    refine H1.out.mono ?_
    rintro _ w1 ⟨rfl, hw⟩
    obtain rfl := hw.symm
    clear hw
    go_wp2_with fail
    refine H2.out.mono ?_
    rintro _ w1 ⟨rfl, hw⟩
    obtain rfl := hw.symm
    clear hw
    go_wp2
    go_ret
    exact ⟨rfl, rfl⟩
  · by_cases h2 : y < x
    · have e : cmpI x y = 1 := by unfold cmpI; rw [if_neg h1, if_pos h2]
      rw [e]
      go_enter Try.func53, Try.ntmps53
      go_wp2_with fail
      refine H1.out.mono ?_
      rintro _ w1 ⟨rfl, hw⟩
      obtain rfl := hw.symm
      clear hw
      go_wp2_with fail
      refine H2.out.mono ?_
      rintro _ w1 ⟨rfl, hw⟩
      obtain rfl := hw.symm
      clear hw
      go_wp2
      go_ret
      exact ⟨rfl, rfl⟩
    · have e : cmpI x y = 0 := by unfold cmpI; rw [if_neg h1, if_neg h2]
      rw [e]
      go_enter Try.func53, Try.ntmps53
      go_wp2_with fail
      refine H1.out.mono ?_
      rintro _ w1 ⟨rfl, hw⟩
      obtain rfl := hw.symm
      clear hw
      go_wp2_with fail
      refine H2.out.mono ?_
      rintro _ w1 ⟨rfl, hw⟩
      obtain rfl := hw.symm
      clear hw
      go_wp2
      go_ret
      exact ⟨rfl, rfl⟩

/-- The counts' variable in the block gb, and the counts, in blocks other than gs. -/
structure Cts (w : World) (gb gs : Nat) (gc oc cap : Nat) (cs : List Int) : Prop where
  box : w.cell? ⟨gb, 0, none⟩ = some (.slice (some ⟨gc, oc, none⟩) cs.length cap)
  cells : ∀ j, j < cs.length → w.cell? ⟨gc, oc + j, none⟩ = some (.int .i64 (cs.getD j 0))
  small : cs.length ≤ 1000000
  ne1 : gb ≠ gs
  ne2 : gc ≠ gs
theorem Cts.kept {w w' : World} {gb gs gc oc cap : Nat} {cs : List Int} (h : Cts w gb gs gc oc cap cs) (hg : w.grownBy w' (some gs)) : Cts w' gb gs gc oc cap cs :=
  ⟨hg.cell h.box (by simp; exact h.ne1), fun j hj => hg.cell (h.cells j hj) (by simp; exact h.ne2), h.small, h.ne1, h.ne2⟩

set_option maxHeartbeats 800000 in
set_option maxRecDepth 100000 in
theorem cmp_word (i j : Nat) (gb gs gc oc cap : Nat) (cs : List Int) (w : World) (h : Cts w gb gs gc oc cap cs) (hi : i < cs.length) (hj : j < cs.length) :
    Calls Try.prog 52 #[.int .i64 (i : Int), .int .i64 (j : Int), .pointer (some ⟨gb, 0, none⟩)] w fun e w' => e = .returned (.int .i64 (cmpI (key cs (i : Int)) (key cs (j : Int)))) ∧ w' = w.drew := by
  have c0 := h.box
  have c1 := h.cells i hi
  have c2 := h.cells j hj
  have hsm := h.small
  have e1 : key cs (i : Int) = cs.getD i 0 := by unfold key; rw [Int.toNat_natCast]
  have e2 : key cs (j : Int) = cs.getD j 0 := by unfold key; rw [Int.toNat_natCast]
  rw [e1, e2]
  clear h e1 e2
  generalize cs.getD i 0 = x at *
  generalize cs.getD j 0 = y at *
  generalize cs.length = len at *
  have HC := hid (compare_word x y w.drew)
  generalize cmpI x y = z at *
  have hi' : (i : Int) < (len : Int) := by omega
  have hj' : (j : Int) < (len : Int) := by omega
  go_enter Try.func52, Try.ntmps52
  go_wp2_with fail
  refine wp_region_held_drew (S := fun W => W.cell? ⟨gb, 0, none⟩ = some (.slice (some ⟨gc, oc, none⟩) len cap) ∧ W.cell? ⟨gc, oc + i, none⟩ = some (.int .i64 x) ∧ W.cell? ⟨gc, oc + j, none⟩ = some (.int .i64 y)) (by kernel_rfl) ⟨c0, c1, c2⟩ (fun hS => ?_)
  refine Ord.take (i := 0) (d := 6) (v := .slice (some ⟨gc, oc, none⟩) len cap) rfl rfl (by as_aux_lemma => kernel_rfl) (by as_aux_lemma => kernel_rfl) (by as_aux_lemma => kernel_rfl) (fun _ _ _ h => h) (by rfl) ?h0 (by assumption) ?_
  case h0 => intro w hSw; have e := hSw.1; go_simp; try with_reducible rfl
  simp only [List.setIfInBounds_toArray, List.set_cons_zero, List.set_cons_succ]
  refine Ord.take (i := 1) (d := 7) (v := ?v1) rfl rfl (by as_aux_lemma => kernel_rfl) (by as_aux_lemma => kernel_rfl) (by as_aux_lemma => kernel_rfl) (fun _ _ _ h => h) (by rfl) ?h1 (by assumption) ?_
  case h1 => intro w hSw; go_simp; try with_reducible rfl
  simp only [List.setIfInBounds_toArray, List.set_cons_zero, List.set_cons_succ]
  refine Ord.take (i := 2) (d := 8) (v := ?v2) rfl rfl (by as_aux_lemma => kernel_rfl) (by as_aux_lemma => kernel_rfl) (by as_aux_lemma => kernel_rfl) (fun _ _ _ h => h) (by rfl) ?h2 (by assumption) ?_
  case h2 => intro w hSw; go_simp; try with_reducible rfl
  simp only [List.setIfInBounds_toArray, List.set_cons_zero, List.set_cons_succ]
  refine Ord.take (i := 3) (d := 9) (v := .int .i64 x) rfl rfl (by as_aux_lemma => kernel_rfl) (by as_aux_lemma => kernel_rfl) (by as_aux_lemma => kernel_rfl) (fun _ _ _ h => h) (by rfl) ?h3 (by assumption) ?_
  case h3 => intro w hSw; have e := hSw.2.1; go_simp; try with_reducible rfl
  simp only [List.setIfInBounds_toArray, List.set_cons_zero, List.set_cons_succ]
  refine Ord.take (i := 4) (d := 10) (v := .slice (some ⟨gc, oc, none⟩) len cap) rfl rfl (by as_aux_lemma => kernel_rfl) (by as_aux_lemma => kernel_rfl) (by as_aux_lemma => kernel_rfl) (fun _ _ _ h => h) (by rfl) ?h4 (by assumption) ?_
  case h4 => intro w hSw; have e := hSw.1; go_simp; try with_reducible rfl
  simp only [List.setIfInBounds_toArray, List.set_cons_zero, List.set_cons_succ]
  refine Ord.take (i := 5) (d := 11) (v := ?v5) rfl rfl (by as_aux_lemma => kernel_rfl) (by as_aux_lemma => kernel_rfl) (by as_aux_lemma => kernel_rfl) (fun _ _ _ h => h) (by rfl) ?h5 (by assumption) ?_
  case h5 => intro w hSw; go_simp; try with_reducible rfl
  simp only [List.setIfInBounds_toArray, List.set_cons_zero, List.set_cons_succ]
  refine Ord.take (i := 6) (d := 12) (v := ?v6) rfl rfl (by as_aux_lemma => kernel_rfl) (by as_aux_lemma => kernel_rfl) (by as_aux_lemma => kernel_rfl) (fun _ _ _ h => h) (by rfl) ?h6 (by assumption) ?_
  case h6 => intro w hSw; go_simp; try with_reducible rfl
  simp only [List.setIfInBounds_toArray, List.set_cons_zero, List.set_cons_succ]
  refine Ord.take (i := 7) (d := 13) (v := .int .i64 y) rfl rfl (by as_aux_lemma => kernel_rfl) (by as_aux_lemma => kernel_rfl) (by as_aux_lemma => kernel_rfl) (fun _ _ _ h => h) (by rfl) ?h7 (by assumption) ?_
  case h7 => intro w hSw; have e := hSw.2.2; go_simp; try with_reducible rfl
  simp only [List.setIfInBounds_toArray, List.set_cons_zero, List.set_cons_succ]
  refine wpAnyH_ready (rs := [8]) (by as_aux_lemma => kernel_rfl) (by simp) (AllReadyH.cons rfl (fun K hK => ?_) AllReadyH.nil)
  go_simp
  refine HC.out.mono ?_
  rintro _ w1 ⟨rfl, hw⟩
  obtain rfl := hw.symm
  clear hw
  refine hK.out _ _ hS (fun _ => ?_)
  clear hK K
  refine Ord.take (i := 9) (d := 5) (v := ?v9) rfl rfl (by as_aux_lemma => kernel_rfl) (by as_aux_lemma => kernel_rfl) (by as_aux_lemma => kernel_rfl) (fun _ _ _ h => h) (by rfl) ?h9 (by assumption) ?_
  case h9 => intro w hSw; go_simp; try with_reducible rfl
  simp only [List.setIfInBounds_toArray, List.set_cons_zero, List.set_cons_succ]
  refine wpAnyH_done (by as_aux_lemma => kernel_rfl) ?_ _
  go_wp2
  go_ret
  exact ⟨rfl, rfl⟩
end Go.Proofs.Ytgecoiakhmnilaa
