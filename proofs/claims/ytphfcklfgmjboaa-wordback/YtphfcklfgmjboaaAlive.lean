/-
  The contract of the statements' 'alive': it returns true, whatever memory there is.
-/
import Derived.Test.YtphfcklfgmjboaaVar
namespace Go.Proofs.Ytphfcklfgmjboaa
open Go.RowKit

/-- A row of bytes that the call owns, which is not empty: where it lies. -/
theorem own_open {w : World} {B : Nat} {v : Value} {l : List Int} (h : w.ownsRow B 5 1 v l.length (l.map (Value.int .u8))) (hne : 0 < l.length) :
    ∃ g cap, v = .slice (some ⟨g, 0, none⟩) l.length cap ∧ B ≤ g ∧ g < w.heap.size ∧ l.length ≤ cap ∧ cap ≤ maxLen ∧ ∀ j, j < l.length → w.cell? ⟨g, j, none⟩ = some (.int .u8 (l.getD j 0)) := by
  have h' := h
  obtain ⟨_, hcase⟩ := h
  rcases hcase with ⟨_, h0⟩ | ⟨g, cap, cur, rfl, hg, hh, hn, hcap, _, _⟩
  · omega
  · refine ⟨g, cap, rfl, hg, (Array.getElem?_eq_some_iff.1 hh).1, hn, hcap, fun j hj => ?_⟩
    rw [h'.cellAt j (by omega)]
    simp [List.getD, List.getElem?_eq_getElem hj]

theorem bel_drewN {B : Nat} {a w : World} (h : Below B a w) (n : Nat) : Below B a (w.drewN n) := h.trans ⟨rfl, rfl, rfl, Nat.le_refl _, fun _ _ => rfl⟩

theorem wf_i64 {x : Int} (h : (Lit.int .i64 x).wf = true) : -9223372036854775808 ≤ x ∧ x ≤ 9223372036854775807 := by
  have h1 : IntKind.i64.min = -9223372036854775808 := rfl
  have h2 : IntKind.i64.max = 9223372036854775807 := rfl
  simp only [Lit.wf, Bool.and_eq_true, decide_eq_true_eq] at h
  omega
theorem wf_u64 {x : Int} (h : (Lit.int .u64 x).wf = true) : 0 ≤ x ∧ x < 18446744073709551616 := by
  have h1 : IntKind.u64.min = 0 := rfl
  have h2 : IntKind.u64.max = 18446744073709551615 := rfl
  simp only [Lit.wf, Bool.and_eq_true, decide_eq_true_eq] at h
  omega

theorem alive_any (w : World) : Calls Try.prog 11 #[] w fun e w' => e = .returned (.bool true) ∧ Below w.heap.size w w' := by
  have hs8 : (sizeF 8 == 0) = false := rfl
  have ht : Num.turnI 129 8 1 = 3 := by decide
  have hv : vint 300 = [172, 2] := by decide
  go_enter Try.func11, Try.ntmps11
  go_wp2_with fail
  refine (turn_word 129 8 1 _ (by decide) (by decide) (by decide) (by decide) hs8).mono ?_
  rintro e w1 ⟨rfl, m, rfl⟩
  rw [ht]
  go_wp2_with fail
  refine (var_word 300 _ (by decide) (by decide)).mono ?_
  rintro e w2 ⟨v, rfl, hown, hbel⟩
  rw [hv] at hown
  obtain ⟨g, cap, rfl, hg, hgs, hn, hcap, hc⟩ := own_open hown (by decide)
  have c0 : w2.cell? ⟨g, 0, none⟩ = some (.int .u8 172) := hc 0 (by decide)
  have c1 : w2.cell? ⟨g, 1, none⟩ = some (.int .u8 2) := hc 1 (by decide)
  have hb2 : Below w.heap.size w w2 := (bel_drewN (Below.refl _ _) m).trans hbel
  clear hc hown hv ht hs8 hbel
  go_wp2
  go_ret
  exact ⟨rfl, hb2⟩
end Go.Proofs.Ytphfcklfgmjboaa
