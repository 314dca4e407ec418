/-
  The contract of the document's Check.
-/
import Derived.Test.YtgdlmhgjhmcilabKind
namespace Go.Proofs.Ytgdlmhgjhmcilab
open Go.RowKit Lz

theorem chk_eq (d n x : Int) : chkZ (d, n, x) = if (d = 0 ∧ n = 1) ∨ (1 ≤ d ∧ d ≤ 4096 ∧ 4 ≤ n ∧ n ≤ 258 ∧ x = 0) then 0 else 60 := by
  unfold chkZ kindZ litB cpyB
  simp only [Bool.and_eq_true, decide_eq_true_eq, beq_iff_eq]
  by_cases h1 : d = 0 ∧ n = 1
  · have h : (d = 0 ∧ n = 1) ∨ (1 ≤ d ∧ d ≤ 4096 ∧ 4 ≤ n ∧ n ≤ 258 ∧ x = 0) := .inl h1
    rw [if_pos h1, if_pos h, if_neg (by decide)]
  · by_cases h2 : 1 ≤ d ∧ d ≤ 4096 ∧ 4 ≤ n ∧ n ≤ 258 ∧ x = 0
    · have h : (d = 0 ∧ n = 1) ∨ (1 ≤ d ∧ d ≤ 4096 ∧ 4 ≤ n ∧ n ≤ 258 ∧ x = 0) := .inr h2
      rw [if_neg h1, if_pos h2, if_pos h, if_neg (by decide)]
    · rw [if_neg h1, if_neg h2, if_pos rfl, if_neg (fun h => h.elim h1 h2)]

end Go.Proofs.Ytgdlmhgjhmcilab
