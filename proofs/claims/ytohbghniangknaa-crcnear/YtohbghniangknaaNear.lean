/-
  Rows of bytes of which four side by side are changed: plain facts on lists.
-/
import Derived.Test.YtohbghniangknaaEq
import Derived.Laws.AppendOwn
import Derived.Laws.IdiomArrays
namespace Go.Proofs.Ytohbghniangknaa
open Go.RowKit Crc

/-- The row z behind i rounds. -/
def upd (z : List Nat) (k : Nat) (xs : List Nat) : Nat → List Nat
  | 0 => z
  | i + 1 => (upd z k xs i).set (k + i) ((upd z k xs i).getD (k + i) 0 ^^^ xs.getD i 0)

theorem upd_length (z : List Nat) (k : Nat) (xs : List Nat) (i : Nat) : (upd z k xs i).length = z.length := by
  induction i with
  | zero => rfl
  | succ i ih => rw [upd, List.length_set, ih]

theorem upd_lt (z : List Nat) (k : Nat) (xs : List Nat) (hz : ∀ c ∈ z, c < 256) (hx : ∀ j, xs.getD j 0 < 256) (i : Nat) : ∀ c ∈ upd z k xs i, c < 256 := by
  induction i with
  | zero => exact hz
  | succ i ih =>
    intro c hc
    rw [upd] at hc
    rcases List.mem_or_eq_of_mem_set hc with h | h
    · exact ih c h
    · rw [h]
      exact Nat.xor_lt_two_pow (n := 8) (getD_lt _ ih _) (hx i)

theorem set_at (p s : List Nat) (m : List Nat) (j : Nat) (v : Nat) (hj : j < m.length) : (p ++ m ++ s).set (p.length + j) v = p ++ m.set j v ++ s := by
  rw [List.append_assoc, List.set_append_right _ _ (by omega), show p.length + j - p.length = j from by omega, List.set_append_left _ _ hj, List.append_assoc]

theorem get_at (p s : List Nat) (m : List Nat) (j : Nat) (hj : j < m.length) : (p ++ m ++ s).getD (p.length + j) 0 = m.getD j 0 := by
  simp [List.getD, List.append_assoc, List.getElem?_append_right, List.getElem?_append_left hj]

theorem upd_four (p s : List Nat) (a b c d x0 x1 x2 x3 : Nat) : upd (p ++ [a, b, c, d] ++ s) p.length [x0, x1, x2, x3] 4 = p ++ [a ^^^ x0, b ^^^ x1, c ^^^ x2, d ^^^ x3] ++ s := by
  have u1 : upd (p ++ [a, b, c, d] ++ s) p.length [x0, x1, x2, x3] 1 = p ++ [a ^^^ x0, b, c, d] ++ s := by
    rw [upd, upd, get_at _ _ _ _ (show 0 < [a, b, c, d].length from by simp), set_at _ _ _ _ _ (show 0 < [a, b, c, d].length from by simp)]; rfl
  have u2 : upd (p ++ [a, b, c, d] ++ s) p.length [x0, x1, x2, x3] 2 = p ++ [a ^^^ x0, b ^^^ x1, c, d] ++ s := by
    rw [upd, u1, get_at _ _ _ _ (show 1 < [a ^^^ x0, b, c, d].length from by simp), set_at _ _ _ _ _ (show 1 < [a ^^^ x0, b, c, d].length from by simp)]; rfl
  have u3 : upd (p ++ [a, b, c, d] ++ s) p.length [x0, x1, x2, x3] 3 = p ++ [a ^^^ x0, b ^^^ x1, c ^^^ x2, d] ++ s := by
    rw [upd, u2, get_at _ _ _ _ (show 2 < [a ^^^ x0, b ^^^ x1, c, d].length from by simp), set_at _ _ _ _ _ (show 2 < [a ^^^ x0, b ^^^ x1, c, d].length from by simp)]; rfl
  rw [upd, u3, get_at _ _ _ _ (show 3 < [a ^^^ x0, b ^^^ x1, c ^^^ x2, d].length from by simp), set_at _ _ _ _ _ (show 3 < [a ^^^ x0, b ^^^ x1, c ^^^ x2, d].length from by simp)]
  rfl

theorem split_four (z : List Nat) (k : Nat) (hk : k + 4 ≤ z.length) : ∃ p a b c d s, z = p ++ [a, b, c, d] ++ s ∧ p.length = k := by
  refine ⟨z.take k, z.getD k 0, z.getD (k + 1) 0, z.getD (k + 2) 0, z.getD (k + 3) 0, z.drop (k + 4), ?_, by rw [List.length_take]; omega⟩
  have h0 := drop_cons z k (by omega)
  have h1 := drop_cons z (k + 1) (by omega)
  have h2 := drop_cons z (k + 2) (by omega)
  have h3 := drop_cons z (k + 3) (by omega)
  rw [h1, h2, h3] at h0
  conv => lhs; rw [← List.take_append_drop k z, h0]
  simp

/-- Four bytes as one number. -/
theorem four_num (x0 x1 x2 x3 : Nat) (h0 : x0 < 256) (h1 : x1 < 256) (h2 : x2 < 256) (h3 : x3 < 256) : four (x0 + 256 * x1 + 65536 * x2 + 16777216 * x3) = [x0, x1, x2, x3] := by
  rw [four]
  congr 1
  · omega
  congr 1
  · omega
  congr 1
  · omega
  congr 1
  omega

/-- The sums differ. -/
theorem near_sums (z : List Nat) (k x0 x1 x2 x3 : Nat) (hk : k + 4 ≤ z.length) (h0 : x0 < 256) (h1 : x1 < 256) (h2 : x2 < 256) (h3 : x3 < 256) (hne : ¬ (x0 = 0 ∧ x1 = 0 ∧ x2 = 0 ∧ x3 = 0)) :
    sumL [z] ≠ sumL [upd z k [x0, x1, x2, x3] 4] := by
  obtain ⟨p, a, b, c, d, s, rfl, rfl⟩ := split_four z k hk
  rw [upd_four]
  have e1 : ∀ l : List Nat, sumL [l] = add 0 l := fun l => by simp [sumL]
  rw [e1, e1]
  have h := near 0 (x0 + 256 * x1 + 65536 * x2 + 16777216 * x3) p [a, b, c, d] s (by decide) (by omega) (by omega) rfl
  rw [four_num x0 x1 x2 x3 h0 h1 h2 h3] at h
  exact h
end Go.Proofs.Ytohbghniangknaa
