/-
  Plain facts: what rotate leaves.
-/
import Derived.Test.YtgecoiakhmnilaaRotate
namespace Go.Proofs.Ytgecoiakhmnilaa
namespace Hf

theorem swapR_getD (X : List Int) (a b : Nat) : ∀ (k : Nat), a + k ≤ b → b + k ≤ X.length → ∀ p, (swapR X a b k).getD p 0 = X.getD (if a ≤ p ∧ p < a + k then b + (p - a) else if b ≤ p ∧ p < b + k then a + (p - b) else p) 0
  | 0, _, _, p => by
    rw [swapR, if_neg (by omega), if_neg (by omega)]
  | k + 1, hab, hb, p => by
    have ih := swapR_getD X a b k (by omega) (by omega)
    have hl := swapR_length X a b k
    rw [swapR, swapL_getD _ _ _ _ (by omega) (by omega), ih, ih, ih]
    by_cases h1 : p = b + k
    · subst h1
      rw [if_pos rfl, if_neg (by omega), if_neg (by omega), if_neg (by omega), if_pos (by omega)]
      congr 1; omega
    · rw [if_neg h1]
      by_cases h2 : p = a + k
      · subst h2
        rw [if_pos rfl, if_neg (by omega), if_neg (by omega), if_pos (by omega)]
        congr 1; omega
      · rw [if_neg h2]
        congr 1
        repeat' split
        all_goals omega
theorem rotG_length (m : Nat) : ∀ (f : Nat) (X : List Int) (i j : Nat), (rotG m f X i j).length = X.length
  | 0, _, _, _ => rfl
  | f + 1, X, i, j => by
    rw [rotG]
    split
    · exact swapR_length _ _ _ _
    · split
      · rw [rotG_length m f, swapR_length]
      · rw [rotG_length m f, swapR_length]
/-- Behind rotate the j numbers from m on stand ahead of the i numbers that stood ahead of m. -/
theorem rotG_getD (m : Nat) : ∀ (f : Nat) (X : List Int) (i j : Nat), 0 < i → 0 < j → i ≤ m → m + j ≤ X.length → i + j ≤ f → ∀ p, (rotG m f X i j).getD p 0 = X.getD (if m - i ≤ p ∧ p < m - i + j then p + i else if m - i + j ≤ p ∧ p < m + j then p - j else p) 0
  | 0, _, i, j, hi, _, _, _, hf, _ => by omega
  | f + 1, X, i, j, hi, hj, him, hmj, hf, p => by
    rw [rotG]
    by_cases hij : i = j
    · subst hij
      rw [if_pos rfl, swapR_getD X _ _ _ (by omega) (by omega)]
      congr 1
      repeat' split
      all_goals omega
    · rw [if_neg hij]
      by_cases hji : j < i
      · rw [if_pos hji, rotG_getD m f _ (i - j) j (by omega) hj (by omega) (by rw [swapR_length]; exact hmj) (by omega), swapR_getD X _ _ _ (by omega) (by omega)]
        congr 1
        repeat' split
        all_goals omega
      · rw [if_neg hji, rotG_getD m f _ i (j - i) hi (by omega) him (by rw [swapR_length]; omega) (by omega), swapR_getD X _ _ _ (by omega) (by omega)]
        congr 1
        repeat' split
        all_goals omega
end Hf
end Go.Proofs.Ytgecoiakhmnilaa
