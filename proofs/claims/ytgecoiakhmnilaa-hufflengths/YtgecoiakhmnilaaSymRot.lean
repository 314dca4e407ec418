/-
  What rotate leaves, as the merging wants it.
-/
import Derived.Test.YtgecoiakhmnilaaRotMath
import Derived.Test.YtgecoiakhmnilaaSymMath
namespace Go.Proofs.Ytgecoiakhmnilaa
open Go.RowKit Hf
namespace Hf
theorem swapR_perm (X : List Int) (a b : Nat) : ∀ k, a + k ≤ X.length → b + k ≤ X.length → (swapR X a b k).Perm X
  | 0, _, _ => List.Perm.refl _
  | k + 1, ha, hb => by
    have hl := swapR_length X a b k
    rw [swapR]
    exact (swapL_perm _ _ _ (by omega) (by omega)).trans (swapR_perm X a b k (by omega) (by omega))
theorem rotG_perm (m : Nat) : ∀ (f : Nat) (X : List Int) (i j : Nat), i ≤ m → m + j ≤ X.length → (rotG m f X i j).Perm X
  | 0, _, _, _, _, _ => List.Perm.refl _
  | f + 1, X, i, j, hi, hj => by
    rw [rotG]
    split
    · exact swapR_perm X _ _ _ (by omega) (by omega)
    · split
      · exact (rotG_perm m f _ _ _ (by omega) (by rw [swapR_length]; omega)).trans (swapR_perm X _ _ _ (by omega) (by omega))
      · exact (rotG_perm m f _ _ _ (by omega) (by rw [swapR_length]; omega)).trans (swapR_perm X _ _ _ (by omega) (by omega))
theorem Turned.rot {a m b mid s e : Nat} {o : List Int} (hsum : s + e = mid + m) (has : a ≤ s ∧ e ≤ b) (hsm : s < m) (hme : m < e) (hb : e ≤ o.length) : Turned a m b mid s e o (rotG m (e - s) o (m - s) (e - m)) := by
  refine ⟨rotG_perm m _ _ _ _ (by omega) (by omega), hsum, by omega, by omega, by omega, by omega, by omega, by omega, fun p => ?_⟩
  rw [rotG_getD m (e - s) o (m - s) (e - m) (by omega) (by omega) (by omega) (by omega) (by omega)]
  congr 1
  repeat' split
  all_goals omega
end Hf
end Go.Proofs.Ytgecoiakhmnilaa
