/-
  The contract of the document's Bytes.
-/
import Derived.Test.YtgdlmhgjhmcilabByt
namespace Go.Proofs.Ytgdlmhgjhmcilab
open Go.RowKit Lz

theorem flt_chk (t : Tkz) (m : Int) (hm : 0 ≤ m) : fltZ t m = if chkZ t ≠ 0 then 60 else if m < t.1 then 61 else if 65536 - m < t.2.1 then 2 else 0 := by
  have hf := flt_kind t
  rcases kind_three t with k | k | k
  · have hc : chkZ t = 60 := by unfold chkZ; rw [if_pos k]
    unfold fltZ
    rw [if_pos k, hc, if_pos (by decide)]
  · have h1 := hf.1 k
    have hc : chkZ t = 0 := by unfold chkZ; rw [if_neg (by omega)]
    unfold fltZ
    rw [hc, if_neg (show ¬ kindZ t = 0 by omega), if_neg (show ¬ (kindZ t = 2 ∧ m < t.1) by omega), if_neg (show ¬ ((0 : Int) ≠ 0) by simp), if_neg (show ¬ m < t.1 by omega)]
    by_cases h : 65536 < m + t.2.1
    · rw [if_pos h, if_pos (by omega)]
    · rw [if_neg h, if_neg (by omega)]
  · have h1 := hf.2 k
    have hc : chkZ t = 0 := by unfold chkZ; rw [if_neg (by omega)]
    unfold fltZ
    rw [hc, if_neg (show ¬ kindZ t = 0 by omega), if_neg (show ¬ ((0 : Int) ≠ 0) by simp)]
    by_cases h2 : m < t.1
    · rw [if_pos (show kindZ t = 2 ∧ m < t.1 from ⟨k, h2⟩), if_pos h2]
    · rw [if_neg (show ¬ (kindZ t = 2 ∧ m < t.1) from fun h => h2 h.2), if_neg h2]
      by_cases h : 65536 < m + t.2.1
      · rw [if_pos h, if_pos (by omega)]
      · rw [if_neg h, if_neg (by omega)]

end Go.Proofs.Ytgdlmhgjhmcilab
