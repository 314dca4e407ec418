/-
  The contract of the document's Codes.
-/
import Derived.Test.YtgecoiakhmnilabRefCheck
import Derived.Test.YtgecoiakhmnilabCodesW
namespace Go.Proofs.Ytgecoiakhmnilab
open Go.RowKit Hf

/-- The codes of the lengths below n, and of the first i symbols of the length n. -/
def pcF (zs : List Int) (n i j : Nat) : Int := if (0 < zs.getD j 0 ∧ zs.getD j 0 < (n : Int)) ∨ (zs.getD j 0 = (n : Int) ∧ j < i) then codeF zs j else 0
def pcL (zs : List Int) (n i : Nat) : List Int := (List.range zs.length).map (pcF zs n i)
theorem pcL_length (zs : List Int) (n i : Nat) : (pcL zs n i).length = zs.length := by simp [pcL]
theorem pcL_getD (zs : List Int) (n i j : Nat) (h : j < zs.length) : (pcL zs n i).getD j 0 = pcF zs n i j := by
  simp [pcL, List.getD, h]
theorem ilist_ext {l m : List Int} (h : l.length = m.length) (he : ∀ i, i < l.length → l.getD i 0 = m.getD i 0) : l = m := by
  refine List.ext_getElem h (fun i h1 h2 => ?_)
  have := he i h1
  simpa [List.getD, List.getElem?_eq_getElem h1, List.getElem?_eq_getElem h2] using this
theorem igetD_set (l : List Int) (i j : Nat) (v : Int) (h : i < l.length) : (l.set i v).getD j 0 = if j = i then v else l.getD j 0 := by
  simp only [List.getD, List.getElem?_set]
  by_cases e : i = j
  · subst e; simp [h]
  · rw [if_neg e, if_neg (fun x => e x.symm)]
theorem pcL_start (zs : List Int) : pcL zs 1 0 = List.replicate zs.length 0 := by
  refine ilist_ext (by simp [pcL]) (fun j hj => ?_)
  rw [pcL_length] at hj
  rw [pcL_getD _ _ _ _ hj]
  have e : (List.replicate zs.length (0 : Int)).getD j 0 = 0 := by simp [List.getD, hj]
  rw [e]; unfold pcF
  rw [if_neg]
  omega
theorem pcL_hit (zs : List Int) (n i : Nat) (hi : i < zs.length) (hz : zs.getD i 0 = (n : Int)) : (pcL zs n i).set i (codeF zs i) = pcL zs n (i + 1) := by
  refine ilist_ext (by simp [pcL]) (fun j hj => ?_)
  rw [List.length_set, pcL_length] at hj
  rw [igetD_set _ _ _ _ (by rw [pcL_length]; exact hi), pcL_getD _ _ _ _ hj, pcL_getD _ _ _ _ hj]
  by_cases e : j = i
  · subst e; rw [if_pos rfl]; unfold pcF; rw [if_pos (Or.inr ⟨hz, by omega⟩)]
  · rw [if_neg e]; unfold pcF
    by_cases h1 : 0 < zs.getD j 0 ∧ zs.getD j 0 < (n : Int)
    · rw [if_pos (Or.inl h1), if_pos (Or.inl h1)]
    · by_cases h2 : zs.getD j 0 = (n : Int) ∧ j < i
      · rw [if_pos (Or.inr h2), if_pos (Or.inr ⟨h2.1, by omega⟩)]
      · rw [if_neg (by omega), if_neg (by omega)]
theorem pcL_miss (zs : List Int) (n i : Nat) (hz : ¬ zs.getD i 0 = (n : Int)) : pcL zs n (i + 1) = pcL zs n i := by
  refine ilist_ext (by simp [pcL]) (fun j hj => ?_)
  rw [pcL_length] at hj
  rw [pcL_getD _ _ _ _ hj, pcL_getD _ _ _ _ hj]
  unfold pcF
  by_cases e : j = i
  · subst e
    by_cases h1 : 0 < zs.getD j 0 ∧ zs.getD j 0 < (n : Int)
    · rw [if_pos (Or.inl h1), if_pos (Or.inl h1)]
    · rw [if_neg (by omega), if_neg (by omega)]
  · by_cases h1 : 0 < zs.getD j 0 ∧ zs.getD j 0 < (n : Int)
    · rw [if_pos (Or.inl h1), if_pos (Or.inl h1)]
    · by_cases h2 : zs.getD j 0 = (n : Int) ∧ j < i
      · rw [if_pos (Or.inr ⟨h2.1, by omega⟩), if_pos (Or.inr h2)]
      · rw [if_neg (by omega), if_neg (by omega)]
theorem pcL_next (zs : List Int) (n : Nat) (hn : 0 < n) : pcL zs n zs.length = pcL zs (n + 1) 0 := by
  refine ilist_ext (by simp [pcL]) (fun j hj => ?_)
  rw [pcL_length] at hj
  rw [pcL_getD _ _ _ _ hj, pcL_getD _ _ _ _ hj]
  unfold pcF
  by_cases h1 : 0 < zs.getD j 0 ∧ zs.getD j 0 < (n : Int) + 1
  · rw [if_pos (by omega), if_pos (Or.inl (by omega))]
  · rw [if_neg (by omega), if_neg (by omega)]
theorem pcL_full (zs : List Int) (h : ∀ z ∈ zs, 0 ≤ z ∧ z ≤ 15) : pcL zs 16 0 = codesL zs := by
  refine ilist_ext (by simp [pcL, codesL]) (fun j hj => ?_)
  rw [pcL_length] at hj
  rw [pcL_getD _ _ _ _ hj, codesL_getD _ _ hj]
  have hr := h _ (getD_mem zs j hj)
  unfold pcF
  by_cases h1 : 0 < zs.getD j 0
  · rw [if_pos (Or.inl ⟨h1, by omega⟩)]
  · rw [if_neg (by omega)]; unfold codeF; rw [if_neg h1]

end Go.Proofs.Ytgecoiakhmnilab
