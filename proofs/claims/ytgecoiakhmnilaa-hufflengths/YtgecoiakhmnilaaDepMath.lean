/-
  Plain facts on how deep the symbols are, by the nodes that nodes stand in.
-/
import Derived.Test.YtgecoiakhmnilaaTreeMath
namespace Go.Proofs.Ytgecoiakhmnilaa
namespace Hf

/-- In how many nodes a node stands, by fuel. -/
def dvF (N : Nodes) : Nat → Nat → Int
  | 0, _ => 0
  | f + 1, i => if i + 1 < N.length then dvF N f (inn N i).toNat + 1 else 0
def dv (N : Nodes) (i : Nat) : Int := dvF N N.length i

/-- All but the last node stand in a later one. -/
def Ups (N : Nodes) : Prop := ∀ i, i + 1 < N.length → (i : Int) < inn N i ∧ inn N i < (N.length : Int)

theorem dvF_more {N : Nodes} (h : Ups N) : ∀ (f g i : Nat), N.length ≤ f + i + 1 → N.length ≤ g + i + 1 → dvF N f i = dvF N g i
  | 0, 0, _, _, _ => rfl
  | 0, g + 1, i, h1, _ => by rw [dvF, dvF, if_neg (by omega)]
  | f + 1, 0, i, _, h2 => by rw [dvF, dvF, if_neg (by omega)]
  | f + 1, g + 1, i, h1, h2 => by
    rw [dvF, dvF]
    by_cases hi : i + 1 < N.length
    · rw [if_pos hi, if_pos hi]
      have hu := h i hi
      rw [dvF_more h f g _ (by omega) (by omega)]
    · rw [if_neg hi, if_neg hi]
theorem dv_step {N : Nodes} (h : Ups N) (i : Nat) (hi : i + 1 < N.length) : dv N i = dv N (inn N i).toNat + 1 := by
  have hu := h i hi
  unfold dv
  obtain ⟨m, hm⟩ : ∃ m, N.length = m + 1 := ⟨N.length - 1, by omega⟩
  conv => lhs; rw [hm, dvF, if_pos hi]
  rw [dvF_more h m N.length _ (by omega) (by omega)]
theorem dv_last (N : Nodes) (i : Nat) (hi : ¬ i + 1 < N.length) : dv N i = 0 := by
  unfold dv
  cases hN : N.length with
  | zero => rfl
  | succ m => rw [dvF, if_neg (by omega)]
theorem dvF_rng (N : Nodes) : ∀ (f i : Nat), 0 ≤ dvF N f i ∧ dvF N f i ≤ (f : Int)
  | 0, _ => by simp [dvF]
  | f + 1, i => by
    rw [dvF]
    have := dvF_rng N f (inn N i).toNat
    split <;> omega
theorem dv_rng (N : Nodes) (i : Nat) : 0 ≤ dv N i ∧ dv N i ≤ (N.length : Int) := dvF_rng N _ i

/-- From the place j on all is known. -/
def belowL (N : Nodes) (j : Nat) : List Int := (List.range N.length).map (fun i => if j ≤ i then dv N i else 0)
theorem belowL_length (N : Nodes) (j : Nat) : (belowL N j).length = N.length := by simp [belowL]
theorem belowL_getD (N : Nodes) (j i : Nat) (h : i < N.length) : (belowL N j).getD i 0 = if j ≤ i then dv N i else 0 := by
  simp [belowL, List.getD, h]
theorem li_ext {l m : List Int} (h : l.length = m.length) (he : ∀ i, i < l.length → l.getD i 0 = m.getD i 0) : l = m := by
  refine List.ext_getElem h (fun i h1 h2 => ?_)
  have := he i h1
  simpa [List.getD, List.getElem?_eq_getElem h1, List.getElem?_eq_getElem h2] using this
theorem belowL_start (N : Nodes) (j : Nat) (hj : N.length ≤ j + 1) : belowL N j = List.replicate N.length 0 := by
  refine li_ext (by simp [belowL]) (fun i hi => ?_)
  rw [belowL_length] at hi
  rw [belowL_getD _ _ _ hi]
  have e : (List.replicate N.length (0 : Int)).getD i 0 = 0 := by simp [List.getD, hi]
  rw [e]
  split
  · exact dv_last N i (by omega)
  · rfl
theorem belowL_set {N : Nodes} (h : Ups N) (j : Nat) (hj : j + 1 < N.length) : (belowL N (j + 1)).set j (dv N (inn N j).toNat + 1) = belowL N j := by
  refine li_ext (by simp [belowL]) (fun i hi => ?_)
  rw [List.length_set, belowL_length] at hi
  rw [sgetD_set _ _ _ _ (by rw [belowL_length]; omega), belowL_getD _ _ _ hi, belowL_getD _ _ _ hi]
  by_cases e : i = j
  · subst e; rw [if_pos rfl, if_pos (Nat.le_refl _), dv_step h i hj]
  · rw [if_neg e]
    by_cases h2 : j ≤ i
    · rw [if_pos (by omega), if_pos h2]
    · rw [if_neg (by omega), if_neg h2]

/-- The depths of the first k symbols, at their places. -/
def outL (m : Nat) (sy : List Int) (B : List Int) : Nat → List Int
  | 0 => List.replicate m 0
  | k + 1 => (outL m sy B k).set (sy.getD k 0).toNat (B.getD k 0)
theorem outL_length (m : Nat) (sy B : List Int) (k : Nat) : (outL m sy B k).length = m := by
  induction k with
  | zero => simp [outL]
  | succ k ih => rw [outL, List.length_set, ih]

/-- How deep the symbols are in the tree of counts. -/
def depthsL (cs : List Int) : List Int :=
  if (srt cs).length = 1 then (List.replicate cs.length 0).set ((srt cs).getD 0 0).toNat 1
  else outL cs.length (srt cs) (belowL (treeT ((srt cs).map (key cs)) ((srt cs).length - 1)).N 0) (srt cs).length

theorem tree_ups (ws : List Int) (h : ∀ i, 0 ≤ ws.getD i 0) (hn : 2 ≤ ws.length) : Ups (treeT ws (ws.length - 1)).N ∧ (treeT ws (ws.length - 1)).N.length = 2 * ws.length - 1 := by
  have hI := TI.run ws h (ws.length - 1) (by omega)
  have hl := hI.len
  refine ⟨fun i hi => ?_, by omega⟩
  have h1 := hI.ln
  have h2 := hI.np
  have h3 := hI.cnt
  have h4 := hI.last (by omega)
  have := hI.par i (by omega)
  rw [hl]
  exact this
end Hf
end Go.Proofs.Ytgecoiakhmnilaa
