/-
  Plain facts on the tree of counts as the code makes it: nodes with weights and the nodes that they stand in.
-/
import Derived.Test.YtgecoiakhmnilaaSortMath
namespace Go.Proofs.Ytgecoiakhmnilaa
namespace Hf

abbrev Nodes := List (Int × Int)
def wt (N : Nodes) (i : Nat) : Int := (N.getD i (0, 0)).1
def inn (N : Nodes) (i : Nat) : Int := (N.getD i (0, 0)).2
def useLeaf (n : Nat) (N : Nodes) (l p : Nat) : Bool := p == N.length || (decide (l < n) && decide (wt N l ≤ wt N p))
def takeA (n : Nat) (N : Nodes) (l p : Nat) : Nat := if useLeaf n N l p then l else p
def takeL (n : Nat) (N : Nodes) (l p : Nat) : Nat := if useLeaf n N l p then l + 1 else l
def takeP (n : Nat) (N : Nodes) (l p : Nat) : Nat := if useLeaf n N l p then p else p + 1
structure TS where
  N : Nodes
  l : Nat
  p : Nat
def setIn (N : Nodes) (i : Nat) (v : Int) : Nodes := N.set i (wt N i, v)
def oneA (n : Nat) (s : TS) : Nat := takeA n s.N s.l s.p
def oneB (n : Nat) (s : TS) : Nat := takeA n s.N (takeL n s.N s.l s.p) (takeP n s.N s.l s.p)
def stepH (n : Nat) (s : TS) : TS :=
  ⟨setIn (setIn s.N (oneA n s) (s.N.length : Int)) (oneB n s) (s.N.length : Int) ++ [(wt s.N (oneA n s) + wt s.N (oneB n s), 0)],
   takeL n s.N (takeL n s.N s.l s.p) (takeP n s.N s.l s.p), takeP n s.N (takeL n s.N s.l s.p) (takeP n s.N s.l s.p)⟩
def startT (ws : List Int) : TS := ⟨ws.map (fun x => (x, 0)), 0, ws.length⟩
def treeT (ws : List Int) : Nat → TS
  | 0 => startT ws
  | t + 1 => stepH ws.length (treeT ws t)

theorem setIn_length (N : Nodes) (i : Nat) (v : Int) : (setIn N i v).length = N.length := by simp [setIn]
theorem wt_setIn (N : Nodes) (i : Nat) (v : Int) (j : Nat) : wt (setIn N i v) j = wt N j := by
  unfold wt setIn wt
  simp only [List.getD, List.getElem?_set]
  by_cases e : i = j
  · subst e
    by_cases h : i < N.length
    · simp [h]
    · simp [h]
  · rw [if_neg e]
theorem inn_setIn (N : Nodes) (i : Nat) (v : Int) (j : Nat) (h : i < N.length) : inn (setIn N i v) j = if j = i then v else inn N j := by
  unfold inn setIn
  simp only [List.getD, List.getElem?_set]
  by_cases e : i = j
  · subst e; simp [h]
  · rw [if_neg e, if_neg (fun x => e x.symm)]
theorem wt_app (N : Nodes) (x : Int × Int) (j : Nat) (h : j < N.length) : wt (N ++ [x]) j = wt N j := by
  unfold wt; simp [List.getD, List.getElem?_append_left h]
theorem inn_app (N : Nodes) (x : Int × Int) (j : Nat) (h : j < N.length) : inn (N ++ [x]) j = inn N j := by
  unfold inn; simp [List.getD, List.getElem?_append_left h]
theorem wt_last (N : Nodes) (x : Int × Int) : wt (N ++ [x]) N.length = x.1 := by
  unfold wt; simp [List.getD]
theorem wt_out (N : Nodes) (j : Nat) (h : N.length ≤ j) : wt N j = 0 := by
  unfold wt; simp [List.getD, List.getElem?_eq_none h]

/-- The sum of k weights from i on. -/
def sumW (N : Nodes) : Nat → Nat → Int
  | _, 0 => 0
  | i, k + 1 => wt N i + sumW N (i + 1) k
theorem sumW_congr {N M : Nodes} : ∀ (k i : Nat), (∀ j, i ≤ j → j < i + k → wt N j = wt M j) → sumW N i k = sumW M i k
  | 0, _, _ => rfl
  | k + 1, i, h => by
    rw [sumW, sumW, h i (Nat.le_refl _) (by omega), sumW_congr k (i + 1) (fun j h1 h2 => h j (by omega) (by omega))]
theorem sumW_snoc (N : Nodes) : ∀ (k i : Nat), sumW N i (k + 1) = sumW N i k + wt N (i + k)
  | 0, i => by simp [sumW]
  | k + 1, i => by
    rw [sumW, sumW_snoc N k (i + 1), sumW]
    rw [show i + 1 + k = i + (k + 1) from by omega]
    omega
theorem sumW_nonneg (N : Nodes) (h : ∀ i, 0 ≤ wt N i) : ∀ (k i : Nat), 0 ≤ sumW N i k
  | 0, _ => by simp [sumW]
  | k + 1, i => by
    rw [sumW]
    have := h i
    have := sumW_nonneg N h k (i + 1)
    omega
/-- The weights that stand in none. -/
def freeW (n : Nat) (N : Nodes) (l p : Nat) : Int := sumW N l (n - l) + sumW N p (N.length - p)

structure TI (n : Nat) (C : Int) (t : Nat) (s : TS) : Prop where
  len : s.N.length = n + t
  ln : s.l ≤ n
  np : n ≤ s.p
  pl : s.p ≤ n + t
  cnt : s.l + s.p = 2 * t + n
  pos : ∀ i, 0 ≤ wt s.N i
  sum : freeW n s.N s.l s.p = C
  par : ∀ i, (i < s.l ∨ (n ≤ i ∧ i < s.p)) → (i : Int) < inn s.N i ∧ inn s.N i < ((n + t : Nat) : Int)
  last : 0 < t → s.p < n + t

/-- One node is taken. -/
theorem take_one {n : Nat} {N : Nodes} {l p : Nat} (ln : l ≤ n) (np : n ≤ p) (pl : p ≤ N.length) (hfree : 0 < (n - l) + (N.length - p)) :
    takeA n N l p < N.length ∧ takeL n N l p ≤ n ∧ n ≤ takeP n N l p ∧ takeP n N l p ≤ N.length ∧ takeL n N l p + takeP n N l p = l + p + 1 ∧
    freeW n N l p = wt N (takeA n N l p) + freeW n N (takeL n N l p) (takeP n N l p) ∧
    ((takeA n N l p = l ∧ l < n ∧ takeL n N l p = l + 1 ∧ takeP n N l p = p) ∨ (takeA n N l p = p ∧ p < N.length ∧ takeL n N l p = l ∧ takeP n N l p = p + 1)) := by
  unfold takeA takeL takeP
  cases hu : useLeaf n N l p with
  | true =>
    have hl : l < n := by
      unfold useLeaf at hu
      rw [Bool.or_eq_true, beq_iff_eq, Bool.and_eq_true, decide_eq_true_eq] at hu
      omega
    simp only [if_true]
    refine ⟨by omega, by omega, np, pl, by omega, ?_, Or.inl (by simp [hl])⟩
    unfold freeW
    rw [show n - l = (n - (l + 1)) + 1 from by omega, sumW]
    omega
  | false =>
    have hp : p < N.length := by
      unfold useLeaf at hu
      rw [Bool.or_eq_false_iff] at hu
      have h1 : p ≠ N.length := by simpa using hu.1
      omega
    simp only [Bool.false_eq_true, if_false]
    refine ⟨hp, ln, by omega, by omega, by omega, ?_, Or.inr (by simp [hp])⟩
    unfold freeW
    rw [show N.length - p = (N.length - (p + 1)) + 1 from by omega, sumW]
    omega

theorem TI.step {n : Nat} {C : Int} {t : Nat} {s : TS} (h : TI n C t s) (ht : t + 2 ≤ n) :
    TI n C (t + 1) (stepH n s) ∧ oneA n s < s.N.length ∧ oneB n s < s.N.length ∧ oneA n s ≠ oneB n s ∧ wt s.N (oneA n s) + wt s.N (oneB n s) ≤ C := by
  have hlen := h.len
  have hln := h.ln
  have hnp := h.np
  have hpl := h.pl
  have hcnt := h.cnt
  obtain ⟨a1, a2, a3, a4, a5, a6, a7⟩ := take_one (n := n) (N := s.N) (l := s.l) (p := s.p) h.ln h.np (by omega) (by omega)
  obtain ⟨b1, b2, b3, b4, b5, b6, b7⟩ := take_one (n := n) (N := s.N) (l := takeL n s.N s.l s.p) (p := takeP n s.N s.l s.p) a2 a3 a4 (by omega)
  have hA : oneA n s = takeA n s.N s.l s.p := rfl
  have hB : oneB n s = takeA n s.N (takeL n s.N s.l s.p) (takeP n s.N s.l s.p) := rfl
  have hne : oneA n s ≠ oneB n s := by rw [hA, hB]; omega
  rw [← hA] at a1 a6 a7
  rw [← hB] at b1 b6 b7
  have hl2 : (stepH n s).l = takeL n s.N (takeL n s.N s.l s.p) (takeP n s.N s.l s.p) := rfl
  have hp2 : (stepH n s).p = takeP n s.N (takeL n s.N s.l s.p) (takeP n s.N s.l s.p) := rfl
  have hN2 : (stepH n s).N = setIn (setIn s.N (oneA n s) (s.N.length : Int)) (oneB n s) (s.N.length : Int) ++ [(wt s.N (oneA n s) + wt s.N (oneB n s), 0)] := rfl
  generalize oneA n s = A at *
  generalize oneB n s = B at *
  generalize takeL n s.N (takeL n s.N s.l s.p) (takeP n s.N s.l s.p) = l2 at *
  generalize takeP n s.N (takeL n s.N s.l s.p) (takeP n s.N s.l s.p) = p2 at *
  generalize takeL n s.N s.l s.p = l1 at *
  generalize takeP n s.N s.l s.p = p1 at *
  have hM : (setIn (setIn s.N A (s.N.length : Int)) B (s.N.length : Int)).length = s.N.length := by rw [setIn_length, setIn_length]
  have hwt : ∀ j, j < s.N.length → wt (stepH n s).N j = wt s.N j := fun j hj => by
    rw [hN2, wt_app _ _ _ (by rw [hM]; exact hj), wt_setIn, wt_setIn]
  have hwl : wt (stepH n s).N s.N.length = wt s.N A + wt s.N B := by
    rw [hN2]
    have := wt_last (setIn (setIn s.N A (s.N.length : Int)) B (s.N.length : Int)) (wt s.N A + wt s.N B, 0)
    rw [hM] at this
    exact this
  have hfree2 : 0 ≤ freeW n s.N l2 p2 := by
    unfold freeW
    have := sumW_nonneg s.N h.pos (n - l2) l2
    have := sumW_nonneg s.N h.pos (s.N.length - p2) p2
    omega
  have hC : freeW n s.N s.l s.p = C := h.sum
  have hle : wt s.N A + wt s.N B ≤ C := by omega
  have hlen2 : (stepH n s).N.length = n + (t + 1) := by rw [hN2, List.length_append, hM, hlen]; simp; omega
  refine ⟨⟨hlen2, by rw [hl2]; omega, by rw [hp2]; omega, by rw [hp2]; omega, by rw [hl2, hp2]; omega, fun i => ?_, ?_, fun i hi => ?_, fun _ => by rw [hp2]; omega⟩, a1, b1, hne, hle⟩
  · by_cases hi : i < s.N.length
    · rw [hwt i hi]; exact h.pos i
    · by_cases hi2 : i = s.N.length
      · subst hi2
        rw [hwl]
        have := h.pos A
        have := h.pos B
        omega
      · rw [wt_out _ _ (by rw [hlen2]; omega)]; omega
  · rw [hl2, hp2]
    unfold freeW
    rw [hlen2, show n + (t + 1) - p2 = (s.N.length - p2) + 1 from by omega, sumW_snoc, show p2 + (s.N.length - p2) = s.N.length from by omega, hwl]
    rw [sumW_congr (N := (stepH n s).N) (M := s.N) (n - l2) l2 (fun j h1 h2 => hwt j (by omega)), sumW_congr (N := (stepH n s).N) (M := s.N) (s.N.length - p2) p2 (fun j h1 h2 => hwt j (by omega))]
    unfold freeW at hC a6 b6
    omega
  · rw [hl2, hp2] at hi
    have hil : i < s.N.length := by omega
    rw [hN2, inn_app _ _ _ (by rw [hM]; exact hil), inn_setIn _ _ _ _ (by rw [setIn_length]; exact b1), inn_setIn _ _ _ _ a1]
    by_cases e1 : i = B
    · rw [if_pos e1]; omega
    · rw [if_neg e1]
      by_cases e2 : i = A
      · rw [if_pos e2]; omega
      · rw [if_neg e2]
        have := h.par i (by omega)
        omega

theorem TI.start (ws : List Int) (h : ∀ i, 0 ≤ ws.getD i 0) : TI ws.length (freeW ws.length (startT ws).N 0 ws.length) 0 (startT ws) := by
  refine ⟨by simp [startT], by simp [startT], by simp [startT], by simp [startT], by simp [startT], fun i => ?_, rfl, fun i hi => ?_, fun h => by omega⟩
  · have := h i
    unfold wt startT
    simp only [List.getD, List.getElem?_map] at this ⊢
    generalize ws[i]? = o at this
    cases o with
    | none => simp
    | some x => simpa using this
  · simp [startT] at hi; omega
theorem TI.run (ws : List Int) (h : ∀ i, 0 ≤ ws.getD i 0) (t : Nat) (ht : t + 1 ≤ ws.length) : TI ws.length (freeW ws.length (startT ws).N 0 ws.length) t (treeT ws t) := by
  induction t with
  | zero => exact TI.start ws h
  | succ t ih => exact ((ih (by omega)).step (by omega)).1

/-- Nodes as cells. -/
def flatN (N : Nodes) : List Int := N.flatMap (fun x => [x.1, x.2])
theorem flatN_length (N : Nodes) : (flatN N).length = N.length * 2 := by
  unfold flatN
  induction N with
  | nil => rfl
  | cons x N ih => rw [List.flatMap_cons, List.length_append, ih]; simp; omega
theorem flatN_cons (x : Int × Int) (N : Nodes) : flatN (x :: N) = x.1 :: x.2 :: flatN N := rfl
theorem flatN_wt (N : Nodes) (i : Nat) : (flatN N).getD (2 * i) 0 = wt N i := by
  unfold wt
  induction N generalizing i with
  | nil => simp [flatN]
  | cons x N ih =>
    rw [flatN_cons]
    cases i with
    | zero => simp
    | succ i =>
      have := ih i
      rw [show 2 * (i + 1) = 2 * i + 1 + 1 from by omega]
      simpa using this
theorem flatN_inn (N : Nodes) (i : Nat) : (flatN N).getD (2 * i + 1) 0 = inn N i := by
  unfold inn
  induction N generalizing i with
  | nil => simp [flatN]
  | cons x N ih =>
    rw [flatN_cons]
    cases i with
    | zero => simp
    | succ i =>
      have := ih i
      rw [show 2 * (i + 1) + 1 = 2 * i + 1 + 1 + 1 from by omega]
      simpa using this
theorem flatN_set (N : Nodes) (i : Nat) (v : Int) (h : i < N.length) : (flatN N).set (2 * i + 1) v = flatN (setIn N i v) := by
  unfold setIn wt
  induction N generalizing i with
  | nil => simp at h
  | cons x N ih =>
    cases i with
    | zero => simp [flatN_cons]
    | succ i =>
      have := ih i (by simpa using h)
      rw [show 2 * (i + 1) + 1 = 2 * i + 1 + 1 + 1 from by omega]
      simp only [flatN_cons, List.set_cons_succ, List.getD_cons_succ]
      rw [this]
theorem flatN_app (N : Nodes) (x y : Int) : flatN (N ++ [(x, y)]) = flatN N ++ [x, y] := by
  unfold flatN; simp
end Hf
end Go.Proofs.Ytgecoiakhmnilaa
