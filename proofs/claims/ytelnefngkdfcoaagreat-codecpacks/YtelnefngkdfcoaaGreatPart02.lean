/-
  Plain facts on the tree of counts as the code makes it: nodes with weights and the nodes that they stand in.
-/
import Derived.Test.YtelnefngkdfcoaaGreatPart01
namespace Go.Proofs.YtelnefngkdfcoaaGreat
namespace Hf

abbrev Nodes := List (Int × Int)
def wt (N : Nodes) (i : Nat) : Int := (N.getD i (0, 0)).1
def inn (N : Nodes) (i : Nat) : Int := (N.getD i (0, 0)).2
def useLeaf (n : Nat) (N : Nodes) (l p : Nat) : Bool := p == N.length || (decide (l < n) && decide (wt N l ≤ wt N p))
def takeA (n : Nat) (N : Nodes) (l p : Nat) : Nat := if useLeaf n N l p then l else p
def takeL (n : Nat) (N : Nodes) (l p : Nat) : Nat := if useLeaf n N l p then l + 1 else l
def takeP (n : Nat) (N : Nodes) (l p : Nat) : Nat := if useLeaf n N l p then p else p + 1
structure TS where
  N : Nodes
  l : Nat
  p : Nat
def setIn (N : Nodes) (i : Nat) (v : Int) : Nodes := N.set i (wt N i, v)
def oneA (n : Nat) (s : TS) : Nat := takeA n s.N s.l s.p
def oneB (n : Nat) (s : TS) : Nat := takeA n s.N (takeL n s.N s.l s.p) (takeP n s.N s.l s.p)
def stepH (n : Nat) (s : TS) : TS :=
  ⟨setIn (setIn s.N (oneA n s) (s.N.length : Int)) (oneB n s) (s.N.length : Int) ++ [(wt s.N (oneA n s) + wt s.N (oneB n s), 0)],
   takeL n s.N (takeL n s.N s.l s.p) (takeP n s.N s.l s.p), takeP n s.N (takeL n s.N s.l s.p) (takeP n s.N s.l s.p)⟩
def startT (ws : List Int) : TS := ⟨ws.map (fun x => (x, 0)), 0, ws.length⟩
def treeT (ws : List Int) : Nat → TS
  | 0 => startT ws
  | t + 1 => stepH ws.length (treeT ws t)

theorem setIn_length (N : Nodes) (i : Nat) (v : Int) : (setIn N i v).length = N.length := by simp [setIn]
theorem wt_setIn (N : Nodes) (i : Nat) (v : Int) (j : Nat) : wt (setIn N i v) j = wt N j := by
  unfold wt setIn wt
  simp only [List.getD, List.getElem?_set]
  by_cases e : i = j
  · subst e
    by_cases h : i < N.length
    · simp [h]
    · simp [h]
  · rw [if_neg e]
theorem inn_setIn (N : Nodes) (i : Nat) (v : Int) (j : Nat) (h : i < N.length) : inn (setIn N i v) j = if j = i then v else inn N j := by
  unfold inn setIn
  simp only [List.getD, List.getElem?_set]
  by_cases e : i = j
  · subst e; simp [h]
  · rw [if_neg e, if_neg (fun x => e x.symm)]
theorem wt_app (N : Nodes) (x : Int × Int) (j : Nat) (h : j < N.length) : wt (N ++ [x]) j = wt N j := by
  unfold wt; simp [List.getD, List.getElem?_append_left h]
theorem inn_app (N : Nodes) (x : Int × Int) (j : Nat) (h : j < N.length) : inn (N ++ [x]) j = inn N j := by
  unfold inn; simp [List.getD, List.getElem?_append_left h]
theorem wt_last (N : Nodes) (x : Int × Int) : wt (N ++ [x]) N.length = x.1 := by
  unfold wt; simp [List.getD]
theorem wt_out (N : Nodes) (j : Nat) (h : N.length ≤ j) : wt N j = 0 := by
  unfold wt; simp [List.getD, List.getElem?_eq_none h]

def sumW (N : Nodes) : Nat → Nat → Int
  | _, 0 => 0
  | i, k + 1 => wt N i + sumW N (i + 1) k
theorem sumW_congr {N M : Nodes} : ∀ (k i : Nat), (∀ j, i ≤ j → j < i + k → wt N j = wt M j) → sumW N i k = sumW M i k
  | 0, _, _ => rfl
  | k + 1, i, h => by
    rw [sumW, sumW, h i (Nat.le_refl _) (by omega), sumW_congr k (i + 1) (fun j h1 h2 => h j (by omega) (by omega))]
theorem sumW_snoc (N : Nodes) : ∀ (k i : Nat), sumW N i (k + 1) = sumW N i k + wt N (i + k)
  | 0, i => by simp [sumW]
  | k + 1, i => by
    rw [sumW, sumW_snoc N k (i + 1), sumW]
    rw [show i + 1 + k = i + (k + 1) from by omega]
    omega
theorem sumW_nonneg (N : Nodes) (h : ∀ i, 0 ≤ wt N i) : ∀ (k i : Nat), 0 ≤ sumW N i k
  | 0, _ => by simp [sumW]
  | k + 1, i => by
    rw [sumW]
    have := h i
    have := sumW_nonneg N h k (i + 1)
    omega
def freeW (n : Nat) (N : Nodes) (l p : Nat) : Int := sumW N l (n - l) + sumW N p (N.length - p)

structure TI (n : Nat) (C : Int) (t : Nat) (s : TS) : Prop where
  len : s.N.length = n + t
  ln : s.l ≤ n
  np : n ≤ s.p
  pl : s.p ≤ n + t
  cnt : s.l + s.p = 2 * t + n
  pos : ∀ i, 0 ≤ wt s.N i
  sum : freeW n s.N s.l s.p = C
  par : ∀ i, (i < s.l ∨ (n ≤ i ∧ i < s.p)) → (i : Int) < inn s.N i ∧ inn s.N i < ((n + t : Nat) : Int)
  last : 0 < t → s.p < n + t

theorem take_one {n : Nat} {N : Nodes} {l p : Nat} (ln : l ≤ n) (np : n ≤ p) (pl : p ≤ N.length) (hfree : 0 < (n - l) + (N.length - p)) :
    takeA n N l p < N.length ∧ takeL n N l p ≤ n ∧ n ≤ takeP n N l p ∧ takeP n N l p ≤ N.length ∧ takeL n N l p + takeP n N l p = l + p + 1 ∧
    freeW n N l p = wt N (takeA n N l p) + freeW n N (takeL n N l p) (takeP n N l p) ∧
    ((takeA n N l p = l ∧ l < n ∧ takeL n N l p = l + 1 ∧ takeP n N l p = p) ∨ (takeA n N l p = p ∧ p < N.length ∧ takeL n N l p = l ∧ takeP n N l p = p + 1)) := by
  unfold takeA takeL takeP
  cases hu : useLeaf n N l p with
  | true =>
    have hl : l < n := by
      unfold useLeaf at hu
      rw [Bool.or_eq_true, beq_iff_eq, Bool.and_eq_true, decide_eq_true_eq] at hu
      omega
    simp only [if_true]
    refine ⟨by omega, by omega, np, pl, by omega, ?_, Or.inl (by simp [hl])⟩
    unfold freeW
    rw [show n - l = (n - (l + 1)) + 1 from by omega, sumW]
    omega
  | false =>
    have hp : p < N.length := by
      unfold useLeaf at hu
      rw [Bool.or_eq_false_iff] at hu
      have h1 : p ≠ N.length := by simpa using hu.1
      omega
    simp only [Bool.false_eq_true, if_false]
    refine ⟨hp, ln, by omega, by omega, by omega, ?_, Or.inr (by simp [hp])⟩
    unfold freeW
    rw [show N.length - p = (N.length - (p + 1)) + 1 from by omega, sumW]
    omega

theorem TI.step {n : Nat} {C : Int} {t : Nat} {s : TS} (h : TI n C t s) (ht : t + 2 ≤ n) :
    TI n C (t + 1) (stepH n s) ∧ oneA n s < s.N.length ∧ oneB n s < s.N.length ∧ oneA n s ≠ oneB n s ∧ wt s.N (oneA n s) + wt s.N (oneB n s) ≤ C := by
  have hlen := h.len
  have hln := h.ln
  have hnp := h.np
  have hpl := h.pl
  have hcnt := h.cnt
  obtain ⟨a1, a2, a3, a4, a5, a6, a7⟩ := take_one (n := n) (N := s.N) (l := s.l) (p := s.p) h.ln h.np (by omega) (by omega)
  obtain ⟨b1, b2, b3, b4, b5, b6, b7⟩ := take_one (n := n) (N := s.N) (l := takeL n s.N s.l s.p) (p := takeP n s.N s.l s.p) a2 a3 a4 (by omega)
  have hA : oneA n s = takeA n s.N s.l s.p := rfl
  have hB : oneB n s = takeA n s.N (takeL n s.N s.l s.p) (takeP n s.N s.l s.p) := rfl
  have hne : oneA n s ≠ oneB n s := by rw [hA, hB]; omega
  rw [← hA] at a1 a6 a7
  rw [← hB] at b1 b6 b7
  have hl2 : (stepH n s).l = takeL n s.N (takeL n s.N s.l s.p) (takeP n s.N s.l s.p) := rfl
  have hp2 : (stepH n s).p = takeP n s.N (takeL n s.N s.l s.p) (takeP n s.N s.l s.p) := rfl
  have hN2 : (stepH n s).N = setIn (setIn s.N (oneA n s) (s.N.length : Int)) (oneB n s) (s.N.length : Int) ++ [(wt s.N (oneA n s) + wt s.N (oneB n s), 0)] := rfl
  generalize oneA n s = A at *
  generalize oneB n s = B at *
  generalize takeL n s.N (takeL n s.N s.l s.p) (takeP n s.N s.l s.p) = l2 at *
  generalize takeP n s.N (takeL n s.N s.l s.p) (takeP n s.N s.l s.p) = p2 at *
  generalize takeL n s.N s.l s.p = l1 at *
  generalize takeP n s.N s.l s.p = p1 at *
  have hM : (setIn (setIn s.N A (s.N.length : Int)) B (s.N.length : Int)).length = s.N.length := by rw [setIn_length, setIn_length]
  have hwt : ∀ j, j < s.N.length → wt (stepH n s).N j = wt s.N j := fun j hj => by
    rw [hN2, wt_app _ _ _ (by rw [hM]; exact hj), wt_setIn, wt_setIn]
  have hwl : wt (stepH n s).N s.N.length = wt s.N A + wt s.N B := by
    rw [hN2]
    have := wt_last (setIn (setIn s.N A (s.N.length : Int)) B (s.N.length : Int)) (wt s.N A + wt s.N B, 0)
    rw [hM] at this
    exact this
  have hfree2 : 0 ≤ freeW n s.N l2 p2 := by
    unfold freeW
    have := sumW_nonneg s.N h.pos (n - l2) l2
    have := sumW_nonneg s.N h.pos (s.N.length - p2) p2
    omega
  have hC : freeW n s.N s.l s.p = C := h.sum
  have hle : wt s.N A + wt s.N B ≤ C := by omega
  have hlen2 : (stepH n s).N.length = n + (t + 1) := by rw [hN2, List.length_append, hM, hlen]; simp; omega
  refine ⟨⟨hlen2, by rw [hl2]; omega, by rw [hp2]; omega, by rw [hp2]; omega, by rw [hl2, hp2]; omega, fun i => ?_, ?_, fun i hi => ?_, fun _ => by rw [hp2]; omega⟩, a1, b1, hne, hle⟩
  · by_cases hi : i < s.N.length
    · rw [hwt i hi]; exact h.pos i
    · by_cases hi2 : i = s.N.length
      · subst hi2
        rw [hwl]
        have := h.pos A
        have := h.pos B
        omega
      · rw [wt_out _ _ (by rw [hlen2]; omega)]; omega
  · rw [hl2, hp2]
    unfold freeW
    rw [hlen2, show n + (t + 1) - p2 = (s.N.length - p2) + 1 from by omega, sumW_snoc, show p2 + (s.N.length - p2) = s.N.length from by omega, hwl]
    rw [sumW_congr (N := (stepH n s).N) (M := s.N) (n - l2) l2 (fun j h1 h2 => hwt j (by omega)), sumW_congr (N := (stepH n s).N) (M := s.N) (s.N.length - p2) p2 (fun j h1 h2 => hwt j (by omega))]
    unfold freeW at hC a6 b6
    omega
  · rw [hl2, hp2] at hi
    have hil : i < s.N.length := by omega
    rw [hN2, inn_app _ _ _ (by rw [hM]; exact hil), inn_setIn _ _ _ _ (by rw [setIn_length]; exact b1), inn_setIn _ _ _ _ a1]
    by_cases e1 : i = B
    · rw [if_pos e1]; omega
    · rw [if_neg e1]
      by_cases e2 : i = A
      · rw [if_pos e2]; omega
      · rw [if_neg e2]
        have := h.par i (by omega)
        omega

theorem TI.start (ws : List Int) (h : ∀ i, 0 ≤ ws.getD i 0) : TI ws.length (freeW ws.length (startT ws).N 0 ws.length) 0 (startT ws) := by
  refine ⟨by simp [startT], by simp [startT], by simp [startT], by simp [startT], by simp [startT], fun i => ?_, rfl, fun i hi => ?_, fun h => by omega⟩
  · have := h i
    unfold wt startT
    simp only [List.getD, List.getElem?_map] at this ⊢
    generalize ws[i]? = o at this
    cases o with
    | none => simp
    | some x => simpa using this
  · simp [startT] at hi; omega
theorem TI.run (ws : List Int) (h : ∀ i, 0 ≤ ws.getD i 0) (t : Nat) (ht : t + 1 ≤ ws.length) : TI ws.length (freeW ws.length (startT ws).N 0 ws.length) t (treeT ws t) := by
  induction t with
  | zero => exact TI.start ws h
  | succ t ih => exact ((ih (by omega)).step (by omega)).1

def flatN (N : Nodes) : List Int := N.flatMap (fun x => [x.1, x.2])
theorem flatN_length (N : Nodes) : (flatN N).length = N.length * 2 := by
  unfold flatN
  induction N with
  | nil => rfl
  | cons x N ih => rw [List.flatMap_cons, List.length_append, ih]; simp; omega
theorem flatN_cons (x : Int × Int) (N : Nodes) : flatN (x :: N) = x.1 :: x.2 :: flatN N := rfl
theorem flatN_wt (N : Nodes) (i : Nat) : (flatN N).getD (2 * i) 0 = wt N i := by
  unfold wt
  induction N generalizing i with
  | nil => simp [flatN]
  | cons x N ih =>
    rw [flatN_cons]
    cases i with
    | zero => simp
    | succ i =>
      have := ih i
      rw [show 2 * (i + 1) = 2 * i + 1 + 1 from by omega]
      simpa using this
theorem flatN_inn (N : Nodes) (i : Nat) : (flatN N).getD (2 * i + 1) 0 = inn N i := by
  unfold inn
  induction N generalizing i with
  | nil => simp [flatN]
  | cons x N ih =>
    rw [flatN_cons]
    cases i with
    | zero => simp
    | succ i =>
      have := ih i
      rw [show 2 * (i + 1) + 1 = 2 * i + 1 + 1 + 1 from by omega]
      simpa using this
theorem flatN_set (N : Nodes) (i : Nat) (v : Int) (h : i < N.length) : (flatN N).set (2 * i + 1) v = flatN (setIn N i v) := by
  unfold setIn wt
  induction N generalizing i with
  | nil => simp at h
  | cons x N ih =>
    cases i with
    | zero => simp [flatN_cons]
    | succ i =>
      have := ih i (by simpa using h)
      rw [show 2 * (i + 1) + 1 = 2 * i + 1 + 1 + 1 from by omega]
      simp only [flatN_cons, List.set_cons_succ, List.getD_cons_succ]
      rw [this]
theorem flatN_app (N : Nodes) (x y : Int) : flatN (N ++ [(x, y)]) = flatN N ++ [x, y] := by
  unfold flatN; simp
end Hf
end Go.Proofs.YtelnefngkdfcoaaGreat
/-
  Plain facts: what the merging of two sorted stretches that stand side by side owes, step by step.
-/
namespace Go.Proofs.YtelnefngkdfcoaaGreat
namespace Hf

structure Same (a b : Nat) (o X : List Int) : Prop where
  perm : X.Perm o
  out : ∀ p, p < a ∨ b ≤ p → X.getD p 0 = o.getD p 0
theorem Sorted.same {cs : List Int} {a b : Nat} {o X : List Int} (h : Sorted cs a b o X) : Same a b o X := ⟨h.perm, h.out⟩
theorem ext_getD {l m : List Int} (hl : l.length = m.length) (h : ∀ p, p < l.length → l.getD p 0 = m.getD p 0) : l = m := by
  refine List.ext_getElem hl (fun i h1 h2 => ?_)
  have := h i h1
  simpa [List.getD, List.getElem?_eq_getElem h1, List.getElem?_eq_getElem h2] using this
theorem getD_take' (l : List Int) (n p : Nat) (h : p < n) : (l.take n).getD p 0 = l.getD p 0 := by
  simp only [List.getD, List.getElem?_take, if_pos h]
theorem getD_drop' (l : List Int) (n p : Nat) : (l.drop n).getD p 0 = l.getD (n + p) 0 := by
  simp only [List.getD, List.getElem?_drop]
theorem mem_getD {l : List Int} {u : Int} (h : u ∈ l) : ∃ p, p < l.length ∧ l.getD p 0 = u := by
  obtain ⟨p, hp, e⟩ := List.getElem_of_mem h
  exact ⟨p, hp, by simp [List.getD, List.getElem?_eq_getElem hp, e]⟩
theorem getD_in {l : List Int} (p : Nat) (h : p < l.length) : l.getD p 0 ∈ l := by
  have e : l.getD p 0 = l[p] := by simp [List.getD, List.getElem?_eq_getElem h]
  rw [e]; exact List.getElem_mem h
theorem cut3 (l : List Int) (a k : Nat) : l = l.take a ++ ((l.drop a).take k ++ l.drop (a + k)) := by
  have h1 : (l.drop a).take k ++ l.drop (a + k) = l.drop a := by
    rw [← List.drop_drop]; exact List.take_append_drop k (l.drop a)
  rw [h1, List.take_append_drop]
theorem Same.mem {a b : Nat} {o X : List Int} (h : Same a b o X) (hb : b ≤ o.length) (p : Nat) (h1 : a ≤ p) (h2 : p < b) : ∃ q, a ≤ q ∧ q < b ∧ X.getD p 0 = o.getD q 0 := by
  obtain ⟨k, rfl⟩ : ∃ k, b = a + k := ⟨b - a, by omega⟩
  have hl := h.perm.length_eq
  have e1 : X.take a = o.take a := ext_getD (by simp [hl]) (fun q hq => by
    rw [List.length_take] at hq
    rw [getD_take' _ _ _ (by omega), getD_take' _ _ _ (by omega)]
    exact h.out q (by omega))
  have e2 : X.drop (a + k) = o.drop (a + k) := ext_getD (by simp [hl]) (fun q _ => by
    rw [getD_drop', getD_drop']
    exact h.out _ (by omega))
  have hp := h.perm
  rw [cut3 X a k, cut3 o a k, e1, e2] at hp
  have hp2 := (List.perm_append_right_iff _).1 ((List.perm_append_left_iff _).1 hp)
  have hm : X.getD p 0 ∈ (X.drop a).take k := by
    have e3 : ((X.drop a).take k).getD (p - a) 0 = X.getD p 0 := by
      rw [getD_take' _ _ _ (by omega), getD_drop']; congr 1; omega
    rw [← e3]
    exact getD_in _ (by rw [List.length_take, List.length_drop]; omega)
  obtain ⟨q, hq, e⟩ := mem_getD (hp2.subset hm)
  rw [List.length_take, List.length_drop] at hq
  refine ⟨a + q, by omega, by omega, ?_⟩
  rw [← e, getD_take' _ _ _ (by omega), getD_drop']

structure Mrg (cs : List Int) (a m b : Nat) (o : List Int) : Prop where
  lo : ∀ p q, a ≤ p → p < q → q < m → Lx cs (o.getD p 0) (o.getD q 0)
  hi : ∀ p q, m ≤ p → p < q → q < b → Lx cs (o.getD p 0) (o.getD q 0)
  less : ∀ p q, a ≤ p → p < m → m ≤ q → q < b → o.getD p 0 < o.getD q 0
theorem Mrg.left {cs : List Int} {a m b : Nat} {o : List Int} (h : Mrg cs a m b o) {p q : Nat} (h1 : a ≤ p) (h2 : p < m) (h3 : m ≤ q) (h4 : q < b) (hk : key cs (o.getD p 0) ≤ key cs (o.getD q 0)) : Lx cs (o.getD p 0) (o.getD q 0) := by
  have := h.less p q h1 h2 h3 h4
  unfold Lx; omega
theorem Mrg.lo' {cs : List Int} {a m b : Nat} {o : List Int} (h : Mrg cs a m b o) {x : Int} {p q : Nat} (h1 : a ≤ p) (h2 : p ≤ q) (h3 : q < m) (hx : Lx cs (o.getD q 0) x) : Lx cs (o.getD p 0) x := by
  by_cases e : p = q
  · rw [e]; exact hx
  · exact (h.lo p q h1 (by omega) h3).trans hx
theorem Mrg.lo'' {cs : List Int} {a m b : Nat} {o : List Int} (h : Mrg cs a m b o) {x : Int} {p q : Nat} (h1 : a ≤ p) (h2 : p ≤ q) (h3 : q < m) (hx : Lx cs x (o.getD p 0)) : Lx cs x (o.getD q 0) := by
  by_cases e : p = q
  · rw [← e]; exact hx
  · exact hx.trans (h.lo p q h1 (by omega) h3)
theorem Mrg.hi' {cs : List Int} {a m b : Nat} {o : List Int} (h : Mrg cs a m b o) {x : Int} {p q : Nat} (h1 : m ≤ p) (h2 : p ≤ q) (h3 : q < b) (hx : Lx cs (o.getD q 0) x) : Lx cs (o.getD p 0) x := by
  by_cases e : p = q
  · rw [e]; exact hx
  · exact (h.hi p q h1 (by omega) h3).trans hx
theorem Mrg.hi'' {cs : List Int} {a m b : Nat} {o : List Int} (h : Mrg cs a m b o) {x : Int} {p q : Nat} (h1 : m ≤ p) (h2 : p ≤ q) (h3 : q < b) (hx : Lx cs x (o.getD p 0)) : Lx cs x (o.getD q 0) := by
  by_cases e : p = q
  · rw [← e]; exact hx
  · exact hx.trans (h.hi p q h1 (by omega) h3)

structure Up (a k : Nat) (o X : List Int) : Prop where
  perm : X.Perm o
  at' : ∀ p, X.getD p 0 = if a ≤ p ∧ p < k then o.getD (p + 1) 0 else if p = k then o.getD a 0 else o.getD p 0
theorem Up.start (a : Nat) (o : List Int) : Up a a o o := ⟨List.Perm.refl _, fun p => by
  rw [if_neg (by omega)]
  by_cases e : p = a
  · rw [if_pos e, e]
  · rw [if_neg e]⟩
theorem Up.step {a k : Nat} {o X : List Int} (h : Up a k o X) (ha : a ≤ k) (hl : k + 1 < X.length) : Up a (k + 1) o (swapL X k (k + 1)) := by
  refine ⟨(swapL_perm X _ _ (by omega) hl).trans h.perm, fun p => ?_⟩
  rw [swapL_getD X _ _ _ (by omega) hl, h.at', h.at', h.at']
  by_cases e1 : p = k + 1
  · subst e1
    rw [if_pos rfl, if_neg (by omega), if_pos rfl, if_neg (by omega), if_pos rfl]
  · rw [if_neg e1, if_neg e1]
    by_cases e2 : p = k
    · subst e2
      rw [if_pos rfl, if_neg (by omega), if_neg (by omega), if_pos (by omega)]
    · rw [if_neg e2, if_neg e2]
      by_cases e3 : a ≤ p ∧ p < k
      · rw [if_pos e3, if_pos (by omega)]
      · rw [if_neg e3, if_neg (by omega)]
theorem Up.sorted {cs : List Int} {a b i : Nat} {o X : List Int} (hm : Mrg cs a (a + 1) b o) (hi : a + 1 ≤ i) (hib : i ≤ b) (h1 : i = a + 1 ∨ key cs (o.getD (i - 1) 0) < key cs (o.getD a 0)) (h2 : i = b ∨ key cs (o.getD a 0) ≤ key cs (o.getD i 0)) (h : Up a (i - 1) o X) : Sorted cs a b o X := by
  have hl1 : ∀ q, a + 1 ≤ q → q < i → Lx cs (o.getD q 0) (o.getD a 0) := fun q e1 e2 => by
    rcases h1 with h1 | h1
    · omega
    · exact hm.hi' e1 (show q ≤ i - 1 by omega) (by omega) (Or.inl h1)
  have hl2 : ∀ q, i ≤ q → q < b → Lx cs (o.getD a 0) (o.getD q 0) := fun q e1 e2 => by
    rcases h2 with h2 | h2
    · omega
    · exact hm.hi'' hi e1 e2 (hm.left (Nat.le_refl _) (by omega) hi (by omega) h2)
  refine ⟨h.perm, fun p hp => ?_, fun p q e1 e2 e3 => ?_⟩
  · rw [h.at', if_neg (by omega), if_neg (by omega)]
  · rw [h.at', h.at']
    by_cases c1 : p < i - 1
    · rw [if_pos ⟨e1, c1⟩]
      by_cases c2 : q < i - 1
      · rw [if_pos (by omega)]; exact hm.hi _ _ (by omega) (by omega) (by omega)
      · rw [if_neg (by omega)]
        by_cases c3 : q = i - 1
        · rw [if_pos c3]; exact hl1 _ (by omega) (by omega)
        · rw [if_neg c3]; exact hm.hi _ _ (by omega) (by omega) e3
    · rw [if_neg (by omega), if_neg (show ¬ (a ≤ q ∧ q < i - 1) by omega), if_neg (show q ≠ i - 1 by omega)]
      by_cases c3 : p = i - 1
      · rw [if_pos c3]; exact hl2 _ (by omega) e3
      · rw [if_neg c3]; exact hm.hi _ _ (by omega) e2 e3

structure Dn (k m : Nat) (o X : List Int) : Prop where
  perm : X.Perm o
  at' : ∀ p, X.getD p 0 = if k < p ∧ p ≤ m then o.getD (p - 1) 0 else if p = k then o.getD m 0 else o.getD p 0
theorem Dn.start (m : Nat) (o : List Int) : Dn m m o o := ⟨List.Perm.refl _, fun p => by
  rw [if_neg (by omega)]
  by_cases e : p = m
  · rw [if_pos e, e]
  · rw [if_neg e]⟩
theorem Dn.step {k m : Nat} {o X : List Int} (h : Dn (k + 1) m o X) (hk : k + 1 ≤ m) (hl : k + 1 < X.length) : Dn k m o (swapL X (k + 1) k) := by
  refine ⟨(swapL_perm X _ _ hl (by omega)).trans h.perm, fun p => ?_⟩
  rw [swapL_getD X _ _ _ hl (by omega), h.at', h.at', h.at']
  by_cases e1 : p = k
  · subst e1
    rw [if_pos rfl, if_neg (by omega), if_pos rfl, if_neg (by omega), if_pos rfl]
  · rw [if_neg e1, if_neg e1]
    by_cases e2 : p = k + 1
    · subst e2
      rw [if_pos rfl, if_neg (by omega), if_neg (by omega), if_pos (by omega)]
      rfl
    · rw [if_neg e2, if_neg e2]
      by_cases e3 : k + 1 < p ∧ p ≤ m
      · rw [if_pos e3, if_pos (by omega)]
      · rw [if_neg e3, if_neg (by omega)]
theorem Dn.sorted {cs : List Int} {a m i : Nat} {o X : List Int} (hm : Mrg cs a m (m + 1) o) (hi : a ≤ i) (him : i ≤ m) (h1 : i = a ∨ key cs (o.getD (i - 1) 0) ≤ key cs (o.getD m 0)) (h2 : i = m ∨ key cs (o.getD m 0) < key cs (o.getD i 0)) (h : Dn i m o X) : Sorted cs a (m + 1) o X := by
  have hl1 : ∀ q, a ≤ q → q < i → Lx cs (o.getD q 0) (o.getD m 0) := fun q e1 e2 => by
    rcases h1 with h1 | h1
    · omega
    · exact hm.lo' e1 (show q ≤ i - 1 by omega) (by omega) (hm.left (by omega) (by omega) (Nat.le_refl _) (by omega) h1)
  have hl2 : ∀ q, i ≤ q → q < m → Lx cs (o.getD m 0) (o.getD q 0) := fun q e1 e2 => by
    rcases h2 with h2 | h2
    · omega
    · exact hm.lo'' hi e1 e2 (Or.inl h2)
  refine ⟨h.perm, fun p hp => ?_, fun p q e1 e2 e3 => ?_⟩
  · rw [h.at', if_neg (by omega)]
    by_cases c : p = i
    · omega
    · rw [if_neg c]
  · rw [h.at', h.at']
    by_cases c1 : p < i
    · rw [if_neg (by omega), if_neg (show p ≠ i by omega)]
      by_cases c2 : q < i
      · rw [if_neg (by omega), if_neg (show q ≠ i by omega)]; exact hm.lo _ _ e1 e2 (by omega)
      · by_cases c3 : q = i
        · rw [if_neg (by omega), if_pos c3]; exact hl1 _ e1 c1
        · rw [if_pos (by omega)]; exact hm.lo _ _ e1 (by omega) (by omega)
    · rw [if_pos (show i < q ∧ q ≤ m by omega)]
      by_cases c3 : p = i
      · rw [if_neg (by omega), if_pos c3]; exact hl2 _ (by omega) (by omega)
      · rw [if_pos (by omega)]; exact hm.lo _ _ (by omega) (by omega) (by omega)

structure Turned (a m b mid s e : Nat) (o Y : List Int) : Prop where
  perm : Y.Perm o
  sum : s + e = mid + m
  sm : s ≤ m
  me : m ≤ e
  as : a ≤ s
  eb : e ≤ b
  smid : s ≤ mid
  mide : mid ≤ e
  at' : ∀ p, Y.getD p 0 = o.getD (if s ≤ p ∧ p < mid then p + (m - s) else if mid ≤ p ∧ p < e then p - (e - m) else p) 0
structure Cutd (cs : List Int) (a m b mid s : Nat) (o : List Int) : Prop where
  low : (m > mid ∧ s = mid + m - b) ∨ (m ≤ mid ∧ s = a) ∨ Lx cs (o.getD (s - 1) 0) (o.getD (mid + m - s) 0)
  high : (m > mid ∧ s = mid) ∨ (m ≤ mid ∧ s = m) ∨ Lx cs (o.getD (mid + m - 1 - s) 0) (o.getD s 0)
theorem Turned.first {cs : List Int} {a m b mid s e : Nat} {o Y : List Int} (hm : Mrg cs a m b o) (h : Turned a m b mid s e o Y) : Mrg cs a s mid Y := by
  obtain ⟨_, h1, h2, h3, h4, h5, h6, h7, hat⟩ := h
  refine ⟨fun p q e1 e2 e3 => ?_, fun p q e1 e2 e3 => ?_, fun p q e1 e2 e3 e4 => ?_⟩
  · rw [hat, hat, if_neg (by omega), if_neg (by omega), if_neg (by omega), if_neg (by omega)]; exact hm.lo _ _ e1 e2 (by omega)
  · rw [hat, hat, if_pos (by omega), if_pos (by omega)]; exact hm.hi _ _ (by omega) (by omega) (by omega)
  · rw [hat, hat, if_neg (by omega), if_neg (by omega), if_pos (by omega)]; exact hm.less _ _ e1 (by omega) (by omega) (by omega)
theorem Turned.second {cs : List Int} {a m b mid s e : Nat} {o Y Z : List Int} (hm : Mrg cs a m b o) (h : Turned a m b mid s e o Y) (hz : Same a mid Y Z) : Mrg cs mid e b Z := by
  obtain ⟨_, h1, h2, h3, h4, h5, h6, h7, hat⟩ := h
  refine ⟨fun p q e1 e2 e3 => ?_, fun p q e1 e2 e3 => ?_, fun p q e1 e2 e3 e4 => ?_⟩
  · rw [hz.out p (by omega), hz.out q (by omega), hat, hat, if_neg (by omega), if_pos (by omega), if_neg (by omega), if_pos (by omega)]; exact hm.lo _ _ (by omega) (by omega) (by omega)
  · rw [hz.out p (by omega), hz.out q (by omega), hat, hat, if_neg (by omega), if_neg (by omega), if_neg (by omega), if_neg (by omega)]; exact hm.hi _ _ (by omega) (by omega) (by omega)
  · rw [hz.out p (by omega), hz.out q (by omega), hat, hat, if_neg (by omega), if_pos (by omega), if_neg (by omega), if_neg (by omega)]; exact hm.less _ _ (by omega) (by omega) (by omega) (by omega)
theorem Turned.cross {cs : List Int} {a m b mid s e : Nat} {o Y : List Int} (hm : Mrg cs a m b o) (h : Turned a m b mid s e o Y) (hc : Cutd cs a m b mid s o) : ∀ p q, a ≤ p → p < mid → mid ≤ q → q < b → Lx cs (Y.getD p 0) (Y.getD q 0) := by
  obtain ⟨_, h1, h2, h3, h4, h5, h6, h7, hat⟩ := h
  intro p q e1 e2 e3 e4
  rw [hat, hat]
  by_cases c1 : p < s
  · rw [if_neg (by omega), if_neg (by omega)]
    by_cases c2 : q < e
    · rw [if_neg (by omega), if_pos (by omega)]; exact hm.lo _ _ e1 (by omega) (by omega)
    · rw [if_neg (by omega), if_neg (by omega)]
      rcases hc.low with c | c | c
      · omega
      · omega
      · rw [show mid + m - s = e by omega] at c
        exact hm.hi'' h3 (show e ≤ q by omega) e4 (hm.lo' e1 (show p ≤ s - 1 by omega) (by omega) c)
  · rw [if_pos (by omega)]
    by_cases c2 : q < e
    · rw [if_neg (by omega), if_pos (by omega)]
      rcases hc.high with c | c | c
      · omega
      · omega
      · rw [show mid + m - 1 - s = e - 1 by omega] at c
        exact hm.lo'' h4 (show s ≤ q - (e - m) by omega) (by omega) (hm.hi' (by omega) (show p + (m - s) ≤ e - 1 by omega) (by omega) c)
    · rw [if_neg (by omega), if_neg (by omega)]; exact hm.hi _ _ (by omega) (by omega) e4
theorem Turned.same {a m b mid s e : Nat} {o Y : List Int} (h : Turned a m b mid s e o Y) : Same a b o Y := by
  obtain ⟨hp, h1, h2, h3, h4, h5, h6, h7, hat⟩ := h
  exact ⟨hp, fun p hp => by rw [hat, if_neg (by omega), if_neg (by omega)]⟩
theorem merged {cs : List Int} {a m b mid s e : Nat} {o Y Z1 Z2 : List Int} (hb : b ≤ o.length) (hm : Mrg cs a m b o) (h : Turned a m b mid s e o Y) (hc : Cutd cs a m b mid s o) (h1 : Sorted cs a mid Y Z1) (h2 : Sorted cs mid b Z1 Z2) : Sorted cs a b o Z2 := by
  have hx := Turned.cross hm h hc
  have hs := h.same
  have hamid : a ≤ mid := Nat.le_trans h.as h.smid
  have hmidb : mid ≤ b := Nat.le_trans h.mide h.eb
  refine ⟨h2.perm.trans (h1.perm.trans h.perm), fun p hp => ?_, fun p q e1 e2 e3 => ?_⟩
  · rw [h2.out p (by omega), h1.out p (by omega)]; exact hs.out p hp
  · by_cases c1 : q < mid
    · rw [h2.out p (by omega), h2.out q (by omega)]; exact h1.ord p q e1 e2 c1
    · by_cases c2 : mid ≤ p
      · exact h2.ord p q c2 e2 e3
      · rw [h2.out p (by omega)]
        obtain ⟨p', p1, p2, pe⟩ := h1.same.mem (by rw [h.perm.length_eq]; omega) p e1 (by omega)
        obtain ⟨q', q1, q2, qe⟩ := h2.same.mem (by rw [h1.perm.length_eq, h.perm.length_eq]; omega) q (by omega) e3
        rw [pe, qe, h1.out q' (by omega)]
        exact hx p' q' p1 p2 q1 q2
theorem Mrg.one {cs : List Int} {a m b : Nat} {o : List Int} (hm : Mrg cs a m b o) (h : m = a ∨ m = b) : Sorted cs a b o o := by
  refine ⟨List.Perm.refl _, fun _ _ => rfl, fun p q e1 e2 e3 => ?_⟩
  rcases h with h | h
  · exact hm.hi p q (by omega) e2 e3
  · exact hm.lo p q e1 e2 (by omega)
theorem Turned.still {a m b mid s e : Nat} {o : List Int} (hsum : s + e = mid + m) (h1 : a ≤ s) (h2 : s ≤ m) (h3 : m ≤ e) (h4 : e ≤ b) (h5 : s ≤ mid) (h6 : mid ≤ e) (h : s = m ∨ m = e) : Turned a m b mid s e o o := by
  refine ⟨List.Perm.refl _, hsum, h2, h3, h1, h4, h5, h6, fun p => ?_⟩
  congr 1
  repeat' split
  all_goals omega
end Hf
end Go.Proofs.YtelnefngkdfcoaaGreat
/-
  Plain facts on a stable sort by blocks: where the blocks begin, and what joins two of them.
-/
namespace Go.Proofs.YtelnefngkdfcoaaGreat
namespace Hf

def Gd (cs : List Int) (C : Nat → Prop) (n : Nat) (X : List Int) : Prop :=
  ∀ p q, p < q → q < n → ((∀ x, p < x → x ≤ q → ¬ C x) → Lx cs (X.getD p 0) (X.getD q 0)) ∧ (∀ x, p < x → x ≤ q → C x → X.getD p 0 < X.getD q 0)
theorem Gd.iff {cs : List Int} {C D : Nat → Prop} {n : Nat} {X : List Int} (h : Gd cs C n X) (e : ∀ x, x < n → (C x ↔ D x)) : Gd cs D n X := by
  intro p q h1 h2
  obtain ⟨a, b⟩ := h p q h1 h2
  exact ⟨fun hx => a (fun x e1 e2 hc => hx x e1 e2 ((e x (by omega)).1 hc)), fun x e1 e2 hd => b x e1 e2 ((e x (by omega)).2 hd)⟩
theorem Gd.start {cs : List Int} {n : Nat} {o : List Int} (hinc : ∀ p q, p < q → q < n → o.getD p 0 < o.getD q 0) (C : Nat → Prop) (hC : ∀ x, C x) : Gd cs C n o :=
  fun p q h1 h2 => ⟨fun h => absurd (hC q) (h q h1 (Nat.le_refl _)), fun _ _ _ _ => hinc p q h1 h2⟩
theorem Gd.join {cs : List Int} {C : Nat → Prop} {n a b : Nat} {X Y : List Int} (h : Gd cs C n X) (hs : Sorted cs a b X Y) (hl : X.length = n) (hb : b ≤ n) (ca : a = 0 ∨ C a) (cb : b = n ∨ C b) : Gd cs (fun x => C x ∧ ¬ (a < x ∧ x < b)) n Y := by
  have hm : ∀ p, a ≤ p → p < b → ∃ q, a ≤ q ∧ q < b ∧ Y.getD p 0 = X.getD q 0 := fun p => hs.same.mem (by omega) p
  intro p q h1 h2
  obtain ⟨e1, e2⟩ := h p q h1 h2
  by_cases pa : p < a
  · have hCa : C a := by rcases ca with c | c; exact absurd c (by omega); exact c
    by_cases qa : q < a
    · rw [hs.out p (by omega), hs.out q (by omega)]
      exact ⟨fun hx => e1 (fun x k1 k2 hc => hx x k1 k2 ⟨hc, by omega⟩), fun x k1 k2 hc => e2 x k1 k2 hc.1⟩
    · refine ⟨fun hx => absurd ⟨hCa, by omega⟩ (hx a pa (by omega)), fun _ _ _ _ => ?_⟩
      by_cases qb : q < b
      · obtain ⟨r, r1, r2, re⟩ := hm q (by omega) qb
        rw [hs.out p (by omega), re]
        exact (h p r (by omega) (by omega)).2 a pa r1 hCa
      · rw [hs.out p (by omega), hs.out q (by omega)]
        exact e2 a pa (by omega) hCa
  · by_cases pb : p < b
    · by_cases qb : q < b
      · exact ⟨fun _ => hs.ord p q (by omega) h1 qb, fun x k1 k2 hc => absurd ⟨by omega, by omega⟩ hc.2⟩
      · have hCb : C b := by rcases cb with c | c; exact absurd c (by omega); exact c
        refine ⟨fun hx => absurd ⟨hCb, by omega⟩ (hx b pb (by omega)), fun _ _ _ _ => ?_⟩
        obtain ⟨r, r1, r2, re⟩ := hm p (by omega) pb
        rw [re, hs.out q (by omega)]
        exact (h r q (by omega) h2).2 b r2 (by omega) hCb
    · rw [hs.out p (by omega), hs.out q (by omega)]
      exact ⟨fun hx => e1 (fun x k1 k2 hc => hx x k1 k2 ⟨hc, by omega⟩), fun x k1 k2 hc => e2 x k1 k2 hc.1⟩
theorem Gd.mrg {cs : List Int} {C : Nat → Prop} {n a m b : Nat} {X : List Int} (h : Gd cs C n X) (hb : b ≤ n) (hm : C m) (hn : ∀ x, a < x → x < b → C x → x = m) (_ham : a < m) (hmb : m ≤ b) : Mrg cs a m b X :=
  ⟨fun p q h1 h2 h3 => (h p q h2 (by omega)).1 (fun x k1 k2 hc => by have := hn x (by omega) (by omega) hc; omega),
   fun p q h1 h2 h3 => (h p q h2 (by omega)).1 (fun x k1 k2 hc => by have := hn x (by omega) (by omega) hc; omega),
   fun p q h1 h2 h3 h4 => (h p q (by omega) (by omega)).2 m h2 h3 hm⟩
theorem Gd.end {cs : List Int} {C : Nat → Prop} {n : Nat} {o X : List Int} (h : Gd cs C n X) (hp : X.Perm o) (hl : o.length = n) (hn : ∀ x, 0 < x → x < n → ¬ C x) : Sorted cs 0 n o X :=
  ⟨hp, fun p hp' => by
    have h1 : X.getD p 0 = 0 := by simp [List.getD, List.getElem?_eq_none (show X.length ≤ p by rw [hp.length_eq]; omega)]
    have h2 : o.getD p 0 = 0 := by simp [List.getD, List.getElem?_eq_none (show o.length ≤ p by omega)]
    rw [h1, h2], fun p q h1 h2 h3 => (h p q h2 h3).1 (fun x k1 k2 => hn x (by omega) (by omega))⟩

def C20 (a x : Nat) : Prop := a ≤ x ∨ 20 ∣ x
theorem c20_step {a x : Nat} (h : 20 ∣ a) : (C20 a x ∧ ¬ (a < x ∧ x < a + 20)) ↔ C20 (a + 20) x := by unfold C20; omega
theorem c20_end {a n x : Nat} (h : 20 ∣ a) (h2 : n < a + 20) (hx : x < n) : (C20 a x ∧ ¬ (a < x ∧ x < n)) ↔ 20 ∣ x := by unfold C20; omega
def CB (b a x : Nat) : Prop := (x ≤ a ∧ 2 * b ∣ x) ∨ (a ≤ x ∧ b ∣ x)
theorem mid_dvd {b a x : Nat} (_hb : 0 < b) (ha : 2 * b ∣ a) (hx : b ∣ x) (h1 : a < x) (h2 : x < a + 2 * b) : x = a + b := by
  obtain ⟨j, rfl⟩ := ha
  obtain ⟨u, rfl⟩ := hx
  have e : 2 * b * j = b * (2 * j) := by rw [Nat.mul_comm 2 b, Nat.mul_assoc]
  rw [e] at h1 h2 ⊢
  have l1 : 2 * j < u := Nat.lt_of_mul_lt_mul_left h1
  have l2 : b * u < b * (2 * j + 2) := by rw [Nat.mul_add]; omega
  have l3 : u < 2 * j + 2 := Nat.lt_of_mul_lt_mul_left l2
  have l4 : u = 2 * j + 1 := by omega
  rw [l4, Nat.mul_add]; omega
theorem next_dvd {c a x : Nat} (ha : c ∣ a) (hx : c ∣ x) (h1 : a < x) : a + c ≤ x := by
  obtain ⟨j, rfl⟩ := ha
  obtain ⟨u, rfl⟩ := hx
  have l1 : j < u := Nat.lt_of_mul_lt_mul_left h1
  have : c * (j + 1) ≤ c * u := Nat.mul_le_mul_left _ (by omega)
  rw [Nat.mul_add] at this; omega
theorem two_dvd {b x : Nat} (h : 2 * b ∣ x) : b ∣ x := Nat.dvd_trans ⟨2, by omega⟩ h
theorem cb_start (b x : Nat) : b ∣ x ↔ CB b 0 x := by
  unfold CB
  constructor
  · intro h; exact Or.inr ⟨Nat.zero_le _, h⟩
  · rintro (⟨h1, h2⟩ | ⟨_, h⟩)
    · exact two_dvd h2
    · exact h
theorem cb_mid {b a x : Nat} (hb : 0 < b) (ha : 2 * b ∣ a) (h1 : a < x) (h2 : x < a + 2 * b) (h : CB b a x) : x = a + b := by
  rcases h with ⟨h, _⟩ | ⟨_, h⟩
  · omega
  · exact mid_dvd hb ha h h1 h2
theorem cb_at {b a : Nat} (ha : 2 * b ∣ a) : CB b a a := Or.inl ⟨Nat.le_refl _, ha⟩
theorem cb_half {b a : Nat} (ha : 2 * b ∣ a) : CB b a (a + b) := Or.inr ⟨by omega, (Nat.dvd_add_iff_right (two_dvd ha)).1 (Nat.dvd_refl _)⟩
theorem cb_next {b a : Nat} (ha : 2 * b ∣ a) : CB b a (a + 2 * b) := Or.inr ⟨by omega, (Nat.dvd_add_iff_right (two_dvd ha)).1 ⟨2, by omega⟩⟩
theorem cb_step {b a x : Nat} (hb : 0 < b) (ha : 2 * b ∣ a) : (CB b a x ∧ ¬ (a < x ∧ x < a + 2 * b)) ↔ CB b (a + 2 * b) x := by
  constructor
  · rintro ⟨h | h, hn⟩
    · exact Or.inl ⟨by omega, h.2⟩
    · by_cases c : x = a
      · subst c; exact Or.inl ⟨by omega, ha⟩
      · exact Or.inr ⟨by omega, h.2⟩
  · rintro (h | h)
    · by_cases c : x ≤ a
      · exact ⟨Or.inl ⟨c, h.2⟩, by omega⟩
      · have := next_dvd ha h.2 (by omega)
        exact ⟨Or.inr ⟨by omega, two_dvd h.2⟩, by omega⟩
    · exact ⟨Or.inr ⟨by omega, h.2⟩, by omega⟩
theorem cb_end {b a n x : Nat} (_hb : 0 < b) (ha : 2 * b ∣ a) (h2 : n < a + 2 * b) (hx : x < n) : (CB b a x ∧ ¬ (a < x ∧ x < n)) ↔ 2 * b ∣ x := by
  constructor
  · rintro ⟨h | h, hn⟩
    · exact h.2
    · have : x = a := by omega
      subst this; exact ha
  · intro h
    by_cases c : x ≤ a
    · exact ⟨Or.inl ⟨c, h⟩, by omega⟩
    · have := next_dvd ha h (by omega)
      omega
theorem cb_last {b a n x : Nat} (hb : 0 < b) (ha : 2 * b ∣ a) (h2 : n ≤ a + b) (hx : x < n) : CB b a x ↔ 2 * b ∣ x := by
  rw [← cb_end hb ha (show n < a + 2 * b by omega) hx]
  constructor
  · intro h
    refine ⟨h, fun hn => ?_⟩
    have := cb_mid hb ha hn.1 (by omega) h
    omega
  · exact fun h => h.1
theorem dvd_low {b n x : Nat} (hn : n ≤ b) (h0 : 0 < x) (hx : x < n) : ¬ b ∣ x := fun h => by
  have := Nat.le_of_dvd h0 h
  omega
end Hf
end Go.Proofs.YtelnefngkdfcoaaGreat
