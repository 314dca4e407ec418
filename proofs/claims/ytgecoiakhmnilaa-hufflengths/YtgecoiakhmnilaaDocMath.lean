/-
  Plain facts: the document's tree of counts is the code's, its symbols in another order.
-/
import Derived.Test.YtgecoiakhmnilaaDeepMath
import Derived.Test.YtgecoiakhmnilaaLeast
namespace Go.Proofs.Ytgecoiakhmnilaa
namespace Hf

/-- The least by weight, of alike ones the first, is found. -/
theorem lstK_some {wt inn : Nat → Int} {no : Int} {x : Nat} (h1 : (x : Int) ≠ no) (h2 : inn x < 0) :
    ∀ n : Nat, (∀ y : Nat, y < n → (y : Int) ≠ no → inn y < 0 → y ≠ x → wt x < wt y ∨ (wt x = wt y ∧ x < y)) → (n ≤ x → lstK wt inn no n = -1 ∨ ∃ y : Nat, lstK wt inn no n = (y : Int) ∧ y < n ∧ (y : Int) ≠ no ∧ inn y < 0) ∧ (x < n → lstK wt inn no n = (x : Int))
  | 0, _ => ⟨fun _ => Or.inl rfl, fun h => by omega⟩
  | n + 1, h => by
    have ih := lstK_some h1 h2 n (fun y hy => h y (by omega))
    refine ⟨fun hx => ?_, fun hx => ?_⟩
    · rw [lstK]
      split
      · rename_i hc
        exact Or.inr ⟨n, rfl, by omega, hc.1, hc.2.1⟩
      · rcases ih.1 (by omega) with e | ⟨y, e, hy, hn, hi⟩
        · exact Or.inl e
        · exact Or.inr ⟨y, e, by omega, hn, hi⟩
    · by_cases e : n = x
      · subst e
        rw [lstK, if_pos]
        refine ⟨h1, h2, ?_⟩
        rcases ih.1 (Nat.le_refl _) with e | ⟨y, e, hy, hn, hi⟩
        · left; omega
        · right
          rw [e, Int.toNat_natCast]
          have := h y (by omega) hn hi (by omega)
          omega
      · rw [lstK, ih.2 (by omega), if_neg]
        intro hc
        rw [Int.toNat_natCast] at hc
        have := h n (by omega) hc.1 hc.2.1 e
        omega
theorem lstK_none {wt inn : Nat → Int} {no : Int} : ∀ n : Nat, (∀ y : Nat, y < n → (y : Int) = no ∨ ¬ inn y < 0) → lstK wt inn no n = -1
  | 0, _ => rfl
  | n + 1, h => by
    rw [lstK, if_neg, lstK_none n (fun y hy => h y (by omega))]
    intro hc
    rcases h n (by omega) with e | e
    · exact hc.1 e
    · exact e hc.2.1

/-- The document's nodes: weights, and in which they stand. -/
structure DS where
  W : List Int
  I : List Int
def lstD (d : DS) (no : Int) : Int := lstK (fun i => d.W.getD i 0) (fun i => d.I.getD i 0) no d.W.length
def stepD (d : DS) : DS :=
  ⟨d.W ++ [d.W.getD (lstD d (-1)).toNat 0 + d.W.getD (lstD d (lstD d (-1))).toNat 0],
   ((d.I.set (lstD d (-1)).toNat (d.W.length : Int)).set (lstD d (lstD d (-1))).toNat (d.W.length : Int)) ++ [-1]⟩
def startD (cs : List Int) : DS := ⟨(nz cs cs.length).map (key cs), List.replicate (nz cs cs.length).length (-1)⟩
def runD (cs : List Int) : Nat → DS
  | 0 => startD cs
  | t + 1 => stepD (runD cs t)

/-- Where the code's nodes stand in the document's row. -/
structure Pi (m : Nat) (N : Nodes) (f : Nat → Nat) : Prop where
  low : ∀ j, j < m → f j < m
  high : ∀ j, m ≤ j → f j = j
  inj : ∀ i j, i < m → j < m → f i = f j → i = j
  sur : ∀ i, i < m → ∃ j, j < m ∧ f j = i
  ord : ∀ i j, i < j → j < m → wt N i < wt N j ∨ (wt N i = wt N j ∧ f i < f j)
theorem Pi.inj' {m : Nat} {N : Nodes} {f : Nat → Nat} (h : Pi m N f) {i j : Nat} (e : f i = f j) : i = j := by
  by_cases hi : i < m <;> by_cases hj : j < m
  · exact h.inj i j hi hj e
  · have := h.low i hi; rw [h.high j (by omega)] at e; omega
  · have := h.low j hj; rw [h.high i (by omega)] at e; omega
  · rw [h.high i (by omega), h.high j (by omega)] at e; exact e
theorem Pi.sur' {m : Nat} {N : Nodes} {f : Nat → Nat} (h : Pi m N f) (i : Nat) : ∃ j, f j = i ∧ (i < m → j < m) ∧ (m ≤ i → j = i) := by
  by_cases hi : i < m
  · obtain ⟨j, hj, e⟩ := h.sur i hi
    exact ⟨j, e, fun _ => hj, fun h => by omega⟩
  · exact ⟨i, h.high i (by omega), fun h => by omega, fun _ => rfl⟩

/-- What is taken is the least, of alike ones the first in the document's row. -/
theorem take_lex {n : Nat} {N : Nodes} {f : Nat → Nat} {l p : Nat} (hf : Pi n N f) (hp : ∀ i j, n ≤ i → i ≤ j → j < N.length → wt N i ≤ wt N j) (ln : l ≤ n) (np : n ≤ p) (pl : p ≤ N.length) (hfree : 0 < (n - l) + (N.length - p)) :
    ∀ j, ((l ≤ j ∧ j < n) ∨ (p ≤ j ∧ j < N.length)) → j ≠ takeA n N l p → wt N (takeA n N l p) < wt N j ∨ (wt N (takeA n N l p) = wt N j ∧ f (takeA n N l p) < f j) := by
  intro j hj hne
  have h1 := take_one (n := n) (N := N) ln np pl hfree
  unfold takeA at hne ⊢
  cases hu : useLeaf n N l p with
  | true =>
    rw [hu] at hne
    simp only [if_true] at hne ⊢
    have hl : l < n := by
      unfold useLeaf at hu
      rw [Bool.or_eq_true, beq_iff_eq, Bool.and_eq_true, decide_eq_true_eq] at hu
      omega
    rcases hj with hj | hj
    · exact hf.ord l j (by omega) hj.2
    · unfold useLeaf at hu
      rw [Bool.or_eq_true, beq_iff_eq, Bool.and_eq_true, decide_eq_true_eq, decide_eq_true_eq] at hu
      have h2 := hp p j np hj.1 hj.2
      have h3 := hf.low l hl
      rw [hf.high j (by omega)]
      omega
  | false =>
    rw [hu] at hne
    simp only [Bool.false_eq_true, if_false] at hne ⊢
    unfold useLeaf at hu
    rw [Bool.or_eq_false_iff, Bool.and_eq_false_iff, decide_eq_false_iff_not, decide_eq_false_iff_not] at hu
    rcases hj with hj | hj
    · left
      have h2 : ¬ wt N l ≤ wt N p := by
        rcases hu.2 with h | h
        · omega
        · exact h
      by_cases e : l = j
      · subst e; omega
      · have := hf.ord l j (by omega) hj.2; omega
    · have h2 := hp p j np hj.1 hj.2
      rw [hf.high p np, hf.high j (by omega)]
      omega
/-- The pairs come by weight. -/
structure PS (n t : Nat) (s : TS) : Prop where
  pair : ∀ i j, n ≤ i → i ≤ j → j < n + t → wt s.N i ≤ wt s.N j
  last : 0 < t → ∀ i j, i ≠ j → ((s.l ≤ i ∧ i < n) ∨ (s.p ≤ i ∧ i < n + t)) → ((s.l ≤ j ∧ j < n) ∨ (s.p ≤ j ∧ j < n + t)) → wt s.N (n + t - 1) ≤ wt s.N i + wt s.N j
theorem PS.step {n : Nat} {C : Int} {t : Nat} {s : TS} (h : TI n C t s) (hl : ∀ i j, i ≤ j → j < n → wt s.N i ≤ wt s.N j) (hP : PS n t s) (ht : t + 2 ≤ n) : PS n (t + 1) (stepH n s) := by
  have hlen := h.len
  have hln := h.ln
  have hnp := h.np
  have hpl := h.pl
  have hcnt := h.cnt
  have hpos := h.pos
  obtain ⟨_, _, _, s4, s5⟩ := step_inn h ht
  obtain ⟨a1, a2, a3, a4, a5, _, a7⟩ := take_one (n := n) (N := s.N) (l := s.l) (p := s.p) h.ln h.np (by omega) (by omega)
  obtain ⟨b1, b2, b3, b4, b5, _, b7⟩ := take_one (n := n) (N := s.N) (l := takeL n s.N s.l s.p) (p := takeP n s.N s.l s.p) a2 a3 a4 (by omega)
  have m1 := take_min (n := n) (N := s.N) (l := s.l) (p := s.p) hl (by rw [hlen]; exact hP.pair) h.np
  have m2 := take_min (n := n) (N := s.N) (l := takeL n s.N s.l s.p) (p := takeP n s.N s.l s.p) hl (by rw [hlen]; exact hP.pair) a3
  have hA : oneA n s = takeA n s.N s.l s.p := rfl
  have hB : oneB n s = takeA n s.N (takeL n s.N s.l s.p) (takeP n s.N s.l s.p) := rfl
  rw [← hA] at a1 a7 m1
  rw [← hB] at b1 b7 m2
  have hl2 : (stepH n s).l = takeL n s.N (takeL n s.N s.l s.p) (takeP n s.N s.l s.p) := rfl
  have hp2 : (stepH n s).p = takeP n s.N (takeL n s.N s.l s.p) (takeP n s.N s.l s.p) := rfl
  rw [← hl2, ← hp2] at b5 b7
  rw [← hl2] at b2
  rw [← hp2] at b3 b4
  rw [hlen] at a1 a4 a7 b1 b4 b7 m1 m2 s4 s5
  have hlast := hP.last
  clear hA hB hl2 hp2
  generalize oneA n s = A at *
  generalize oneB n s = B at *
  generalize takeL n s.N s.l s.p = l1 at *
  generalize takeP n s.N s.l s.p = p1 at *
  have fA : (s.l ≤ A ∧ A < n) ∨ (s.p ≤ A ∧ A < n + t) := by omega
  have fB : (s.l ≤ B ∧ B < n) ∨ (s.p ≤ B ∧ B < n + t) := by omega
  have hab := m1 B fB
  refine ⟨fun i j e1 e2 e3 => ?_, fun _ i j hne e1 e2 => ?_⟩
  · by_cases c1 : j < n + t
    · rw [s4 i (by omega), s4 j c1]; exact hP.pair i j e1 e2 c1
    · obtain rfl : j = n + t := by omega
      by_cases c2 : i = n + t
      · rw [c2]; omega
      · rw [s4 i (by omega), s5]
        have h1 := hP.pair i (n + t - 1) e1 (by omega) (by omega)
        have h2 := hlast (by omega) A B (by omega) fA fB
        omega
  · rw [show n + (t + 1) - 1 = n + t from by omega, s5]
    have hge : ∀ x, x < n + t → (((stepH n s).l ≤ x ∧ x < n) ∨ ((stepH n s).p ≤ x ∧ x < n + (t + 1))) → wt s.N B ≤ wt s.N x := fun x hx hfx => m2 x (by omega)
    by_cases c1 : i < n + t
    · have h1 := hge i c1 e1
      rw [s4 i c1]
      by_cases c2 : j < n + t
      · have h2 := hge j c2 e2
        rw [s4 j c2]; omega
      · obtain rfl : j = n + t := by omega
        rw [s5]
        have := hpos i
        omega
    · obtain rfl : i = n + t := by omega
      rw [s5]
      have := hpos j
      rw [s4 j (by omega)]; omega
theorem wt_tree (ws : List Int) (h : ∀ i, 0 ≤ ws.getD i 0) : ∀ t, t + 1 ≤ ws.length → ∀ i, i < ws.length → wt (treeT ws t).N i = ws.getD i 0
  | 0, _, i, _ => wt_start ws i
  | t + 1, ht, i, hi => by
    have hI := TI.run ws h t (by omega)
    have hs := (step_inn hI (by omega)).2.2.2.1 i (by rw [hI.len]; omega)
    have e : treeT ws (t + 1) = stepH ws.length (treeT ws t) := rfl
    rw [e, hs]
    exact wt_tree ws h t (by omega) i hi
theorem PS.run (ws : List Int) (h : ∀ i, 0 ≤ ws.getD i 0) (hs : ∀ i j, i ≤ j → j < ws.length → ws.getD i 0 ≤ ws.getD j 0) : ∀ t, t + 1 ≤ ws.length → PS ws.length t (treeT ws t)
  | 0, _ => ⟨fun i j a b c => by omega, fun h => by omega⟩
  | t + 1, ht => PS.step (TI.run ws h t (by omega)) (fun i j a b => by rw [wt_tree ws h t (by omega) i (by omega), wt_tree ws h t (by omega) j b]; exact hs i j a b) (PS.run ws h hs t (by omega)) (by omega)
end Hf
end Go.Proofs.Ytgecoiakhmnilaa
