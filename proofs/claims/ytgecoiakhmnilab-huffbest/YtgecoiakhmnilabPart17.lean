/-
  Plain facts: the document's tree of counts is the code's, its symbols in another order.
-/
import Derived.Test.YtgecoiakhmnilabPart16
import Derived.Test.YtgecoiakhmnilabPart00
import Derived.Test.YtgecoiakhmnilabPart06
namespace Go.Proofs.Ytgecoiakhmnilab
namespace Hf

/-- The least by weight, of alike ones the first, is found. -/
theorem lstK_some {wt inn : Nat → Int} {no : Int} {x : Nat} (h1 : (x : Int) ≠ no) (h2 : inn x < 0) :
    ∀ n : Nat, (∀ y : Nat, y < n → (y : Int) ≠ no → inn y < 0 → y ≠ x → wt x < wt y ∨ (wt x = wt y ∧ x < y)) → (n ≤ x → lstK wt inn no n = -1 ∨ ∃ y : Nat, lstK wt inn no n = (y : Int) ∧ y < n ∧ (y : Int) ≠ no ∧ inn y < 0) ∧ (x < n → lstK wt inn no n = (x : Int))
  | 0, _ => ⟨fun _ => Or.inl rfl, fun h => by omega⟩
  | n + 1, h => by
    have ih := lstK_some h1 h2 n (fun y hy => h y (by omega))
    refine ⟨fun hx => ?_, fun hx => ?_⟩
    · rw [lstK]
      split
      · rename_i hc
        exact Or.inr ⟨n, rfl, by omega, hc.1, hc.2.1⟩
      · rcases ih.1 (by omega) with e | ⟨y, e, hy, hn, hi⟩
        · exact Or.inl e
        · exact Or.inr ⟨y, e, by omega, hn, hi⟩
    · by_cases e : n = x
      · subst e
        rw [lstK, if_pos]
        refine ⟨h1, h2, ?_⟩
        rcases ih.1 (Nat.le_refl _) with e | ⟨y, e, hy, hn, hi⟩
        · left; omega
        · right
          rw [e, Int.toNat_natCast]
          have := h y (by omega) hn hi (by omega)
          omega
      · rw [lstK, ih.2 (by omega), if_neg]
        intro hc
        rw [Int.toNat_natCast] at hc
        have := h n (by omega) hc.1 hc.2.1 e
        omega
theorem lstK_none {wt inn : Nat → Int} {no : Int} : ∀ n : Nat, (∀ y : Nat, y < n → (y : Int) = no ∨ ¬ inn y < 0) → lstK wt inn no n = -1
  | 0, _ => rfl
  | n + 1, h => by
    rw [lstK, if_neg, lstK_none n (fun y hy => h y (by omega))]
    intro hc
    rcases h n (by omega) with e | e
    · exact hc.1 e
    · exact e hc.2.1

/-- The document's nodes: weights, and in which they stand. -/
structure DS where
  W : List Int
  I : List Int
def lstD (d : DS) (no : Int) : Int := lstK (fun i => d.W.getD i 0) (fun i => d.I.getD i 0) no d.W.length
def stepD (d : DS) : DS :=
  ⟨d.W ++ [d.W.getD (lstD d (-1)).toNat 0 + d.W.getD (lstD d (lstD d (-1))).toNat 0],
   ((d.I.set (lstD d (-1)).toNat (d.W.length : Int)).set (lstD d (lstD d (-1))).toNat (d.W.length : Int)) ++ [-1]⟩
def startD (cs : List Int) : DS := ⟨(nz cs cs.length).map (key cs), List.replicate (nz cs cs.length).length (-1)⟩
def runD (cs : List Int) : Nat → DS
  | 0 => startD cs
  | t + 1 => stepD (runD cs t)

/-- Where the code's nodes stand in the document's row. -/
structure Pi (m : Nat) (N : Nodes) (f : Nat → Nat) : Prop where
  low : ∀ j, j < m → f j < m
  high : ∀ j, m ≤ j → f j = j
  inj : ∀ i j, i < m → j < m → f i = f j → i = j
  sur : ∀ i, i < m → ∃ j, j < m ∧ f j = i
  ord : ∀ i j, i < j → j < m → wt N i < wt N j ∨ (wt N i = wt N j ∧ f i < f j)
theorem Pi.inj' {m : Nat} {N : Nodes} {f : Nat → Nat} (h : Pi m N f) {i j : Nat} (e : f i = f j) : i = j := by
  by_cases hi : i < m <;> by_cases hj : j < m
  · exact h.inj i j hi hj e
  · have := h.low i hi; rw [h.high j (by omega)] at e; omega
  · have := h.low j hj; rw [h.high i (by omega)] at e; omega
  · rw [h.high i (by omega), h.high j (by omega)] at e; exact e
theorem Pi.sur' {m : Nat} {N : Nodes} {f : Nat → Nat} (h : Pi m N f) (i : Nat) : ∃ j, f j = i ∧ (i < m → j < m) ∧ (m ≤ i → j = i) := by
  by_cases hi : i < m
  · obtain ⟨j, hj, e⟩ := h.sur i hi
    exact ⟨j, e, fun _ => hj, fun h => by omega⟩
  · exact ⟨i, h.high i (by omega), fun h => by omega, fun _ => rfl⟩

/-- What is taken is the least, of alike ones the first in the document's row. -/
theorem take_lex {n : Nat} {N : Nodes} {f : Nat → Nat} {l p : Nat} (hf : Pi n N f) (hp : ∀ i j, n ≤ i → i ≤ j → j < N.length → wt N i ≤ wt N j) (ln : l ≤ n) (np : n ≤ p) (pl : p ≤ N.length) (hfree : 0 < (n - l) + (N.length - p)) :
    ∀ j, ((l ≤ j ∧ j < n) ∨ (p ≤ j ∧ j < N.length)) → j ≠ takeA n N l p → wt N (takeA n N l p) < wt N j ∨ (wt N (takeA n N l p) = wt N j ∧ f (takeA n N l p) < f j) := by
  intro j hj hne
  have h1 := take_one (n := n) (N := N) ln np pl hfree
  unfold takeA at hne ⊢
  cases hu : useLeaf n N l p with
  | true =>
    rw [hu] at hne
    simp only [if_true] at hne ⊢
    have hl : l < n := by
      unfold useLeaf at hu
      rw [Bool.or_eq_true, beq_iff_eq, Bool.and_eq_true, decide_eq_true_eq] at hu
      omega
    rcases hj with hj | hj
    · exact hf.ord l j (by omega) hj.2
    · unfold useLeaf at hu
      rw [Bool.or_eq_true, beq_iff_eq, Bool.and_eq_true, decide_eq_true_eq, decide_eq_true_eq] at hu
      have h2 := hp p j np hj.1 hj.2
      have h3 := hf.low l hl
      rw [hf.high j (by omega)]
      omega
  | false =>
    rw [hu] at hne
    simp only [Bool.false_eq_true, if_false] at hne ⊢
    unfold useLeaf at hu
    rw [Bool.or_eq_false_iff, Bool.and_eq_false_iff, decide_eq_false_iff_not, decide_eq_false_iff_not] at hu
    rcases hj with hj | hj
    · left
      have h2 : ¬ wt N l ≤ wt N p := by
        rcases hu.2 with h | h
        · omega
        · exact h
      by_cases e : l = j
      · subst e; omega
      · have := hf.ord l j (by omega) hj.2; omega
    · have h2 := hp p j np hj.1 hj.2
      rw [hf.high p np, hf.high j (by omega)]
      omega
/-- The pairs come by weight. -/
structure PS (n t : Nat) (s : TS) : Prop where
  pair : ∀ i j, n ≤ i → i ≤ j → j < n + t → wt s.N i ≤ wt s.N j
  last : 0 < t → ∀ i j, i ≠ j → ((s.l ≤ i ∧ i < n) ∨ (s.p ≤ i ∧ i < n + t)) → ((s.l ≤ j ∧ j < n) ∨ (s.p ≤ j ∧ j < n + t)) → wt s.N (n + t - 1) ≤ wt s.N i + wt s.N j
theorem PS.step {n : Nat} {C : Int} {t : Nat} {s : TS} (h : TI n C t s) (hl : ∀ i j, i ≤ j → j < n → wt s.N i ≤ wt s.N j) (hP : PS n t s) (ht : t + 2 ≤ n) : PS n (t + 1) (stepH n s) := by
  have hlen := h.len
  have hln := h.ln
  have hnp := h.np
  have hpl := h.pl
  have hcnt := h.cnt
  have hpos := h.pos
  obtain ⟨_, _, _, s4, s5⟩ := step_inn h ht
  obtain ⟨a1, a2, a3, a4, a5, _, a7⟩ := take_one (n := n) (N := s.N) (l := s.l) (p := s.p) h.ln h.np (by omega) (by omega)
  obtain ⟨b1, b2, b3, b4, b5, _, b7⟩ := take_one (n := n) (N := s.N) (l := takeL n s.N s.l s.p) (p := takeP n s.N s.l s.p) a2 a3 a4 (by omega)
  have m1 := take_min (n := n) (N := s.N) (l := s.l) (p := s.p) hl (by rw [hlen]; exact hP.pair) h.np
  have m2 := take_min (n := n) (N := s.N) (l := takeL n s.N s.l s.p) (p := takeP n s.N s.l s.p) hl (by rw [hlen]; exact hP.pair) a3
  have hA : oneA n s = takeA n s.N s.l s.p := rfl
  have hB : oneB n s = takeA n s.N (takeL n s.N s.l s.p) (takeP n s.N s.l s.p) := rfl
  rw [← hA] at a1 a7 m1
  rw [← hB] at b1 b7 m2
  have hl2 : (stepH n s).l = takeL n s.N (takeL n s.N s.l s.p) (takeP n s.N s.l s.p) := rfl
  have hp2 : (stepH n s).p = takeP n s.N (takeL n s.N s.l s.p) (takeP n s.N s.l s.p) := rfl
  rw [← hl2, ← hp2] at b5 b7
  rw [← hl2] at b2
  rw [← hp2] at b3 b4
  rw [hlen] at a1 a4 a7 b1 b4 b7 m1 m2 s4 s5
  have hlast := hP.last
  clear hA hB hl2 hp2
  generalize oneA n s = A at *
  generalize oneB n s = B at *
  generalize takeL n s.N s.l s.p = l1 at *
  generalize takeP n s.N s.l s.p = p1 at *
  have fA : (s.l ≤ A ∧ A < n) ∨ (s.p ≤ A ∧ A < n + t) := by omega
  have fB : (s.l ≤ B ∧ B < n) ∨ (s.p ≤ B ∧ B < n + t) := by omega
  have hab := m1 B fB
  refine ⟨fun i j e1 e2 e3 => ?_, fun _ i j hne e1 e2 => ?_⟩
  · by_cases c1 : j < n + t
    · rw [s4 i (by omega), s4 j c1]; exact hP.pair i j e1 e2 c1
    · obtain rfl : j = n + t := by omega
      by_cases c2 : i = n + t
      · rw [c2]; omega
      · rw [s4 i (by omega), s5]
        have h1 := hP.pair i (n + t - 1) e1 (by omega) (by omega)
        have h2 := hlast (by omega) A B (by omega) fA fB
        omega
  · rw [show n + (t + 1) - 1 = n + t from by omega, s5]
    have hge : ∀ x, x < n + t → (((stepH n s).l ≤ x ∧ x < n) ∨ ((stepH n s).p ≤ x ∧ x < n + (t + 1))) → wt s.N B ≤ wt s.N x := fun x hx hfx => m2 x (by omega)
    by_cases c1 : i < n + t
    · have h1 := hge i c1 e1
      rw [s4 i c1]
      by_cases c2 : j < n + t
      · have h2 := hge j c2 e2
        rw [s4 j c2]; omega
      · obtain rfl : j = n + t := by omega
        rw [s5]
        have := hpos i
        omega
    · obtain rfl : i = n + t := by omega
      rw [s5]
      have := hpos j
      rw [s4 j (by omega)]; omega
theorem wt_tree (ws : List Int) (h : ∀ i, 0 ≤ ws.getD i 0) : ∀ t, t + 1 ≤ ws.length → ∀ i, i < ws.length → wt (treeT ws t).N i = ws.getD i 0
  | 0, _, i, _ => wt_start ws i
  | t + 1, ht, i, hi => by
    have hI := TI.run ws h t (by omega)
    have hs := (step_inn hI (by omega)).2.2.2.1 i (by rw [hI.len]; omega)
    have e : treeT ws (t + 1) = stepH ws.length (treeT ws t) := rfl
    rw [e, hs]
    exact wt_tree ws h t (by omega) i hi
theorem PS.run (ws : List Int) (h : ∀ i, 0 ≤ ws.getD i 0) (hs : ∀ i j, i ≤ j → j < ws.length → ws.getD i 0 ≤ ws.getD j 0) : ∀ t, t + 1 ≤ ws.length → PS ws.length t (treeT ws t)
  | 0, _ => ⟨fun i j a b c => by omega, fun h => by omega⟩
  | t + 1, ht => PS.step (TI.run ws h t (by omega)) (fun i j a b => by rw [wt_tree ws h t (by omega) i (by omega), wt_tree ws h t (by omega) j b]; exact hs i j a b) (PS.run ws h hs t (by omega)) (by omega)
end Hf
end Go.Proofs.Ytgecoiakhmnilab
/-
  Plain facts: no code of weights costs less than the depths of their tree.
-/
namespace Go.Proofs.Ytgecoiakhmnilab
namespace Hf
/-- k values from i on. -/
def lstG (g : Nat → Int) : Nat → Nat → List Int
  | _, 0 => []
  | i, k + 1 => g i :: lstG g (i + 1) k
theorem lstG_snoc (g : Nat → Int) : ∀ (k i : Nat), lstG g i (k + 1) = lstG g i k ++ [g (i + k)]
  | 0, i => by simp [lstG]
  | k + 1, i => by
    rw [lstG, lstG_snoc g k (i + 1), lstG]
    rw [show i + 1 + k = i + (k + 1) from by omega]
    rfl
theorem lstG_mem (g : Nat → Int) : ∀ (k i : Nat) (x : Int), x ∈ lstG g i k → ∃ j, i ≤ j ∧ j < i + k ∧ x = g j
  | 0, _, _, h => by simp [lstG] at h
  | k + 1, i, x, h => by
    rw [lstG] at h
    rcases List.mem_cons.1 h with e | h
    · exact ⟨i, by omega, by omega, e⟩
    · obtain ⟨j, h1, h2, h3⟩ := lstG_mem g k (i + 1) x h
      exact ⟨j, by omega, by omega, h3⟩
/-- The values of those that stand in none. -/
def freeL (n len : Nat) (g : Nat → Int) (l p : Nat) : List Int := lstG g l (n - l) ++ lstG g p (len - p)
theorem freeL_take (g : Nat → Int) {n : Nat} {N : Nodes} {l p : Nat} (ln : l ≤ n) (np : n ≤ p) (pl : p ≤ N.length) (hfree : 0 < (n - l) + (N.length - p)) :
    (freeL n N.length g l p).Perm (g (takeA n N l p) :: freeL n N.length g (takeL n N l p) (takeP n N l p)) := by
  obtain ⟨_, _, _, _, _, _, h⟩ := take_one (n := n) (N := N) (l := l) (p := p) ln np pl hfree
  unfold freeL
  rcases h with ⟨h1, h2, h3, h4⟩ | ⟨h1, h2, h3, h4⟩
  · rw [h1, h3, h4, show n - l = (n - (l + 1)) + 1 from by omega, lstG]; exact List.Perm.refl _
  · rw [h1, h3, h4, show N.length - p = (N.length - (p + 1)) + 1 from by omega, lstG]; exact List.perm_middle
theorem freeL_mem {n len : Nat} {g : Nat → Int} {l p : Nat} {x : Int} (h : x ∈ freeL n len g l p) : ∃ j, ((l ≤ j ∧ j < n) ∨ (p ≤ j ∧ j < len)) ∧ x = g j := by
  unfold freeL at h
  rcases List.mem_append.1 h with h | h
  · obtain ⟨j, h1, h2, h3⟩ := lstG_mem _ _ _ _ h
    exact ⟨j, by omega, h3⟩
  · obtain ⟨j, h1, h2, h3⟩ := lstG_mem _ _ _ _ h
    exact ⟨j, by omega, h3⟩
/-- Weights stay to the end. -/
theorem wt_end (ws : List Int) (h : ∀ i, 0 ≤ ws.getD i 0) : ∀ (k t : Nat), t + k + 1 = ws.length → ∀ i, i < ws.length + t → wt (treeT ws (ws.length - 1)).N i = wt (treeT ws t).N i
  | 0, t, ht, i, _ => by rw [show ws.length - 1 = t from by omega]
  | k + 1, t, ht, i, hi => by
    have hI := TI.run ws h t (by omega)
    rw [wt_end ws h k (t + 1) (by omega) i (by omega)]
    exact (step_inn hI (by omega)).2.2.2.1 i (by rw [hI.len]; exact hi)

/-- The two that are taken at step t: they are the least, and what is free ahead of it and behind it. -/
theorem step_all (ws : List Int) (h : ∀ i, 0 ≤ ws.getD i 0) (hs : ∀ i j, i ≤ j → j < ws.length → ws.getD i 0 ≤ ws.getD j 0) (t : Nat) (ht : t + 2 ≤ ws.length) (w : Nat → Int) (hw : w = wt (treeT ws (ws.length - 1)).N) :
    ∃ A B R, (∀ g : Nat → Int, freeG ws.length (ws.length + t) g (treeT ws t).l (treeT ws t).p + g (ws.length + t) = g A + g B + freeG ws.length (ws.length + (t + 1)) g (treeT ws (t + 1)).l (treeT ws (t + 1)).p) ∧
      inn (treeT ws (ws.length - 1)).N A = ((ws.length + t : Nat) : Int) ∧ inn (treeT ws (ws.length - 1)).N B = ((ws.length + t : Nat) : Int) ∧ A < ws.length + t ∧ B < ws.length + t ∧
      (freeL ws.length (ws.length + t) w (treeT ws t).l (treeT ws t).p).Perm (w A :: w B :: R) ∧ (freeL ws.length (ws.length + (t + 1)) w (treeT ws (t + 1)).l (treeT ws (t + 1)).p).Perm (w (ws.length + t) :: R) ∧
      w (ws.length + t) = w A + w B ∧ 0 ≤ w A ∧ w A ≤ w B ∧ ∀ x ∈ R, w B ≤ x := by
  have hI := TI.run ws h t (by omega)
  have hP := PS.run ws h hs t (by omega)
  have hwt := wt_end ws h (ws.length - 1 - t) t (by omega)
  have hwt1 := wt_end ws h (ws.length - 1 - (t + 1)) (t + 1) (by omega)
  rw [← hw] at hwt hwt1
  have hl : ∀ i j, i ≤ j → j < ws.length → wt (treeT ws t).N i ≤ wt (treeT ws t).N j := fun i j a b => by rw [wt_tree ws h t (by omega) i (by omega), wt_tree ws h t (by omega) j b]; exact hs i j a b
  have hstep := step_inn hI (by omega)
  have hlen := hI.len
  obtain ⟨a1, a2, a3, a4, a5, _, a7⟩ := take_one (n := ws.length) (N := (treeT ws t).N) (l := (treeT ws t).l) (p := (treeT ws t).p) hI.ln hI.np (by rw [hI.len]; exact hI.pl) (by have := hI.cnt; have := hI.ln; have := hI.pl; omega)
  have hf1 := fun g => freeG_take g (n := ws.length) (N := (treeT ws t).N) (l := (treeT ws t).l) (p := (treeT ws t).p) hI.ln hI.np (by rw [hI.len]; exact hI.pl) (by have := hI.cnt; have := hI.ln; have := hI.pl; omega)
  have hg1 := freeL_take w (n := ws.length) (N := (treeT ws t).N) (l := (treeT ws t).l) (p := (treeT ws t).p) hI.ln hI.np (by rw [hI.len]; exact hI.pl) (by have := hI.cnt; have := hI.ln; have := hI.pl; omega)
  have m1 := take_min (n := ws.length) (N := (treeT ws t).N) (l := (treeT ws t).l) (p := (treeT ws t).p) hl (by rw [hlen]; exact hP.pair) hI.np
  have m2 := take_min (n := ws.length) (N := (treeT ws t).N) (l := takeL ws.length (treeT ws t).N (treeT ws t).l (treeT ws t).p) (p := takeP ws.length (treeT ws t).N (treeT ws t).l (treeT ws t).p) hl (by rw [hlen]; exact hP.pair) a3
  obtain ⟨b1, b2, b3, b4, b5, _, b7⟩ := take_one (n := ws.length) (N := (treeT ws t).N) (l := takeL ws.length (treeT ws t).N (treeT ws t).l (treeT ws t).p) (p := takeP ws.length (treeT ws t).N (treeT ws t).l (treeT ws t).p) a2 a3 a4 (by have := hI.cnt; have := hI.ln; have := hI.pl; omega)
  have hf2 := fun g => freeG_take g (n := ws.length) (N := (treeT ws t).N) (l := takeL ws.length (treeT ws t).N (treeT ws t).l (treeT ws t).p) (p := takeP ws.length (treeT ws t).N (treeT ws t).l (treeT ws t).p) a2 a3 a4 (by have := hI.cnt; have := hI.ln; have := hI.pl; omega)
  have hg2 := freeL_take w (n := ws.length) (N := (treeT ws t).N) (l := takeL ws.length (treeT ws t).N (treeT ws t).l (treeT ws t).p) (p := takeP ws.length (treeT ws t).N (treeT ws t).l (treeT ws t).p) a2 a3 a4 (by have := hI.cnt; have := hI.ln; have := hI.pl; omega)
  have e1 : (treeT ws (t + 1)).l = takeL ws.length (treeT ws t).N (takeL ws.length (treeT ws t).N (treeT ws t).l (treeT ws t).p) (takeP ws.length (treeT ws t).N (treeT ws t).l (treeT ws t).p) := rfl
  have e2 : (treeT ws (t + 1)).p = takeP ws.length (treeT ws t).N (takeL ws.length (treeT ws t).N (treeT ws t).l (treeT ws t).p) (takeP ws.length (treeT ws t).N (treeT ws t).l (treeT ws t).p) := rfl
  have hA : oneA ws.length (treeT ws t) = takeA ws.length (treeT ws t).N (treeT ws t).l (treeT ws t).p := rfl
  have hB : oneB ws.length (treeT ws t) = takeA ws.length (treeT ws t).N (takeL ws.length (treeT ws t).N (treeT ws t).l (treeT ws t).p) (takeP ws.length (treeT ws t).N (treeT ws t).l (treeT ws t).p) := rfl
  rw [← hA] at hf1 a1 a7 hg1 m1
  rw [← hB] at hf2 b1 b7 hg2 m2
  rw [← e1, ← e2] at hf2 hg2
  rw [← e2] at b3 b4
  rw [← e1, ← e2] at b7
  rw [hlen] at hf1 hf2 a1 b1 b4 b7 hg1 hg2 m1 m2 a7
  have hend := inn_end ws h (ws.length - 1 - (t + 1)) (t + 1) (by omega)
  have tA : oneA ws.length (treeT ws t) < (treeT ws (t + 1)).l ∨ (ws.length ≤ oneA ws.length (treeT ws t) ∧ oneA ws.length (treeT ws t) < (treeT ws (t + 1)).p) := by
    have h1 := hI.np
    clear hf1 hf2 hend e1 e2 hA hB
    generalize oneA ws.length (treeT ws t) = A at *
    generalize oneB ws.length (treeT ws t) = B at *
    generalize takeL ws.length (treeT ws t).N (treeT ws t).l (treeT ws t).p = l1 at *
    generalize takeP ws.length (treeT ws t).N (treeT ws t).l (treeT ws t).p = p1 at *
    omega
  have tB : oneB ws.length (treeT ws t) < (treeT ws (t + 1)).l ∨ (ws.length ≤ oneB ws.length (treeT ws t) ∧ oneB ws.length (treeT ws t) < (treeT ws (t + 1)).p) := by
    have h1 := hI.np
    clear hf1 hf2 hend e1 e2 hA hB
    generalize oneA ws.length (treeT ws t) = A at *
    generalize oneB ws.length (treeT ws t) = B at *
    generalize takeL ws.length (treeT ws t).N (treeT ws t).l (treeT ws t).p = l1 at *
    generalize takeP ws.length (treeT ws t).N (treeT ws t).l (treeT ws t).p = p1 at *
    omega
  have hsum : w (ws.length + t) = w (oneA ws.length (treeT ws t)) + w (oneB ws.length (treeT ws t)) := by
    rw [hwt1 _ (by omega), hwt _ a1, hwt _ b1]
    have := hstep.2.2.2.2
    rw [hlen] at this
    exact this
  refine ⟨oneA ws.length (treeT ws t), oneB ws.length (treeT ws t), freeL ws.length (ws.length + t) w (treeT ws (t + 1)).l (treeT ws (t + 1)).p, fun g => ?_, ?_, ?_, a1, b1, hg1.trans (hg2.cons _), ?_, hsum, ?_, ?_, fun x hx => ?_⟩
  · have e3 : freeG ws.length (ws.length + (t + 1)) g (treeT ws (t + 1)).l (treeT ws (t + 1)).p = freeG ws.length (ws.length + t) g (treeT ws (t + 1)).l (treeT ws (t + 1)).p + g (ws.length + t) := by
      unfold freeG
      rw [show ws.length + (t + 1) - (treeT ws (t + 1)).p = (ws.length + t - (treeT ws (t + 1)).p) + 1 from by omega, sumG_snoc, show (treeT ws (t + 1)).p + (ws.length + t - (treeT ws (t + 1)).p) = ws.length + t from by omega]
      omega
    rw [e3, hf1, hf2]; omega
  · have := hstep.2.1
    rw [hlen] at this
    rw [hend (oneA ws.length (treeT ws t)) tA]
    exact this
  · have := hstep.2.2.1
    rw [hlen] at this
    rw [hend (oneB ws.length (treeT ws t)) tB]
    exact this
  · unfold freeL
    rw [show ws.length + (t + 1) - (treeT ws (t + 1)).p = (ws.length + t - (treeT ws (t + 1)).p) + 1 from by omega, lstG_snoc, show (treeT ws (t + 1)).p + (ws.length + t - (treeT ws (t + 1)).p) = ws.length + t from by omega, ← List.append_assoc]
    exact List.perm_append_singleton _ _
  · rw [hwt _ a1]; exact hI.pos _
  · rw [hwt _ a1, hwt _ b1]
    exact m1 _ (by
      clear hf1 hf2 hend e1 e2 hA hB hg1 hg2 m1 m2
      have h1 := hI.np
      have h2 := hI.ln
      generalize oneA ws.length (treeT ws t) = A at *
      generalize oneB ws.length (treeT ws t) = B at *
      generalize takeL ws.length (treeT ws t).N (treeT ws t).l (treeT ws t).p = l1 at *
      generalize takeP ws.length (treeT ws t).N (treeT ws t).l (treeT ws t).p = p1 at *
      omega)
  · obtain ⟨j, hj, rfl⟩ := freeL_mem hx
    have hjl : j < ws.length + t := by omega
    rw [hwt _ b1, hwt _ hjl]
    exact m2 j (by
      clear hf1 hf2 hend e1 e2 hA hB hg1 hg2 m1 m2
      generalize oneA ws.length (treeT ws t) = A at *
      generalize oneB ws.length (treeT ws t) = B at *
      generalize takeL ws.length (treeT ws t).N (treeT ws t).l (treeT ws t).p = l1 at *
      generalize takeP ws.length (treeT ws t).N (treeT ws t).l (treeT ws t).p = p1 at *
      omega)

/-- A node's weight times how deep it stands. -/
def wd (N : Nodes) (i : Nat) : Int := wt N i * dv N i
/-- No code of what is free costs less than its depths. -/
theorem best_free (ws : List Int) (h : ∀ i, 0 ≤ ws.getD i 0) (hs : ∀ i j, i ≤ j → j < ws.length → ws.getD i 0 ≤ ws.getD j 0) (hn : 2 ≤ ws.length) (M : Nat) : ∀ (k t : Nat), t + k + 1 = ws.length →
    ∀ P : List (Int × Nat), (P.map Prod.fst).Perm (freeL ws.length (ws.length + t) (wt (treeT ws (ws.length - 1)).N) (treeT ws t).l (treeT ws t).p) → kraP M P ≤ 2 ^ M → (∀ q ∈ P, q.2 ≤ M) →
      freeG ws.length (ws.length + t) (wd (treeT ws (ws.length - 1)).N) (treeT ws t).l (treeT ws t).p ≤ costP P := by
  obtain ⟨hu, hlN⟩ := tree_ups ws h hn
  intro k
  induction k with
  | zero =>
    intro t ht P hp _ _
    have hI := TI.run ws h t (by omega)
    have hIe := TI.run ws h (ws.length - 1) (by omega)
    have h1 := hI.ln
    have h2 := hI.np
    have h3 := hI.pl
    have h4 := hI.cnt
    have h5 := hI.last (by omega)
    have hnn : 0 ≤ costP P := costP_nonneg P (fun q hq => by
      obtain ⟨j, _, e⟩ := freeL_mem (hp.subset (List.mem_map.2 ⟨q, hq, rfl⟩))
      rw [e]; exact hIe.pos j)
    unfold freeG
    rw [show ws.length - (treeT ws t).l = 0 from by omega, show ws.length + t - (treeT ws t).p = 1 from by omega]
    rw [sumG, sumG, sumG]
    unfold wd
    rw [dv_last _ _ (by rw [hlN]; omega)]
    simp only [Int.mul_zero]
    omega
  | succ k ih =>
    intro t ht P hp hk hM
    obtain ⟨A, B, R, hg, iA, iB, lA, lB, q1, q2, hw, h0, hab, hR⟩ := step_all ws h hs t (by omega) _ rfl
    obtain ⟨P', r1, r2, r3, r4⟩ := merge M (hp.trans q1) h0 hab hR hk hM
    rw [← hw] at r1
    have hi := ih (t + 1) (by omega) P' (r1.trans q2.symm) r2 r3
    have hgg := hg (wd (treeT ws (ws.length - 1)).N)
    have dA := dv_step hu A (by rw [hlN]; omega)
    have dB := dv_step hu B (by rw [hlN]; omega)
    rw [iA, Int.toNat_natCast] at dA
    rw [iB, Int.toNat_natCast] at dB
    have e : wd (treeT ws (ws.length - 1)).N A + wd (treeT ws (ws.length - 1)).N B = wd (treeT ws (ws.length - 1)).N (ws.length + t) + (wt (treeT ws (ws.length - 1)).N A + wt (treeT ws (ws.length - 1)).N B) := by
      unfold wd
      rw [dA, dB, hw, Int.mul_add, Int.mul_add, Int.add_mul]; omega
    omega
/-- No code of weights costs less than their depths. -/
theorem best (ws : List Int) (h : ∀ i, 0 ≤ ws.getD i 0) (hs : ∀ i j, i ≤ j → j < ws.length → ws.getD i 0 ≤ ws.getD j 0) (hn : 2 ≤ ws.length) (M : Nat) (P : List (Int × Nat)) (hp : P.map Prod.fst = ws) (hk : kraP M P ≤ 2 ^ M) (hM : ∀ q ∈ P, q.2 ≤ M) :
    sumG (wd (treeT ws (ws.length - 1)).N) 0 ws.length ≤ costP P := by
  have h1 := best_free ws h hs hn M (ws.length - 1) 0 (by omega) P
  have e1 : (treeT ws 0).l = 0 := rfl
  have e2 : (treeT ws 0).p = ws.length := rfl
  have e3 : lstG (wt (treeT ws (ws.length - 1)).N) 0 ws.length = ws := by
    have hall : ∀ k, k ≤ ws.length → lstG (wt (treeT ws (ws.length - 1)).N) 0 k = ws.take k := fun k => by
      induction k with
      | zero => intro _; simp [lstG]
      | succ k ih =>
        intro hk
        rw [lstG_snoc, ih (by omega), Nat.zero_add, wt_tree ws h _ (by omega) k (by omega), List.take_add_one]
        simp [List.getElem?_eq_getElem (show k < ws.length by omega), List.getD]
    rw [hall _ (Nat.le_refl _), List.take_length]
  unfold freeG freeL at h1
  rw [e1, e2, Nat.sub_zero, Nat.add_zero, Nat.sub_self, sumG, lstG, List.append_nil, e3, hp, Int.add_zero] at h1
  exact h1 (List.Perm.refl _) hk hM
end Hf
end Go.Proofs.Ytgecoiakhmnilab
/-
  Plain facts: no code for the same symbols costs less than the depths of counts.
-/
namespace Go.Proofs.Ytgecoiakhmnilab
open Hf
/-- The sum of a value over a list of symbols. -/
def sumL (f : Int → Int) : List Int → Int
  | [] => 0
  | u :: l => f u + sumL f l
theorem sumL_perm (f : Int → Int) {l m : List Int} (h : l.Perm m) : sumL f l = sumL f m := by
  induction h with
  | nil => rfl
  | cons x _ ih => simp only [sumL]; rw [ih]
  | swap x y l => simp only [sumL]; omega
  | trans _ _ ih1 ih2 => rw [ih1, ih2]
theorem sumL_snoc (f : Int → Int) (u : Int) : ∀ l : List Int, sumL f (l ++ [u]) = sumL f l + f u
  | [] => by simp [sumL]
  | x :: l => by
    rw [List.cons_append, sumL, sumL_snoc f u l, sumL]; omega
theorem sumL_congr {f g : Int → Int} : ∀ l : List Int, (∀ u ∈ l, f u = g u) → sumL f l = sumL g l
  | [], _ => rfl
  | x :: l, h => by
    rw [sumL, sumL, h x List.mem_cons_self, sumL_congr l (fun u hu => h u (List.mem_cons_of_mem _ hu))]
/-- Cost is the sum over the symbols that come. -/
theorem cost_nz (zs cs : List Int) (hc : ∀ k, 0 ≤ cs.getD k 0) : ∀ k, costS zs cs k = sumL (fun u => key cs u * zs.getD u.toNat 0) (nz cs k)
  | 0 => rfl
  | k + 1 => by
    rw [costS, cost_nz zs cs hc k, nz]
    by_cases h : 0 < cs.getD k 0
    · rw [if_pos h, sumL_snoc]; unfold key; simp
    · have h0 := hc k
      rw [if_neg h, show cs.getD k 0 = 0 from by omega]; omega
theorem cost_srt (zs cs : List Int) (hc : ∀ k, 0 ≤ cs.getD k 0) : costS zs cs cs.length = sumL (fun u => key cs u * zs.getD u.toNat 0) (srt cs) := by
  rw [cost_nz zs cs hc]
  exact (sumL_perm _ (srt_perm cs)).symm
/-- Symbols with their weights and lengths. -/
def prs (zs cs : List Int) (l : List Int) : List (Int × Nat) := l.map (fun u => (key cs u, (zs.getD u.toNat 0).toNat))
theorem prs_cost (zs cs : List Int) (hz : ∀ k, 0 ≤ zs.getD k 0) : ∀ l, costP (prs zs cs l) = sumL (fun u => key cs u * zs.getD u.toNat 0) l
  | [] => rfl
  | u :: l => by
    have h := prs_cost zs cs hz l
    unfold prs at h ⊢
    rw [List.map_cons, costP, h, sumL]
    have := hz u.toNat
    simp only
    rw [Int.toNat_of_nonneg this]
theorem kraP_snoc (M : Nat) (q : Int × Nat) : ∀ P, kraP M (P ++ [q]) = kraP M P + 2 ^ (M - q.2)
  | [] => by simp [kraP]
  | x :: P => by rw [List.cons_append, kraP, kraP_snoc M q P, kraP]; omega
theorem prs_kra (zs cs : List Int) (hno : ∀ k, k < cs.length → 0 < cs.getD k 0 → 0 < zs.getD k 0) (hl : cs.length = zs.length) : ∀ k, k ≤ cs.length → kraP 15 (prs zs cs (nz cs k)) ≤ sumR (zs.take k)
  | 0, _ => by simp [prs, nz, kraP]
  | k + 1, hk => by
    have ih := prs_kra zs cs hno hl k (by omega)
    have e : zs.take (k + 1) = zs.take k ++ [zs.getD k 0] := by
      rw [List.take_add_one]
      simp [List.getElem?_eq_getElem (show k < zs.length by omega), List.getD]
    rw [e, sumR_snoc, nz]
    by_cases h : 0 < cs.getD k 0
    · have h1 := hno k (by omega) h
      rw [if_pos h, if_pos h1]
      unfold prs at ih ⊢
      rw [List.map_append, List.map_cons, List.map_nil, kraP_snoc]
      simp only [Int.toNat_natCast]
      omega
    · rw [if_neg h]; omega
theorem sum_le_of_check {zs : List Int} (h : checkB zs = true) : sumR zs ≤ 32768 := by
  unfold checkB okT at h
  rw [Bool.and_eq_true] at h
  have hr := (lenOk_all h.1).2
  have h2 := h.2
  rw [wsum_sumR _ hr, tal_zero_iff _ hr, one_split _ hr, Bool.or_eq_true, Bool.or_eq_true, Bool.and_eq_true, beq_iff_eq, beq_iff_eq, beq_iff_eq, beq_iff_eq] at h2
  have hle : ∀ l : List Int, sumR l ≤ someR l * 16384 := fun l => by
    induction l with
    | nil => simp [sumR]
    | cons z l ih =>
      rw [sumR_cons]
      have e : someR (z :: l) = someR l + (if 0 < z then 1 else 0) := by unfold someR; rw [List.countP_cons]; simp
      rw [e]
      by_cases c : 0 < z
      · rw [if_pos c, if_pos c]
        have h3 : 2 ^ (15 - z.toNat) ≤ 2 ^ 14 := Nat.pow_le_pow_right (by omega) (by omega)
        omega
      · rw [if_neg c, if_neg c]; omega
  have := hle zs
  rcases h2 with (h2 | h2) | h2
  · omega
  · rw [h2] at this; omega
  · rw [h2.1] at this; omega
theorem sumL_at (f : Int → Int) : ∀ (l : List Int) (g : Nat → Int) (i : Nat), (∀ j, j < l.length → f (l.getD j 0) = g (i + j)) → sumL f l = sumG g i l.length
  | [], _, _, _ => rfl
  | u :: l, g, i, h => by
    rw [sumL, List.length_cons, sumG]
    have h0 := h 0 (by simp)
    rw [sumL_at f l g (i + 1) (fun j hj => by
      have := h (j + 1) (by simpa using hj)
      rw [show i + 1 + j = i + (j + 1) from by omega, ← this]; simp)]
    simp at h0
    rw [h0]
/-- No code for the same symbols costs less than the depths of counts. -/
theorem best_cost (cs zs : List Int) (hc : ∀ k, 0 ≤ cs.getD k 0 ∧ cs.getD k 0 ≤ 1073741824) (hz : checkB zs = true) (hl : cs.length = zs.length) (hno : noCode zs cs = false) : costS (depthsL cs) cs cs.length ≤ costS zs cs cs.length := by
  have hzr := (len_rng hz).2
  have hno' : ∀ k, k < cs.length → 0 < cs.getD k 0 → 0 < zs.getD k 0 := fun k hk h => by
    have h1 := hzr k
    by_cases e : zs.getD k 0 = 0
    · rw [noCode_hit zs cs k hk (by omega) e] at hno; cases hno
    · omega
  rw [cost_srt _ cs (fun k => (hc k).1), cost_srt zs cs (fun k => (hc k).1)]
  by_cases h0 : (srt cs).length = 0
  · rw [List.length_eq_zero_iff.1 h0]; exact Int.le_refl _
  · by_cases h1 : (srt cs).length = 1
    · have hd := dep_one cs h1
      have hm := srt_mem cs _ (getD_mem (srt cs) 0 (by omega))
      obtain ⟨u, hu⟩ := List.length_eq_one_iff.1 h1
      rw [hu] at hd hm ⊢
      simp only [List.getD_cons_zero] at hd hm
      simp only [sumL]
      rw [hd]
      have h2 := hno' u.toNat (by omega) hm.2.2
      have h3 : key cs u * 1 ≤ key cs u * zs.getD u.toNat 0 := Int.mul_le_mul_of_nonneg_left (by omega) (by unfold key; omega)
      omega
    · have hm : 2 ≤ (srt cs).length := by omega
      have hw := wsOf_len cs
      have hg : ∀ i, i < (srt cs).length → (wsOf cs (srt cs)).getD i 0 = key cs ((srt cs).getD i 0) := fun i hi => wsOf_getD cs (srt cs) i hi
      have hws : ∀ i, 0 ≤ (wsOf cs (srt cs)).getD i 0 := fun i => (wsOf_rng cs hc (srt cs) i).1
      have hP : (prs zs cs (srt cs)).map Prod.fst = wsOf cs (srt cs) := by unfold prs wsOf; rw [List.map_map]; rfl
      have hk : kraP 15 (prs zs cs (srt cs)) ≤ 2 ^ 15 := by
        have e1 : kraP 15 (prs zs cs (srt cs)) = kraP 15 (prs zs cs (nz cs cs.length)) := kraP_perm 15 ((srt_perm cs).map _)
        have e2 := prs_kra zs cs hno' hl cs.length (Nat.le_refl _)
        rw [hl, List.take_length, ← hl] at e2
        have e3 := sum_le_of_check hz
        omega
      have hM : ∀ q ∈ prs zs cs (srt cs), q.2 ≤ 15 := fun q hq => by
        obtain ⟨u, _, rfl⟩ := List.mem_map.1 hq
        have := hzr u.toNat
        show (zs.getD u.toNat 0).toNat ≤ 15
        omega
      have hb := best (wsOf cs (srt cs)) hws (fun i j a b => by rw [hw] at b; rw [hg i (by omega), hg j b]; exact srt_up cs a b) (by rw [hw]; exact hm) 15 (prs zs cs (srt cs)) hP hk hM
      rw [prs_cost zs cs (fun k => (hzr k).1), hw] at hb
      rw [show (treeT (wsOf cs (srt cs)) ((srt cs).length - 1)).N = treeN cs from rfl] at hb
      have e : sumL (fun u => key cs u * (depthsL cs).getD u.toNat 0) (srt cs) = sumG (wd (treeN cs)) 0 (srt cs).length := sumL_at _ (srt cs) _ 0 (fun j hj => by
        rw [Nat.zero_add, dep_at cs hc hm j hj]
        unfold wd
        have := wt_tree (wsOf cs (srt cs)) hws ((srt cs).length - 1) (by rw [hw]; omega) j (by rw [hw]; exact hj)
        rw [show (treeT (wsOf cs (srt cs)) ((srt cs).length - 1)).N = treeN cs from rfl, hg j hj] at this
        rw [this])
      rw [e]; exact hb
/-- What the depths of counts cost is told. -/
theorem dep_costV (cs : List Int) (hn : areC cs = true) (hd : (depthsL cs).any deepC = false) : costV (depthsL cs) cs = (costS (depthsL cs) cs cs.length, 0) := by
  have hc := areC_rng hn
  rw [costV_go (dep_code cs hc.1 hc.2 hd) hn (dep_long cs).symm, noCode_miss]
  · rfl
  · intro k hk hb
    have := dep_cases cs hc.2 k hk
    omega
end Go.Proofs.Ytgecoiakhmnilab
