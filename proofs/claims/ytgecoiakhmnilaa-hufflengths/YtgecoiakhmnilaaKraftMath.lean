/-
  Plain facts: the depths of a tree of counts fill a code, and the tree of weights of 1 and 2 is not deep.
-/
import Derived.Test.YtgecoiakhmnilaaDepMath
namespace Go.Proofs.Ytgecoiakhmnilaa
namespace Hf

/-- The sum of k values from i on. -/
def sumG (g : Nat → Int) : Nat → Nat → Int
  | _, 0 => 0
  | i, k + 1 => g i + sumG g (i + 1) k
theorem sumG_snoc (g : Nat → Int) : ∀ (k i : Nat), sumG g i (k + 1) = sumG g i k + g (i + k)
  | 0, i => by simp [sumG]
  | k + 1, i => by
    rw [sumG, sumG_snoc g k (i + 1), sumG]
    rw [show i + 1 + k = i + (k + 1) from by omega]
    omega
def freeG (n len : Nat) (g : Nat → Int) (l p : Nat) : Int := sumG g l (n - l) + sumG g p (len - p)
theorem freeG_take (g : Nat → Int) {n : Nat} {N : Nodes} {l p : Nat} (ln : l ≤ n) (np : n ≤ p) (pl : p ≤ N.length) (hfree : 0 < (n - l) + (N.length - p)) :
    freeG n N.length g l p = g (takeA n N l p) + freeG n N.length g (takeL n N l p) (takeP n N l p) := by
  obtain ⟨_, _, _, _, _, _, h⟩ := take_one (n := n) (N := N) (l := l) (p := p) ln np pl hfree
  unfold freeG
  rcases h with ⟨h1, h2, h3, h4⟩ | ⟨h1, h2, h3, h4⟩
  · rw [h1, h3, h4, show n - l = (n - (l + 1)) + 1 from by omega, sumG]; omega
  · rw [h1, h3, h4, show N.length - p = (N.length - (p + 1)) + 1 from by omega, sumG]; omega

/-- What a step leaves of those that stand in one, and what it makes of the two that it takes. -/
theorem step_inn {n : Nat} {C : Int} {t : Nat} {s : TS} (h : TI n C t s) (ht : t + 2 ≤ n) :
    (∀ i, (i < s.l ∨ (n ≤ i ∧ i < s.p)) → inn (stepH n s).N i = inn s.N i) ∧ inn (stepH n s).N (oneA n s) = (s.N.length : Int) ∧ inn (stepH n s).N (oneB n s) = (s.N.length : Int) ∧
    (∀ i, i < s.N.length → wt (stepH n s).N i = wt s.N i) ∧ wt (stepH n s).N s.N.length = wt s.N (oneA n s) + wt s.N (oneB n s) := by
  have hlen := h.len
  have hln := h.ln
  have hnp := h.np
  have hpl := h.pl
  have hcnt := h.cnt
  obtain ⟨a1, a2, a3, a4, a5, _, a7⟩ := take_one (n := n) (N := s.N) (l := s.l) (p := s.p) h.ln h.np (by omega) (by omega)
  obtain ⟨b1, b2, b3, b4, b5, _, b7⟩ := take_one (n := n) (N := s.N) (l := takeL n s.N s.l s.p) (p := takeP n s.N s.l s.p) a2 a3 a4 (by omega)
  have hA : oneA n s = takeA n s.N s.l s.p := rfl
  have hB : oneB n s = takeA n s.N (takeL n s.N s.l s.p) (takeP n s.N s.l s.p) := rfl
  rw [← hA] at a1 a7
  rw [← hB] at b1 b7
  have hN2 : (stepH n s).N = setIn (setIn s.N (oneA n s) (s.N.length : Int)) (oneB n s) (s.N.length : Int) ++ [(wt s.N (oneA n s) + wt s.N (oneB n s), 0)] := rfl
  generalize oneA n s = A at *
  generalize oneB n s = B at *
  generalize takeL n s.N s.l s.p = l1 at *
  generalize takeP n s.N s.l s.p = p1 at *
  have hM : (setIn (setIn s.N A (s.N.length : Int)) B (s.N.length : Int)).length = s.N.length := by rw [setIn_length, setIn_length]
  have hin : ∀ i, i < s.N.length → inn (stepH n s).N i = if i = B then (s.N.length : Int) else if i = A then (s.N.length : Int) else inn s.N i := fun i hi => by
    rw [hN2, inn_app _ _ _ (by rw [hM]; exact hi), inn_setIn _ _ _ _ (by rw [setIn_length]; exact b1), inn_setIn _ _ _ _ a1]
  refine ⟨fun i hi => ?_, ?_, ?_, fun j hj => ?_, ?_⟩
  · rw [hin i (by omega), if_neg (by omega), if_neg (by omega)]
  · rw [hin A a1]
    by_cases e : A = B
    · rw [if_pos e]
    · rw [if_neg e, if_pos rfl]
  · rw [hin B b1, if_pos rfl]
  · rw [hN2, wt_app _ _ _ (by rw [hM]; exact hj), wt_setIn, wt_setIn]
  · rw [hN2]
    have := wt_last (setIn (setIn s.N A (s.N.length : Int)) B (s.N.length : Int)) (wt s.N A + wt s.N B, 0)
    rw [hM] at this
    exact this

/-- Taken nodes keep where they stand to the end. -/
theorem inn_end (ws : List Int) (h : ∀ i, 0 ≤ ws.getD i 0) : ∀ (k t : Nat), t + k + 1 = ws.length → ∀ i, (i < (treeT ws t).l ∨ (ws.length ≤ i ∧ i < (treeT ws t).p)) → inn (treeT ws (ws.length - 1)).N i = inn (treeT ws t).N i
  | 0, t, ht, i, _ => by rw [show ws.length - 1 = t from by omega]
  | k + 1, t, ht, i, hi => by
    have hI := TI.run ws h t (by omega)
    have hs := step_inn hI (by omega)
    obtain ⟨a1, a2, a3, a4, a5, _, a7⟩ := take_one (n := ws.length) (N := (treeT ws t).N) (l := (treeT ws t).l) (p := (treeT ws t).p) hI.ln hI.np (by rw [hI.len]; exact hI.pl) (by have := hI.len; have := hI.cnt; have := hI.ln; have := hI.pl; omega)
    obtain ⟨b1, b2, b3, b4, b5, _, b7⟩ := take_one (n := ws.length) (N := (treeT ws t).N) (l := takeL ws.length (treeT ws t).N (treeT ws t).l (treeT ws t).p) (p := takeP ws.length (treeT ws t).N (treeT ws t).l (treeT ws t).p) a2 a3 a4 (by have := hI.len; have := hI.cnt; have := hI.ln; have := hI.pl; omega)
    have e1 : (treeT ws (t + 1)).l = takeL ws.length (treeT ws t).N (takeL ws.length (treeT ws t).N (treeT ws t).l (treeT ws t).p) (takeP ws.length (treeT ws t).N (treeT ws t).l (treeT ws t).p) := rfl
    have e2 : (treeT ws (t + 1)).p = takeP ws.length (treeT ws t).N (takeL ws.length (treeT ws t).N (treeT ws t).l (treeT ws t).p) (takeP ws.length (treeT ws t).N (treeT ws t).l (treeT ws t).p) := rfl
    rw [inn_end ws h k (t + 1) (by omega) i (by rw [e1, e2]; omega)]
    exact hs.1 i hi

/-- The two that are taken at step t, what is free behind it, and where they stand in the end. -/
theorem step_two (ws : List Int) (h : ∀ i, 0 ≤ ws.getD i 0) (t : Nat) (ht : t + 2 ≤ ws.length) (g : Nat → Int) :
    ∃ A B, freeG ws.length (ws.length + t) g (treeT ws t).l (treeT ws t).p + g (ws.length + t) = g A + g B + freeG ws.length (ws.length + (t + 1)) g (treeT ws (t + 1)).l (treeT ws (t + 1)).p ∧
      inn (treeT ws (ws.length - 1)).N A = ((ws.length + t : Nat) : Int) ∧ inn (treeT ws (ws.length - 1)).N B = ((ws.length + t : Nat) : Int) ∧ A < ws.length + t ∧ B < ws.length + t := by
  have hI := TI.run ws h t (by omega)
  have hs := step_inn hI (by omega)
  have hlen := hI.len
  obtain ⟨a1, a2, a3, a4, a5, _, a7⟩ := take_one (n := ws.length) (N := (treeT ws t).N) (l := (treeT ws t).l) (p := (treeT ws t).p) hI.ln hI.np (by rw [hI.len]; exact hI.pl) (by have := hI.cnt; have := hI.ln; have := hI.pl; omega)
  have hf1 := freeG_take g (n := ws.length) (N := (treeT ws t).N) (l := (treeT ws t).l) (p := (treeT ws t).p) hI.ln hI.np (by rw [hI.len]; exact hI.pl) (by have := hI.cnt; have := hI.ln; have := hI.pl; omega)
  obtain ⟨b1, b2, b3, b4, b5, _, b7⟩ := take_one (n := ws.length) (N := (treeT ws t).N) (l := takeL ws.length (treeT ws t).N (treeT ws t).l (treeT ws t).p) (p := takeP ws.length (treeT ws t).N (treeT ws t).l (treeT ws t).p) a2 a3 a4 (by have := hI.cnt; have := hI.ln; have := hI.pl; omega)
  have hf2 := freeG_take g (n := ws.length) (N := (treeT ws t).N) (l := takeL ws.length (treeT ws t).N (treeT ws t).l (treeT ws t).p) (p := takeP ws.length (treeT ws t).N (treeT ws t).l (treeT ws t).p) a2 a3 a4 (by have := hI.cnt; have := hI.ln; have := hI.pl; omega)
  have e1 : (treeT ws (t + 1)).l = takeL ws.length (treeT ws t).N (takeL ws.length (treeT ws t).N (treeT ws t).l (treeT ws t).p) (takeP ws.length (treeT ws t).N (treeT ws t).l (treeT ws t).p) := rfl
  have e2 : (treeT ws (t + 1)).p = takeP ws.length (treeT ws t).N (takeL ws.length (treeT ws t).N (treeT ws t).l (treeT ws t).p) (takeP ws.length (treeT ws t).N (treeT ws t).l (treeT ws t).p) := rfl
  have hA : oneA ws.length (treeT ws t) = takeA ws.length (treeT ws t).N (treeT ws t).l (treeT ws t).p := rfl
  have hB : oneB ws.length (treeT ws t) = takeA ws.length (treeT ws t).N (takeL ws.length (treeT ws t).N (treeT ws t).l (treeT ws t).p) (takeP ws.length (treeT ws t).N (treeT ws t).l (treeT ws t).p) := rfl
  rw [← hA] at hf1 a1 a7
  rw [← hB] at hf2 b1 b7
  rw [← e1, ← e2] at hf2
  rw [← e2] at b3 b4
  rw [← e1, ← e2] at b7
  rw [hlen] at hf1 hf2 a1 b1 b4 b7
  have hend := inn_end ws h (ws.length - 1 - (t + 1)) (t + 1) (by omega)
  have tA : oneA ws.length (treeT ws t) < (treeT ws (t + 1)).l ∨ (ws.length ≤ oneA ws.length (treeT ws t) ∧ oneA ws.length (treeT ws t) < (treeT ws (t + 1)).p) := by
    have h1 := hI.np
    clear hs hf1 hf2 hend e1 e2 hA hB
    generalize oneA ws.length (treeT ws t) = A at *
    generalize oneB ws.length (treeT ws t) = B at *
    generalize takeL ws.length (treeT ws t).N (treeT ws t).l (treeT ws t).p = l1 at *
    generalize takeP ws.length (treeT ws t).N (treeT ws t).l (treeT ws t).p = p1 at *
    omega
  have tB : oneB ws.length (treeT ws t) < (treeT ws (t + 1)).l ∨ (ws.length ≤ oneB ws.length (treeT ws t) ∧ oneB ws.length (treeT ws t) < (treeT ws (t + 1)).p) := by
    have h1 := hI.np
    clear hs hf1 hf2 hend e1 e2 hA hB
    generalize oneA ws.length (treeT ws t) = A at *
    generalize oneB ws.length (treeT ws t) = B at *
    generalize takeL ws.length (treeT ws t).N (treeT ws t).l (treeT ws t).p = l1 at *
    generalize takeP ws.length (treeT ws t).N (treeT ws t).l (treeT ws t).p = p1 at *
    omega
  refine ⟨oneA ws.length (treeT ws t), oneB ws.length (treeT ws t), ?_, ?_, ?_, a1, b1⟩
  · have e3 : freeG ws.length (ws.length + (t + 1)) g (treeT ws (t + 1)).l (treeT ws (t + 1)).p = freeG ws.length (ws.length + t) g (treeT ws (t + 1)).l (treeT ws (t + 1)).p + g (ws.length + t) := by
      unfold freeG
      rw [show ws.length + (t + 1) - (treeT ws (t + 1)).p = (ws.length + t - (treeT ws (t + 1)).p) + 1 from by omega, sumG_snoc, show (treeT ws (t + 1)).p + (ws.length + t - (treeT ws (t + 1)).p) = ws.length + t from by omega]
      omega
    rw [e3, hf1, hf2]; omega
  · have := hs.2.1
    rw [hlen] at this
    rw [hend (oneA ws.length (treeT ws t)) tA]
    exact this
  · have := hs.2.2.1
    rw [hlen] at this
    rw [hend (oneB ws.length (treeT ws t)) tB]
    exact this

/-- The share of a node of a whole of 2 to the M. -/
def shr (M : Nat) (N : Nodes) (i : Nat) : Int := 2 ^ (M - (dv N i).toNat)
theorem shr_child {N : Nodes} (hu : Ups N) (M i : Nat) (hi : i + 1 < N.length) (hM : N.length ≤ M) : shr M N (inn N i).toNat = 2 * shr M N i := by
  have h1 := dv_step hu i hi
  have h2 := dv_rng N i
  have h3 := dv_rng N (inn N i).toNat
  unfold shr
  rw [show M - (dv N (inn N i).toNat).toNat = (M - (dv N i).toNat) + 1 from by omega, Int.pow_succ]
  omega
theorem kraft_free (ws : List Int) (h : ∀ i, 0 ≤ ws.getD i 0) (hn : 2 ≤ ws.length) (M : Nat) (hM : 2 * ws.length ≤ M) : ∀ (k t : Nat), t + k + 1 = ws.length → freeG ws.length (ws.length + t) (shr M (treeT ws (ws.length - 1)).N) (treeT ws t).l (treeT ws t).p = 2 ^ M := by
  obtain ⟨hu, hl⟩ := tree_ups ws h hn
  intro k
  induction k with
  | zero =>
    intro t ht
    have hI := TI.run ws h t (by omega)
    have h1 := hI.ln
    have h2 := hI.np
    have h3 := hI.pl
    have h4 := hI.cnt
    have h5 := hI.last (by omega)
    unfold freeG
    rw [show ws.length - (treeT ws t).l = 0 from by omega, show ws.length + t - (treeT ws t).p = 1 from by omega]
    rw [sumG, sumG, sumG]
    unfold shr
    rw [dv_last _ _ (by rw [hl]; omega)]
    simp
  | succ k ih =>
    intro t ht
    obtain ⟨A, B, e, hA, hB, lA, lB⟩ := step_two ws h t (by omega) (shr M (treeT ws (ws.length - 1)).N)
    rw [ih (t + 1) (by omega)] at e
    have cA := shr_child hu M A (by rw [hl]; omega) (by rw [hl]; omega)
    have cB := shr_child hu M B (by rw [hl]; omega) (by rw [hl]; omega)
    rw [hA, Int.toNat_natCast] at cA
    rw [hB, Int.toNat_natCast] at cB
    omega
/-- Kraft: the shares of the leaves are the whole. -/
theorem kraft (ws : List Int) (h : ∀ i, 0 ≤ ws.getD i 0) (hn : 2 ≤ ws.length) (M : Nat) (hM : 2 * ws.length ≤ M) : sumG (shr M (treeT ws (ws.length - 1)).N) 0 ws.length = 2 ^ M := by
  have := kraft_free ws h hn M hM (ws.length - 1) 0 (by omega)
  unfold freeG at this
  have e1 : (treeT ws 0).l = 0 := rfl
  have e2 : (treeT ws 0).p = ws.length := rfl
  rw [e1, e2, Nat.sub_zero, Nat.add_zero, Nat.sub_self, sumG] at this
  omega
end Hf
end Go.Proofs.Ytgecoiakhmnilaa
