/-
  Plain facts: a tree of at most 60 weights of 1 and 2 is at most 15 deep.
-/
import Derived.Test.YtgecoiakhmnilaaKraftMath
namespace Go.Proofs.Ytgecoiakhmnilaa
namespace Hf

/-- What is taken weighs no more than anything that is free. -/
theorem take_min {n : Nat} {N : Nodes} {l p : Nat} (hl : ∀ i j, i ≤ j → j < n → wt N i ≤ wt N j) (hp : ∀ i j, n ≤ i → i ≤ j → j < N.length → wt N i ≤ wt N j) (np : n ≤ p) :
    ∀ j, ((l ≤ j ∧ j < n) ∨ (p ≤ j ∧ j < N.length)) → wt N (takeA n N l p) ≤ wt N j := by
  intro j hj
  unfold takeA
  cases hu : useLeaf n N l p with
  | true =>
    unfold useLeaf at hu
    rw [Bool.or_eq_true, beq_iff_eq, Bool.and_eq_true, decide_eq_true_eq, decide_eq_true_eq] at hu
    simp only [if_true]
    rcases hj with hj | hj
    · exact hl l j hj.1 hj.2
    · rcases hu with hu | hu
      · omega
      · have := hp p j np hj.1 hj.2; omega
  | false =>
    unfold useLeaf at hu
    rw [Bool.or_eq_false_iff, Bool.and_eq_false_iff, decide_eq_false_iff_not, decide_eq_false_iff_not] at hu
    simp only [Bool.false_eq_true, if_false]
    rcases hj with hj | hj
    · have := hl l j hj.1 hj.2
      have h2 : ¬ wt N l ≤ wt N p := by
        rcases hu.2 with h | h
        · omega
        · exact h
      omega
    · exact hp p j np hj.1 hj.2

/-- The state of a tree whose free weights are near to each other. -/
structure NI (n t : Nat) (s : TS) : Prop where
  leaf : ∀ i j, i ≤ j → j < n → wt s.N i ≤ wt s.N j
  pair : ∀ i j, n ≤ i → i ≤ j → j < n + t → wt s.N i ≤ wt s.N j
  pos : ∀ i, i < n + t → 1 ≤ wt s.N i
  near : ∀ i j, ((s.l ≤ i ∧ i < n) ∨ (s.p ≤ i ∧ i < n + t)) → ((s.l ≤ j ∧ j < n) ∨ (s.p ≤ j ∧ j < n + t)) → wt s.N i ≤ 2 * wt s.N j
  up : ∀ i, (i < s.l ∨ (n ≤ i ∧ i < s.p)) → 3 * wt s.N i ≤ 2 * wt s.N (inn s.N i).toNat

theorem NI.step {n : Nat} {C : Int} {t : Nat} {s : TS} (h : TI n C t s) (hN : NI n t s) (ht : t + 2 ≤ n) : NI n (t + 1) (stepH n s) := by
  have hlen := h.len
  have hln := h.ln
  have hnp := h.np
  have hpl := h.pl
  have hcnt := h.cnt
  have hlast := h.last
  obtain ⟨s1, s2, s3, s4, s5⟩ := step_inn h ht
  obtain ⟨a1, a2, a3, a4, a5, _, a7⟩ := take_one (n := n) (N := s.N) (l := s.l) (p := s.p) h.ln h.np (by omega) (by omega)
  obtain ⟨b1, b2, b3, b4, b5, _, b7⟩ := take_one (n := n) (N := s.N) (l := takeL n s.N s.l s.p) (p := takeP n s.N s.l s.p) a2 a3 a4 (by omega)
  have m1 := take_min (n := n) (N := s.N) (l := s.l) (p := s.p) hN.leaf (by rw [hlen]; exact hN.pair) h.np
  have m2 := take_min (n := n) (N := s.N) (l := takeL n s.N s.l s.p) (p := takeP n s.N s.l s.p) hN.leaf (by rw [hlen]; exact hN.pair) a3
  have hA : oneA n s = takeA n s.N s.l s.p := rfl
  have hB : oneB n s = takeA n s.N (takeL n s.N s.l s.p) (takeP n s.N s.l s.p) := rfl
  rw [← hA] at a1 a7 m1
  rw [← hB] at b1 b7 m2
  have hl2 : (stepH n s).l = takeL n s.N (takeL n s.N s.l s.p) (takeP n s.N s.l s.p) := rfl
  have hp2 : (stepH n s).p = takeP n s.N (takeL n s.N s.l s.p) (takeP n s.N s.l s.p) := rfl
  rw [← hl2, ← hp2] at b5 b7
  rw [← hl2] at b2
  rw [← hp2] at b3 b4
  rw [hlen] at a1 a4 a7 b1 b4 b7 m1 m2 s2 s3 s4 s5
  have hpar := h.par
  have hnear := hN.near
  clear hA hB hl2 hp2
  generalize oneA n s = A at *
  generalize oneB n s = B at *
  generalize takeL n s.N s.l s.p = l1 at *
  generalize takeP n s.N s.l s.p = p1 at *
  have fA : (s.l ≤ A ∧ A < n) ∨ (s.p ≤ A ∧ A < n + t) := by omega
  have fB : (s.l ≤ B ∧ B < n) ∨ (s.p ≤ B ∧ B < n + t) := by omega
  have hab := m1 B fB
  have nAB := hnear A B fA fB
  have nBA := hnear B A fB fA
  have pA := hN.pos A a1
  have pB := hN.pos B b1
  refine ⟨fun i j e1 e2 => ?_, fun i j e1 e2 e3 => ?_, fun i e1 => ?_, fun i j e1 e2 => ?_, fun i e1 => ?_⟩
  · rw [s4 i (by omega), s4 j (by omega)]; exact hN.leaf i j e1 e2
  · by_cases c1 : j < n + t
    · rw [s4 i (by omega), s4 j c1]; exact hN.pair i j e1 e2 c1
    · obtain rfl : j = n + t := by omega
      by_cases c2 : i = n + t
      · rw [c2]; omega
      · rw [s4 i (by omega), s5]
        have h1 := hN.pair i (n + t - 1) e1 (by omega) (by omega)
        have h2 := hnear (n + t - 1) A (by have := hlast (by omega); omega) fA
        omega
  · by_cases c1 : i < n + t
    · rw [s4 i c1]; exact hN.pos i c1
    · obtain rfl : i = n + t := by omega
      rw [s5]; omega
  · by_cases c1 : i < n + t
    · have fi : (s.l ≤ i ∧ i < n) ∨ (s.p ≤ i ∧ i < n + t) := by omega
      rw [s4 i c1]
      by_cases c2 : j < n + t
      · rw [s4 j c2]; exact hnear i j fi (by omega)
      · obtain rfl : j = n + t := by omega
        rw [s5]
        have := hnear i A fi fA
        omega
    · obtain rfl : i = n + t := by omega
      rw [s5]
      by_cases c2 : j < n + t
      · rw [s4 j c2]
        have := m2 j (by omega)
        omega
      · obtain rfl : j = n + t := by omega
        rw [s5]; omega
  · by_cases c1 : i = A
    · subst c1
      rw [s2, Int.toNat_natCast, s5, s4 i a1]; omega
    · by_cases c2 : i = B
      · subst c2
        rw [s3, Int.toNat_natCast, s5, s4 i b1]; omega
      · have ti : i < s.l ∨ (n ≤ i ∧ i < s.p) := by omega
        have hp := hpar i ti
        rw [s1 i ti, s4 i (by omega), s4 _ (by omega)]
        exact hN.up i ti

theorem wt_start (ws : List Int) (i : Nat) : wt (startT ws).N i = ws.getD i 0 := by
  unfold wt startT
  simp only [List.getD, List.getElem?_map]
  cases ws[i]? <;> simp
theorem NI.start (ws : List Int) (hs : ∀ i j, i ≤ j → j < ws.length → ws.getD i 0 ≤ ws.getD j 0) (h12 : ∀ i, i < ws.length → 1 ≤ ws.getD i 0 ∧ ws.getD i 0 ≤ 2) : NI ws.length 0 (startT ws) := by
  have e1 : (startT ws).l = 0 := rfl
  have e2 : (startT ws).p = ws.length := rfl
  refine ⟨fun i j a b => ?_, fun i j a b c => by omega, fun i a => ?_, fun i j a b => ?_, fun i a => by omega⟩
  · rw [wt_start, wt_start]; exact hs i j a b
  · rw [wt_start]; exact (h12 i (by omega)).1
  · rw [wt_start, wt_start]
    have := h12 i (by omega)
    have := h12 j (by omega)
    omega
theorem NI.run (ws : List Int) (hs : ∀ i j, i ≤ j → j < ws.length → ws.getD i 0 ≤ ws.getD j 0) (h12 : ∀ i, i < ws.length → 1 ≤ ws.getD i 0 ∧ ws.getD i 0 ≤ 2) (h0 : ∀ i, 0 ≤ ws.getD i 0) (t : Nat) (ht : t + 1 ≤ ws.length) : NI ws.length t (treeT ws t) := by
  induction t with
  | zero => exact NI.start ws hs h12
  | succ t ih => exact NI.step (TI.run ws h0 t (by omega)) (ih (by omega)) (by omega)

theorem sumW_le (N : Nodes) (c : Int) : ∀ (k i : Nat), (∀ j, i ≤ j → j < i + k → wt N j ≤ c) → sumW N i k ≤ c * (k : Int)
  | 0, _, _ => by simp [sumW]
  | k + 1, i, h => by
    rw [sumW]
    have h1 := h i (Nat.le_refl _) (by omega)
    have h2 := sumW_le N c k (i + 1) (fun j a b => h j (by omega) (by omega))
    have e : c * ((k + 1 : Nat) : Int) = c * (k : Int) + c := by rw [Int.natCast_add, Int.mul_add]; simp
    omega
theorem pow_far : ∀ e : Nat, (120 : Int) * 2 ^ (16 + e) < 3 ^ (16 + e)
  | 0 => by decide
  | e + 1 => by
    have := pow_far e
    rw [show 16 + (e + 1) = (16 + e) + 1 from by omega, Int.pow_succ, Int.pow_succ]
    have h2 : (0 : Int) < 2 ^ (16 + e) := Int.pow_pos (by omega)
    omega

/-- A tree of at most 60 weights of 1 and 2 is at most 15 deep. -/
theorem near_flat (ws : List Int) (hs : ∀ i j, i ≤ j → j < ws.length → ws.getD i 0 ≤ ws.getD j 0) (h12 : ∀ i, i < ws.length → 1 ≤ ws.getD i 0 ∧ ws.getD i 0 ≤ 2) (hn : 2 ≤ ws.length) (h60 : ws.length ≤ 60) (i : Nat) (hi : i < 2 * ws.length - 1) : dv (treeT ws (ws.length - 1)).N i ≤ 15 := by
  have h0 : ∀ i, 0 ≤ ws.getD i 0 := fun i => by
    by_cases h : i < ws.length
    · have := h12 i h; omega
    · simp [List.getD, List.getElem?_eq_none (show ws.length ≤ i by omega)]
  obtain ⟨hu, hl⟩ := tree_ups ws h0 hn
  have hI := TI.run ws h0 (ws.length - 1) (by omega)
  have hN := NI.run ws hs h12 h0 (ws.length - 1) (by omega)
  have k1 := hI.ln
  have k2 := hI.np
  have k3 := hI.pl
  have k4 := hI.cnt
  have k5 := hI.last (by omega)
  have hsum := hI.sum
  have hC : freeW ws.length (startT ws).N 0 ws.length ≤ 120 := by
    unfold freeW
    have e1 : (startT ws).N.length = ws.length := by simp [startT]
    rw [e1, Nat.sub_zero, Nat.sub_self, sumW]
    have := sumW_le (startT ws).N 2 ws.length 0 (fun j _ b => by rw [wt_start]; exact (h12 j (by omega)).2)
    omega
  unfold freeW at hsum
  rw [hl, show ws.length - (treeT ws (ws.length - 1)).l = 0 from by omega, show (treeT ws (ws.length - 1)).p = 2 * ws.length - 2 from by omega, show 2 * ws.length - 1 - (2 * ws.length - 2) = 1 from by omega, sumW, sumW, sumW] at hsum
  have hroot : wt (treeT ws (ws.length - 1)).N (2 * ws.length - 2) ≤ 120 := by unfold freeW at hC; omega
  have hup : ∀ i, i + 1 < 2 * ws.length - 1 → 3 * wt (treeT ws (ws.length - 1)).N i ≤ 2 * wt (treeT ws (ws.length - 1)).N (inn (treeT ws (ws.length - 1)).N i).toNat := fun i hi => hN.up i (by omega)
  have hpos : ∀ i, i < 2 * ws.length - 1 → 1 ≤ wt (treeT ws (ws.length - 1)).N i := fun i hi => hN.pos i (by omega)
  generalize (treeT ws (ws.length - 1)).N = N at *
  clear hI hN hsum hC k1 k2 k3 k4 k5
  have hd : ∀ (k i : Nat), i < N.length → N.length ≤ i + k → (3 : Int) ^ (dv N i).toNat * wt N i ≤ 2 ^ (dv N i).toNat * 120 := by
    intro k
    induction k with
    | zero => intro i h1 h2; omega
    | succ k ih =>
      intro i h1 h2
      by_cases c : i + 1 < N.length
      · have hui := hu i c
        have h3 := ih (inn N i).toNat (by omega) (by omega)
        have h4 := hup i (by omega)
        have e := dv_step hu i c
        have r := dv_rng N (inn N i).toNat
        rw [show (dv N i).toNat = (dv N (inn N i).toNat).toNat + 1 from by omega, Int.pow_succ, Int.pow_succ]
        have p3 : (0 : Int) ≤ 3 ^ (dv N (inn N i).toNat).toNat := Int.le_of_lt (Int.pow_pos (by omega))
        have h5 := Int.mul_le_mul_of_nonneg_left h4 p3
        generalize (3 : Int) ^ (dv N (inn N i).toNat).toNat = P at *
        generalize (2 : Int) ^ (dv N (inn N i).toNat).toNat = Q at *
        generalize wt N (inn N i).toNat = y at *
        generalize wt N i = x at *
        have e1 : P * 3 * x = P * (3 * x) := by rw [Int.mul_assoc]
        have e2 : P * (2 * y) = 2 * (P * y) := by rw [Int.mul_left_comm]
        omega
      · rw [dv_last N i c]
        rw [show i = 2 * ws.length - 2 from by omega]
        simpa using hroot
  have h1 := hd N.length i (by omega) (by omega)
  have h2 := hpos i hi
  have r := dv_rng N i
  by_cases c : dv N i ≤ 15
  · exact c
  · exfalso
    obtain ⟨e, he⟩ : ∃ e, (dv N i).toNat = 16 + e := ⟨(dv N i).toNat - 16, by omega⟩
    rw [he] at h1
    have h3 := pow_far e
    have p3 : (0 : Int) ≤ 3 ^ (16 + e) := Int.le_of_lt (Int.pow_pos (by omega))
    have h4 := Int.mul_le_mul_of_nonneg_left h2 p3
    omega
end Hf
end Go.Proofs.Ytgecoiakhmnilaa
