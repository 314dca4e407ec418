/-
  Mathematics of the slice: the parts are one behind the other.
-/
import Derived.Test.YtcbjlnabbfkkeaaNmL
namespace Go.Proofs.Ytcbjlnabbfkkeaa
open Go.ChangeShapes Go.WideShapes Go.ChangeAt Go.RowKit Go.Deep Go.Lib

/-- Which piece, and which places of the file. -/
def partQ : Int → Nat → Int → Int → List Pc → List (Nat × Int × Int)
  | _, _, _, _, [] => []
  | s, q, f, t, x :: l => (if max f s < min t (s + x.2) then [(q, max f s, min t (s + x.2))] else []) ++ partQ (s + x.2) (q + 1) f t l
def ptQ (ps : List Pc) (y : Nat × Int × Int) : Pt := ⟨ps.getD y.1 pc0, y.2.1 - sumP (ps.take y.1), y.2.2 - sumP (ps.take y.1)⟩
theorem part_q (ps : List Pc) (f t : Int) : ∀ (l : List Pc) (k : Nat), ps.drop k = l → k + l.length = ps.length → partL (sumP (ps.take k)) f t l = (partQ (sumP (ps.take k)) k f t l).map (ptQ ps)
  | [], _, _, _ => rfl
  | x :: l, k, h, hk => by
    have hlt : k < ps.length := by simp at hk; omega
    have e := drop_pc ps k hlt
    rw [h] at e
    injection e with e1 e2
    have h1 := sumP_take ps k hlt
    rw [← e1] at h1
    have ih := part_q ps f t l (k + 1) e2.symm (by simp at hk; omega)
    rw [h1] at ih
    rw [partL, partQ, List.map_append, ih]
    congr 1
    split
    · simp only [List.map_cons, List.map_nil, ptQ]
      rw [← e1]
    · rfl
/-- Each begins where the one ahead of it ends. -/
def chainTo : Int → List (Nat × Int × Int) → Int → Prop
  | a, [], b => a = b
  | a, y :: r, b => y.2.1 = a ∧ a < y.2.2 ∧ chainTo y.2.2 r b
theorem partQ_none : ∀ (l : List Pc) (s : Int) (q : Nat) (f t : Int), t ≤ f ∨ t ≤ s → l.all nOk = true → partQ s q f t l = []
  | [], _, _, _, _, _, _ => rfl
  | x :: l, s, q, f, t, h, ha => by
    rw [List.all_cons, Bool.and_eq_true] at ha
    have hx : 1 ≤ x.2 ∧ x.2 ≤ 4096 := of_decide_eq_true ha.1
    rw [partQ, partQ_none l (s + x.2) (q + 1) f t (by omega) ha.2, if_neg (by omega)]
    rfl
theorem chain_q : ∀ (l : List Pc) (s : Int) (q : Nat) (f t : Int), l.all nOk = true → max f s ≤ t → t ≤ s + sumP l → chainTo (max f s) (partQ s q f t l) t
  | [], s, q, f, t, _, h1, h2 => by
    simp only [sumP] at h2
    show max f s = t
    omega
  | x :: l, s, q, f, t, ha, h1, h2 => by
    rw [List.all_cons, Bool.and_eq_true] at ha
    have hx : 1 ≤ x.2 ∧ x.2 ≤ 4096 := of_decide_eq_true ha.1
    simp only [sumP] at h2
    rw [partQ]
    by_cases hc : max f s < min t (s + x.2)
    · rw [if_pos hc]
      refine ⟨rfl, hc, ?_⟩
      by_cases ht : t ≤ s + x.2
      · show chainTo (min t (s + x.2)) (partQ (s + x.2) (q + 1) f t l) t
        rw [partQ_none l _ _ _ _ (.inr ht) ha.2]
        show min t (s + x.2) = t
        omega
      · have := chain_q l (s + x.2) (q + 1) f t ha.2 (by omega) (by omega)
        rw [show max f (s + x.2) = min t (s + x.2) from by omega] at this
        show chainTo (min t (s + x.2)) (partQ (s + x.2) (q + 1) f t l) t
        exact this
    · rw [if_neg hc, List.nil_append]
      by_cases ht : t ≤ max f s
      · rw [partQ_none l _ _ _ _ (by omega) ha.2]
        show max f s = t
        omega
      · have := chain_q l (s + x.2) (q + 1) f t ha.2 (by omega) (by omega)
        rwa [show max f (s + x.2) = max f s from by omega] at this
/-- What is known of each part. -/
theorem q_in (ps : List Pc) (f t : Int) : ∀ (l : List Pc) (k : Nat), ps.drop k = l → k + l.length = ps.length → ∀ y ∈ partQ (sumP (ps.take k)) k f t l, y.1 < ps.length ∧ sumP (ps.take y.1) ≤ y.2.1 ∧ y.2.1 < y.2.2 ∧ y.2.2 ≤ sumP (ps.take y.1) + (ps.getD y.1 pc0).2 ∧ f ≤ y.2.1 ∧ y.2.2 ≤ t
  | [], _, _, _ => fun y hy => by cases hy
  | x :: l, k, h, hk => by
    have hlt : k < ps.length := by simp at hk; omega
    have e := drop_pc ps k hlt
    rw [h] at e
    injection e with e1 e2
    have h1 := sumP_take ps k hlt
    rw [← e1] at h1
    have ih := q_in ps f t l (k + 1) e2.symm (by simp at hk; omega)
    rw [h1] at ih
    intro y hy
    rw [partQ, List.mem_append] at hy
    rcases hy with hy | hy
    · split at hy
      · simp only [List.mem_singleton] at hy
        subst hy
        refine ⟨hlt, ?_, by assumption, ?_, ?_, ?_⟩
        · show sumP (ps.take k) ≤ max f (sumP (ps.take k)); omega
        · show min t (sumP (ps.take k) + x.2) ≤ sumP (ps.take k) + (ps.getD k pc0).2; rw [← e1]; omega
        · show f ≤ max f (sumP (ps.take k)); omega
        · show min t (sumP (ps.take k) + x.2) ≤ t; omega
      · cases hy
    · exact ih y hy
/-- Where the first k parts end. -/
def midQ (a : Int) : List (Nat × Int × Int) → Nat → Int
  | [], _ => a
  | _, 0 => a
  | y :: r, k + 1 => midQ y.2.2 r k
theorem mid_zero (a : Int) (l : List (Nat × Int × Int)) : midQ a l 0 = a := by cases l <;> rfl
theorem mid_at : ∀ (l : List (Nat × Int × Int)) (a b : Int) (k : Nat), chainTo a l b → k < l.length → midQ a l k = (l.getD k (0, 0, 0)).2.1 ∧ midQ a l (k + 1) = (l.getD k (0, 0, 0)).2.2
  | [], _, _, _, _, hk => by simp at hk
  | y :: r, a, b, 0, h, _ => ⟨h.1.symm, mid_zero _ _⟩
  | y :: r, a, b, k + 1, h, hk => mid_at r y.2.2 b k h.2.2 (by simpa using hk)
theorem mid_end : ∀ (l : List (Nat × Int × Int)) (a b : Int), chainTo a l b → midQ a l l.length = b
  | [], _, _, h => h
  | y :: r, _, b, h => mid_end r y.2.2 b h.2.2

/-- The digest whose first byte is i. -/
def dgI (i : Int) : List Int := i :: List.replicate 31 0
/-- The first k pieces that NamesSlices makes. -/
def psK (zs : List Int) : Nat → List Pc
  | 0 => []
  | k + 1 => psK zs k ++ [(dgI (k : Int), 1 + zs.getD k 0 % 40)]
theorem psK_len (zs : List Int) : ∀ k, (psK zs k).length = k
  | 0 => rfl
  | k + 1 => by simp [psK, psK_len zs k]
theorem psK_get (zs : List Int) : ∀ k j, j < k → (psK zs k).getD j pc0 = (dgI (j : Int), 1 + zs.getD j 0 % 40)
  | 0, _, h => by omega
  | k + 1, j, h => by
    rw [psK]
    by_cases hj : j < k
    · rw [show (psK zs k ++ [(dgI (k : Int), 1 + zs.getD k 0 % 40)]).getD j pc0 = (psK zs k).getD j pc0 from by simp [List.getD, List.getElem?_append_left (show j < (psK zs k).length by rw [psK_len]; exact hj)], psK_get zs k j hj]
    · have : j = k := by omega
      subst this
      simp [List.getD, psK_len]
theorem psK_mem (zs : List Int) (k : Nat) (x : Pc) (h : x ∈ psK zs k) : ∃ j, j < k ∧ x = (dgI (j : Int), 1 + zs.getD j 0 % 40) := by
  obtain ⟨j, hj, rfl⟩ := List.getElem_of_mem h
  rw [psK_len] at hj
  refine ⟨j, hj, ?_⟩
  have := psK_get zs k j hj
  rwa [List.getD, List.getElem?_eq_getElem (by rw [psK_len]; exact hj)] at this
theorem psK_ok (zs : List Int) (k : Nat) (hk : k ≤ 12) : ∀ x ∈ psK zs k, PcOk x := fun x hx => by
  obtain ⟨j, hj, rfl⟩ := psK_mem zs k x hx
  refine ⟨rfl, fun i => ?_, wf_mk_i64 (by show _ ≤ 1 + _ % 40; omega) (by show 1 + _ % 40 ≤ _; omega)⟩
  show (Lit.int .u8 ((dgI (j : Int)).getD i 0)).wf = true
  unfold dgI
  cases i with
  | zero => exact wf_mk_u8 (by show 0 ≤ (j : Int); omega) (by show (j : Int) ≤ 255; omega)
  | succ i =>
    rw [List.getD_cons_succ]
    have : (List.replicate 31 (0 : Int)).getD i 0 = 0 := by
      simp only [List.getD]
      cases hq : (List.replicate 31 (0 : Int))[i]? with
      | none => rfl
      | some y =>
        have := List.mem_of_getElem? hq
        rw [List.eq_of_mem_replicate this]
        rfl
    rw [this]
    rfl
theorem psK_nok (zs : List Int) (k : Nat) : (psK zs k).all nOk = true := by
  rw [List.all_eq_true]
  intro x hx
  obtain ⟨j, _, rfl⟩ := psK_mem zs k x hx
  exact decide_eq_true (by show 1 ≤ 1 + _ % 40 ∧ 1 + _ % 40 ≤ (4096 : Int); omega)
theorem psK_sum (zs : List Int) : ∀ k, 0 ≤ sumP (psK zs k) ∧ sumP (psK zs k) ≤ 40 * (k : Int)
  | 0 => by simp [psK, sumP]
  | k + 1 => by
    have := psK_sum zs k
    rw [psK, sumP_app]
    simp only [sumP]
    omega
theorem psK_take (zs : List Int) (n : Nat) : ∀ k, k ≤ n → (psK zs n).take k = psK zs k := by
  induction n with
  | zero => intro k hk; have : k = 0 := by omega
            subst this; rfl
  | succ n ih =>
    intro k hk
    by_cases h : k = n + 1
    · subst h; rw [List.take_of_length_le (by rw [psK_len]; exact Nat.le_refl _)]
    · rw [psK, List.take_append_of_le_length (by rw [psK_len]; omega)]
      exact ih k (by omega)
end Go.Proofs.Ytcbjlnabbfkkeaa
