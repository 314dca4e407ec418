/-
  Repetitions as lists: how many bytes are alike, the longest copy, the tokens of a row. Plain mathematics.
-/
namespace Go.Proofs.Ytgdlmhgjhmcilab.Lz

/-- How many bytes from p on and from q on are alike, k at most. -/
def com (bs : List Int) : Nat → Nat → Nat → Nat
  | _, _, 0 => 0
  | p, q, k + 1 => if bs.getD p 0 = bs.getD q 0 then com bs (p + 1) (q + 1) k + 1 else 0

theorem com_le (bs : List Int) : ∀ k p q, com bs p q k ≤ k
  | 0, _, _ => Nat.le_refl _
  | k + 1, p, q => by
    unfold com
    have := com_le bs k (p + 1) (q + 1)
    split <;> omega

theorem com_same (bs : List Int) : ∀ k p q j, j < com bs p q k → bs.getD (p + j) 0 = bs.getD (q + j) 0
  | 0, _, _, j, h => absurd h (by simp [com])
  | k + 1, p, q, j, h => by
    unfold com at h
    split at h
    · rename_i e
      cases j with
      | zero => simpa using e
      | succ j =>
        have := com_same bs k (p + 1) (q + 1) j (by omega)
        rw [show p + (j + 1) = p + 1 + j from by omega, show q + (j + 1) = q + 1 + j from by omega]
        exact this
    · omega

theorem com_stop (bs : List Int) : ∀ k p q, com bs p q k < k → bs.getD (p + com bs p q k) 0 ≠ bs.getD (q + com bs p q k) 0
  | 0, _, _, h => absurd h (by omega)
  | k + 1, p, q, h => by
    unfold com at h ⊢
    split at h
    · rename_i e
      rw [if_pos e]
      have := com_stop bs k (p + 1) (q + 1) (by omega)
      rw [show p + (com bs (p + 1) (q + 1) k + 1) = p + 1 + com bs (p + 1) (q + 1) k from by omega, show q + (com bs (p + 1) (q + 1) k + 1) = q + 1 + com bs (p + 1) (q + 1) k from by omega]
      exact this
    · rename_i e
      rw [if_neg e]
      exact e

theorem com_eq (bs : List Int) (k p q n : Nat) (hn : n ≤ k) (hs : ∀ j, j < n → bs.getD (p + j) 0 = bs.getD (q + j) 0) (he : n = k ∨ bs.getD (p + n) 0 ≠ bs.getD (q + n) 0) : com bs p q k = n := by
  rcases Nat.lt_trichotomy (com bs p q k) n with h | h | h
  · exact absurd (hs _ h) (com_stop bs k p q (by omega))
  · exact h
  · rcases he with rfl | he
    · have := com_le bs n p q; omega
    · exact absurd (com_same bs k p q n h) he

/-- The longest copy so far (how far ahead, how long), with another place. -/
def better (bs : List Int) (q k : Nat) (s : Nat × Nat) (p : Nat) : Nat × Nat := if s.2 < com bs p q k then (q - p, com bs p q k) else s
def best (bs : List Int) (q k : Nat) (ps : List Nat) : Nat × Nat := ps.foldl (better bs q k) (0, 3)
theorem best_snoc (bs : List Int) (q k : Nat) (ps : List Nat) (p : Nat) : best bs q k (ps ++ [p]) = better bs q k (best bs q k ps) p := by simp [best]

def most (bs : List Int) (q : Nat) : Nat := min (bs.length - q) 258

theorem better_full {bs : List Int} {q k : Nat} {s : Nat × Nat} (h : k ≤ s.2) (p : Nat) : better bs q k s p = s := by
  unfold better
  have := com_le bs k p q
  rw [if_neg (by omega)]
theorem fold_full {bs : List Int} {q k : Nat} {s : Nat × Nat} (h : k ≤ s.2) : ∀ ps : List Nat, ps.foldl (better bs q k) s = s
  | [] => rfl
  | p :: ps => by rw [List.foldl_cons, better_full h]; exact fold_full h ps
theorem best_full {bs : List Int} {q k : Nat} {ps : List Nat} (h : k ≤ (best bs q k ps).2) {qs : List Nat} (hp : ps <+: qs) : best bs q k qs = best bs q k ps := by
  obtain ⟨r, rfl⟩ := hp
  unfold best
  rw [List.foldl_append]
  exact fold_full h r

theorem better_ge (bs : List Int) (q k : Nat) (s : Nat × Nat) (p : Nat) : s.2 ≤ (better bs q k s p).2 := by
  unfold better; split
  · simp; omega
  · exact Nat.le_refl _

/-- What the search keeps. -/
def Good (q k : Nat) (s : Nat × Nat) : Prop := (s.1 = 0 ∧ s.2 = 3) ∨ (1 ≤ s.1 ∧ s.1 ≤ q ∧ 4 ≤ s.2 ∧ s.2 ≤ k)
theorem good_better {bs : List Int} {q k : Nat} {s : Nat × Nat} (h : Good q k s) {p : Nat} (hp : p < q) : Good q k (better bs q k s p) := by
  unfold better
  split
  · rename_i hlt
    have := com_le bs k p q
    refine .inr ⟨by simp; omega, by simp, ?_, this⟩
    rcases h with ⟨_, h2⟩ | ⟨_, _, h2, _⟩ <;> simp <;> omega
  · exact h
theorem good_fold {bs : List Int} {q k : Nat} : ∀ (ps : List Nat) (s : Nat × Nat), Good q k s → (∀ p ∈ ps, p < q) → Good q k (ps.foldl (better bs q k) s)
  | [], _, h, _ => h
  | p :: ps, s, h, hp => good_fold ps _ (good_better h (hp p (by simp))) (fun x hx => hp x (by simp [hx]))
theorem good_best {bs : List Int} {q k : Nat} {ps : List Nat} (hp : ∀ p ∈ ps, p < q) : Good q k (best bs q k ps) := good_fold ps _ (.inl ⟨rfl, rfl⟩) hp

/-- A token: how far ahead, how long, which byte. -/
abbrev Tok := Nat × Nat × Int
def tokOf (bs : List Int) (q : Nat) (s : Nat × Nat) : Tok := if s.1 = 0 then (0, 1, bs.getD q 0) else (s.1, s.2, 0)

/-- The places that a copy may reach, the nearest one first. -/
def aheadL (q : Nat) : List Nat := (List.range (min q 4096)).map fun j => q - 1 - j
theorem mem_aheadL {q p : Nat} (h : p ∈ aheadL q) : p < q ∧ q - p ≤ 4096 := by
  unfold aheadL at h
  rw [List.mem_map] at h
  obtain ⟨j, hj, rfl⟩ := h
  rw [List.mem_range] at hj
  omega
/-- The token at a place. -/
def longT (bs : List Int) (q : Nat) : Tok := tokOf bs q (best bs q (most bs q) (aheadL q))

/-- Four bytes at both places are alike. -/
def same4 (bs : List Int) (p q : Nat) : Bool := bs.getD p 0 == bs.getD q 0 && (bs.getD (p + 1) 0 == bs.getD (q + 1) 0 && (bs.getD (p + 2) 0 == bs.getD (q + 2) 0 && bs.getD (p + 3) 0 == bs.getD (q + 3) 0))
theorem same4_of_com {bs : List Int} {k p q : Nat} (h : 3 < com bs p q k) : same4 bs p q = true := by
  have h0 := com_same bs k p q 0 (by omega)
  have h1 := com_same bs k p q 1 (by omega)
  have h2 := com_same bs k p q 2 (by omega)
  have h3 := com_same bs k p q 3 (by omega)
  unfold same4
  simp only [Nat.add_zero] at h0
  rw [h0, h1, h2, h3]
  simp

theorem fold_filter {bs : List Int} {q k : Nat} : ∀ (ps : List Nat) (s : Nat × Nat), 3 ≤ s.2 → (ps.filter fun p => same4 bs p q).foldl (better bs q k) s = ps.foldl (better bs q k) s
  | [], _, _ => rfl
  | p :: ps, s, h => by
    have hg := better_ge bs q k s p
    cases hs : same4 bs p q with
    | true =>
      rw [List.filter_cons_of_pos (by simpa using hs), List.foldl_cons, List.foldl_cons]
      exact fold_filter ps _ (by omega)
    | false =>
      rw [List.filter_cons_of_neg (by simp [hs]), List.foldl_cons]
      have e : better bs q k s p = s := by
        unfold better
        rw [if_neg]
        intro hlt
        rw [same4_of_com (k := k) (by omega)] at hs
        cases hs
      rw [e]
      exact fold_filter ps s h
/-- The places with the same four bytes are enough. -/
def alikeL (bs : List Int) (q : Nat) : List Nat := if q + 4 ≤ bs.length then (aheadL q).filter fun p => same4 bs p q else []
theorem best_alike (bs : List Int) (q : Nat) : best bs q (most bs q) (alikeL bs q) = best bs q (most bs q) (aheadL q) := by
  unfold alikeL
  split
  · exact fold_filter _ _ (Nat.le_refl _)
  · have hm : most bs q ≤ 3 := by unfold most; omega
    unfold best
    rw [fold_full (s := (0, 3)) hm, fold_full (s := (0, 3)) hm]
theorem longT_alike (bs : List Int) (q : Nat) : tokOf bs q (best bs q (most bs q) (alikeL bs q)) = longT bs q := by rw [best_alike]; rfl

theorem longT_good (bs : List Int) (q : Nat) : Good q (most bs q) (best bs q (most bs q) (aheadL q)) := good_best fun _ hp => (mem_aheadL hp).1
theorem longT_len (bs : List Int) (q : Nat) (h : q < bs.length) : 1 ≤ (longT bs q).2.1 ∧ q + (longT bs q).2.1 ≤ bs.length ∧ (longT bs q).2.1 ≤ 258 := by
  have hg := longT_good bs q
  have hm : most bs q ≤ bs.length - q ∧ most bs q ≤ 258 := by unfold most; omega
  unfold longT tokOf
  rcases hg with ⟨h1, h2⟩ | ⟨h1, h2, h3, h4⟩
  · rw [if_pos h1]; simp; omega
  · rw [if_neg (by omega)]; simp; omega

/-- The tokens of a row, from a place on. -/
def tks (bs : List Int) : Nat → Nat → List Tok
  | 0, _ => []
  | n + 1, q => if q < bs.length then longT bs q :: tks bs n (q + (longT bs q).2.1) else []
def toksL (bs : List Int) : List Tok := tks bs bs.length 0
theorem tks_end {bs : List Int} {q : Nat} (h : ¬ q < bs.length) : ∀ n, tks bs n q = []
  | 0 => rfl
  | n + 1 => by unfold tks; rw [if_neg h]
theorem tks_more {bs : List Int} : ∀ (n q : Nat), bs.length - q ≤ n → tks bs (n + 1) q = tks bs n q
  | 0, q, h => by rw [tks_end (by omega), tks_end (by omega)]
  | n + 1, q, h => by
    by_cases hq : q < bs.length
    · have := longT_len bs q hq
      rw [show tks bs (n + 1 + 1) q = if q < bs.length then longT bs q :: tks bs (n + 1) (q + (longT bs q).2.1) else [] from rfl, show tks bs (n + 1) q = if q < bs.length then longT bs q :: tks bs n (q + (longT bs q).2.1) else [] from rfl, if_pos hq, if_pos hq, tks_more n _ (by omega)]
    · rw [tks_end hq, tks_end hq]
/-- From a place on: with as many rounds as bytes are left. -/
def from_ (bs : List Int) (q : Nat) : List Tok := tks bs (bs.length - q) q
theorem tks_from {bs : List Int} (q : Nat) : ∀ d, tks bs (bs.length - q + d) q = from_ bs q
  | 0 => rfl
  | d + 1 => by rw [show bs.length - q + (d + 1) = bs.length - q + d + 1 from by omega, tks_more _ _ (by omega)]; exact tks_from q d
theorem from_step {bs : List Int} {q : Nat} (h : q < bs.length) : from_ bs q = longT bs q :: from_ bs (q + (longT bs q).2.1) := by
  have hl := longT_len bs q h
  have e : bs.length - q = (bs.length - q - 1) + 1 := by omega
  unfold from_
  rw [e]
  rw [show tks bs (bs.length - q - 1 + 1) q = if q < bs.length then longT bs q :: tks bs (bs.length - q - 1) (q + (longT bs q).2.1) else [] from rfl, if_pos h]
  congr 1
  have := tks_from (bs := bs) (q + (longT bs q).2.1) (bs.length - q - 1 - (bs.length - (q + (longT bs q).2.1)))
  rw [show bs.length - (q + (longT bs q).2.1) + (bs.length - q - 1 - (bs.length - (q + (longT bs q).2.1))) = bs.length - q - 1 from by omega] at this
  exact this
theorem from_end {bs : List Int} {q : Nat} (h : ¬ q < bs.length) : from_ bs q = [] := tks_end h _
theorem from_len {bs : List Int} : ∀ (n q : Nat), bs.length - q ≤ n → (from_ bs q).length ≤ bs.length - q
  | 0, q, h => by rw [from_end (by omega)]; simp
  | n + 1, q, h => by
    by_cases hq : q < bs.length
    · have := longT_len bs q hq
      rw [from_step hq]
      have h2 := from_len (bs := bs) n (q + (longT bs q).2.1) (by omega)
      simp only [List.length_cons]
      omega
    · rw [from_end hq]; simp
theorem toksL_from (bs : List Int) : toksL bs = from_ bs 0 := by unfold toksL from_; rfl

/-- The last place ahead of m with the same four bytes as q, told from 1 on; 0: none. -/
def nxt (bs : List Int) (q : Nat) : Nat → Nat
  | 0 => 0
  | m + 1 => if same4 bs m q then m + 1 else nxt bs q m
theorem nxt_le (bs : List Int) (q : Nat) : ∀ m, nxt bs q m ≤ m
  | 0 => Nat.le_refl _
  | m + 1 => by unfold nxt; have := nxt_le bs q m; split <;> omega
theorem nxt_same {bs : List Int} {q : Nat} : ∀ {m}, 0 < nxt bs q m → same4 bs (nxt bs q m - 1) q = true
  | 0, h => absurd h (by simp [nxt])
  | m + 1, h => by
    unfold nxt at h ⊢
    split
    · rename_i e; simpa using e
    · rename_i e; rw [if_neg e] at h; exact nxt_same h

/-- Those below m that a copy at q may reach, with the same four bytes, the nearest one first. -/
def chain (bs : List Int) (q : Nat) : Nat → List Nat
  | 0 => []
  | m + 1 => if same4 bs m q = true ∧ q - m ≤ 4096 then m :: chain bs q m else chain bs q m
theorem chain_mem {bs : List Int} {q : Nat} : ∀ {m p}, p ∈ chain bs q m → p < m
  | 0, _, h => by simp [chain] at h
  | m + 1, p, h => by
    unfold chain at h
    split at h
    · rcases List.mem_cons.1 h with rfl | h
      · omega
      · have := chain_mem h; omega
    · have := chain_mem h; omega
theorem chain_far {bs : List Int} {q : Nat} : ∀ {m}, m + 4096 ≤ q → chain bs q m = []
  | 0, _ => rfl
  | m + 1, h => by
    unfold chain
    rw [if_neg (by omega)]
    exact chain_far (by omega)
theorem chain_nxt {bs : List Int} {q : Nat} : ∀ {m}, chain bs q m = if 0 < nxt bs q m ∧ q - (nxt bs q m - 1) ≤ 4096 then (nxt bs q m - 1) :: chain bs q (nxt bs q m - 1) else []
  | 0 => by simp [chain, nxt]
  | m + 1 => by
    cases hs : same4 bs m q with
    | true =>
      have e : nxt bs q (m + 1) = m + 1 := by unfold nxt; rw [hs]; simp
      rw [e, show chain bs q (m + 1) = if same4 bs m q = true ∧ q - m ≤ 4096 then m :: chain bs q m else chain bs q m from rfl]
      simp only [hs, true_and, Nat.add_sub_cancel]
      by_cases h : q - m ≤ 4096
      · rw [if_pos h, if_pos ⟨by omega, h⟩]
      · rw [if_neg h, if_neg (fun h' => h h'.2), chain_far (by omega)]
    | false =>
      have e : nxt bs q (m + 1) = nxt bs q m := by
        show (if same4 bs m q = true then m + 1 else nxt bs q m) = _
        rw [hs]; simp
      rw [e]
      have e2 : chain bs q (m + 1) = chain bs q m := by
        show (if same4 bs m q = true ∧ q - m ≤ 4096 then m :: chain bs q m else chain bs q m) = _
        rw [hs]; simp
      rw [e2]
      exact chain_nxt
theorem chain_eq (bs : List Int) (q : Nat) : ∀ m, m ≤ q → chain bs q m = (((List.range m).map fun j => m - 1 - j).filter fun p => decide (q - p ≤ 4096)).filter fun p => same4 bs p q
  | 0, _ => rfl
  | m + 1, h => by
    have ih := chain_eq bs q m (by omega)
    have e : (List.range (m + 1)).map (fun j => m + 1 - 1 - j) = m :: (List.range m).map fun j => m - 1 - j := by
      rw [List.range_succ_eq_map, List.map_cons, List.map_map]
      congr 1
      refine List.map_congr_left fun j _ => ?_
      simp only [Function.comp]
      omega
    rw [e]
    unfold chain
    by_cases hq : q - m ≤ 4096
    · rw [List.filter_cons_of_pos (by simpa using hq)]
      cases hs : same4 bs m q with
      | true => rw [List.filter_cons_of_pos (by simpa using hs), if_pos ⟨rfl, hq⟩, ih]
      | false => rw [List.filter_cons_of_neg (by simp [hs]), if_neg (by simp), ih]
    · rw [List.filter_cons_of_neg (by simpa using hq), if_neg (fun h' => hq h'.2), ih]
theorem ahead_eq (q : Nat) : (((List.range q).map fun j => q - 1 - j).filter fun p => decide (q - p ≤ 4096)) = aheadL q := by
  unfold aheadL
  by_cases h : q ≤ 4096
  · rw [Nat.min_eq_left h, List.filter_eq_self]
    intro p hp
    simp; omega
  · rw [Nat.min_eq_right (by omega)]
    obtain ⟨K, hK⟩ : ∃ K : Nat, K = 4096 := ⟨_, rfl⟩
    rw [← hK]
    have e : List.range q = List.range K ++ (List.range (q - K)).map (K + ·) := by
      rw [← List.range_add, show K + (q - K) = q from by omega]
    rw [e, List.map_append, List.filter_append]
    have h1 : (List.filter (fun p => decide (q - p ≤ K)) (List.map (fun j => q - 1 - j) (List.range K))) = List.map (fun j => q - 1 - j) (List.range K) := by
      rw [List.filter_eq_self]
      intro p hp
      rw [List.mem_map] at hp
      obtain ⟨j, hj, rfl⟩ := hp
      rw [List.mem_range] at hj
      simp; omega
    have h2 : (List.filter (fun p => decide (q - p ≤ K)) (List.map (fun j => q - 1 - j) (List.map (fun x => K + x) (List.range (q - K))))) = [] := by
      rw [List.filter_eq_nil_iff]
      intro p hp
      rw [List.mem_map] at hp
      obtain ⟨j, hj, rfl⟩ := hp
      rw [List.mem_map] at hj
      obtain ⟨i, hi, rfl⟩ := hj
      rw [List.mem_range] at hi
      simp; omega
    rw [h1, h2, List.append_nil]
theorem chain_alike {bs : List Int} {q : Nat} (h : q + 4 ≤ bs.length) : chain bs q q = alikeL bs q := by
  rw [chain_eq bs q q (Nat.le_refl _), ahead_eq]
  unfold alikeL
  rw [if_pos h]
end Go.Proofs.Ytgdlmhgjhmcilab.Lz
