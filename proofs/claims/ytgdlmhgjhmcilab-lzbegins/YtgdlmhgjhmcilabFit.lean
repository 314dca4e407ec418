/-
  What tokens of bytes are, and that their bytes are these. Plain mathematics.
-/
import Derived.Test.YtgdlmhgjhmcilabByt
namespace Go.Proofs.Ytgdlmhgjhmcilab
open Go.RowKit Lz

/-- A copy that was found is one. -/
def Cpy (bs : List Int) (q k : Nat) (s : Nat × Nat) : Prop := (s.1 = 0 ∧ s.2 = 3) ∨ (1 ≤ s.1 ∧ s.1 ≤ q ∧ s.1 ≤ 4096 ∧ 4 ≤ s.2 ∧ s.2 ≤ k ∧ s.2 = com bs (q - s.1) q k)
theorem cpy_better {bs : List Int} {q k : Nat} {s : Nat × Nat} (h : Cpy bs q k s) {p : Nat} (hp : p < q) (h4 : q - p ≤ 4096) : Cpy bs q k (better bs q k s p) := by
  unfold better
  split
  · rename_i hlt
    have := com_le bs k p q
    refine .inr ⟨by simp; omega, by simp, h4, ?_, this, ?_⟩
    · rcases h with ⟨_, h2⟩ | ⟨_, _, _, h2, _⟩ <;> simp <;> omega
    · simp only
      rw [show q - (q - p) = p from by omega]
  · exact h
theorem cpy_fold {bs : List Int} {q k : Nat} : ∀ (ps : List Nat) (s : Nat × Nat), Cpy bs q k s → (∀ p ∈ ps, p < q ∧ q - p ≤ 4096) → Cpy bs q k (ps.foldl (better bs q k) s)
  | [], _, h, _ => h
  | p :: ps, s, h, hp => cpy_fold ps _ (cpy_better h (hp p (by simp)).1 (hp p (by simp)).2) (fun x hx => hp x (by simp [hx]))
theorem cpy_best (bs : List Int) (q : Nat) : Cpy bs q (most bs q) (best bs q (most bs q) (aheadL q)) := cpy_fold _ _ (.inl ⟨rfl, rfl⟩) (fun _ hp => mem_aheadL hp)

/-- The token at a place: a byte, or a copy that cannot be longer. -/
theorem longT_cases (bs : List Int) (q : Nat) (hq : q < bs.length) : longT bs q = (0, 1, bs.getD q 0) ∨ ∃ d n, longT bs q = (d, n, 0) ∧ 1 ≤ d ∧ d ≤ q ∧ d ≤ 4096 ∧ 4 ≤ n ∧ n ≤ 258 ∧ q + n ≤ bs.length ∧ (∀ j, j < n → bs.getD (q - d + j) 0 = bs.getD (q + j) 0) ∧ (n < 258 → q + n < bs.length → bs.getD (q - d + n) 0 ≠ bs.getD (q + n) 0) := by
  have h := cpy_best bs q
  have hm : most bs q = min (bs.length - q) 258 := rfl
  unfold longT tokOf
  generalize best bs q (most bs q) (aheadL q) = s at *
  rcases h with ⟨h1, h2⟩ | ⟨h1, h2, h3, h4, h5, h6⟩
  · left; rw [if_pos h1]
  · right
    rw [if_neg (by omega)]
    refine ⟨s.1, s.2, rfl, h1, h2, h3, h4, by omega, by omega, fun j hj => ?_, fun h7 h8 => ?_⟩
    · exact com_same bs (most bs q) _ _ j (by omega)
    · have := com_stop bs (most bs q) (q - s.1) q (by omega)
      rw [← h6] at this
      exact this

theorem from_fit (bs : List Int) (h8 : Bytes8 bs) (hL : bs.length ≤ 65536) : ∀ (n q : Nat), bs.length - q ≤ n → ∀ t ∈ from_ bs q, t.1 ≤ 65536 ∧ t.2.1 ≤ 65536 ∧ (Lit.int .u8 t.2.2).wf = true
  | 0, q, h => by rw [from_end (by omega)]; intro t ht; cases ht
  | n + 1, q, h => by
    by_cases hq : q < bs.length
    · have hl := longT_len bs q hq
      rw [from_step hq]
      intro t ht
      rcases List.mem_cons.1 ht with rfl | ht
      · rcases longT_cases bs q hq with e | ⟨d, m, e, h1, h2, h3, h4, h5, _⟩
        · rw [e]; exact ⟨by dsimp only; omega, by dsimp only; omega, h8 q⟩
        · rw [e]; exact ⟨by dsimp only; omega, by dsimp only; omega, wf_zero _⟩
      · exact from_fit bs h8 hL n _ (by omega) t ht
    · rw [from_end hq]; intro t ht; cases ht
theorem tks_fit (bs : List Int) (h8 : Bytes8 bs) : ∀ t ∈ (tksO bs).1, t.1 ≤ 65536 ∧ t.2.1 ≤ 65536 ∧ (Lit.int .u8 t.2.2).wf = true := by
  unfold tksO
  split
  · intro t ht; cases ht
  · rw [toksL_from]; exact from_fit bs h8 (by omega) _ 0 (Nat.le_refl _)

theorem bytF_fit : ∀ (l : List Tkz) (b : List Int) (i : Nat), Bytes8 b → (∀ t ∈ l, (Lit.int .u8 t.2.2).wf = true) → Bytes8 (bytF b i l).1
  | [], _, _, h, _ => h
  | t :: l, b, i, h, hl => by
    unfold bytF
    split
    · exact bytF_fit l _ _ (bytes8_grow h (hl t (by simp))) (fun x hx => hl x (by simp [hx]))
    · intro j; rw [getD_out _ _ (by simp)]; exact wf_zero _
theorem byt_fit (l : List Tkz) (h : ∀ j, j < l.length → (Lit.int .u8 (l.getD j tk0).2.2).wf = true) : ∀ j, (Lit.int .u8 ((bytesO l).1.getD j 0)).wf = true := by
  refine bytF_fit l [] 0 (fun j => by rw [getD_out _ _ (by simp)]; exact wf_zero _) (fun t ht => ?_)
  obtain ⟨j, hj, rfl⟩ := List.getElem_of_mem ht
  have := h j hj
  simpa [List.getD, List.getElem?_eq_getElem hj] using this

theorem take_snoc (bs : List Int) (k : Nat) (h : k < bs.length) : bs.take (k + 1) = bs.take k ++ [bs.getD k 0] := by
  rw [List.take_succ_eq_append_getElem h]
  simp [List.getD, h]
theorem cpy_take (bs : List Int) (q d n : Nat) (h1 : 1 ≤ d) (hd : d ≤ q) (hn : q + n ≤ bs.length) (hs : ∀ j, j < n → bs.getD (q - d + j) 0 = bs.getD (q + j) 0) : ∀ j, j ≤ n → cpyL (bs.take q) d j = bs.take (q + j)
  | 0, _ => rfl
  | j + 1, hj => by
    have ih := cpy_take bs q d n h1 hd hn hs j (by omega)
    have hl : (bs.take (q + j)).length = q + j := by simp; omega
    show cpyL (bs.take q) d j ++ [(cpyL (bs.take q) d j).getD ((cpyL (bs.take q) d j).length - d) 0] = _
    rw [ih, hl, getD_take bs (q + j) (q + j - d) (by omega), show q + (j + 1) = q + j + 1 from by omega, take_snoc bs (q + j) (by omega)]
    congr 2
    rw [← hs j (by omega)]
    congr 1
    omega

theorem flt_lit (x : Int) (m : Int) (hm : m + 1 ≤ 65536) : fltZ (0, 1, x) m = 0 := by
  have hk : kindZ (0, 1, x) = 1 := rfl
  unfold fltZ
  rw [hk, if_neg (by decide), if_neg (by omega), if_neg (by simp; omega)]
theorem flt_cpy (d n m : Int) (h1 : 1 ≤ d) (h2 : d ≤ 4096) (h3 : 4 ≤ n) (h4 : n ≤ 258) (h5 : d ≤ m) (h6 : m + n ≤ 65536) : fltZ (d, n, 0) m = 0 := by
  have hk : kindZ (d, n, 0) = 2 := by
    unfold kindZ litB cpyB
    simp only [Bool.and_eq_true, decide_eq_true_eq, beq_iff_eq]
    rw [if_neg (by omega), if_pos ⟨h1, h2, h3, h4, trivial⟩]
  unfold fltZ
  rw [hk, if_neg (by decide), if_neg (by simp; omega), if_neg (by simp; omega)]

theorem back_from (bs : List Int) (hL : bs.length ≤ 65536) : ∀ (n q i : Nat), q ≤ bs.length → bs.length - q ≤ n → bytF (bs.take q) i ((from_ bs q).map toZ) = (bs, 0, 0)
  | 0, q, i, hq, h => by
    rw [from_end (by omega), List.take_of_length_le (by omega)]; rfl
  | n + 1, q, i, hq, h => by
    by_cases hlt : q < bs.length
    · have hl : (bs.take q).length = q := by simp; omega
      rw [from_step hlt, List.map_cons]
      rcases longT_cases bs q hlt with e | ⟨d, m, e, h1, h2, h3, h4, h5, h6, h7, _⟩
      · rw [e]
        show (if fltZ (toZ (0, 1, bs.getD q 0)) (bs.take q).length = 0 then bytF (growZ (bs.take q) (toZ (0, 1, bs.getD q 0))) (i + 1) ((from_ bs (q + 1)).map toZ) else _) = _
        rw [hl, show toZ (0, 1, bs.getD q 0) = (0, 1, bs.getD q 0) from rfl, if_pos (flt_lit _ _ (by omega))]
        have hg : growZ (bs.take q) (0, 1, bs.getD q 0) = bs.take (q + 1) := by
          unfold growZ
          rw [if_pos rfl, take_snoc bs q hlt]
        rw [hg]
        exact back_from bs hL n (q + 1) (i + 1) (by omega) (by omega)
      · rw [e]
        show (if fltZ (toZ (d, m, 0)) (bs.take q).length = 0 then bytF (growZ (bs.take q) (toZ (d, m, 0))) (i + 1) ((from_ bs (q + m)).map toZ) else _) = _
        rw [hl, show toZ (d, m, 0) = ((d : Int), (m : Int), 0) from rfl, if_pos (flt_cpy _ _ _ (by omega) (by omega) (by omega) (by omega) (by omega) (by omega))]
        have hg : growZ (bs.take q) ((d : Int), (m : Int), 0) = bs.take (q + m) := by
          unfold growZ
          rw [if_neg (by simp; omega)]
          simp only [Int.toNat_natCast]
          exact cpy_take bs q d m h1 h2 h6 h7 m (Nat.le_refl _)
        rw [hg]
        exact back_from bs hL n (q + m) (i + 1) (by omega) (by omega)
    · rw [from_end hlt, List.take_of_length_le (by omega)]; rfl
theorem back_eq (bs : List Int) (_ : Bytes8 bs) (hL : bs.length ≤ 65536) : bytesO ((toksL bs).map toZ) = (bs, 0, 0) := by
  have := back_from bs hL _ 0 0 (by omega) (Nat.le_refl _)
  rw [toksL_from]
  exact this
end Go.Proofs.Ytgdlmhgjhmcilab
