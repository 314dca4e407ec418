/-
  There and back: what Read makes of a digest's text is the digest; and that the code's Read and the document's answer alike.
-/
import Derived.Test.YtkehhlbbnlnbcaaDoorRefRead
namespace Go.Proofs.YtkehhlbbnlnbcaaDoor
open Go.RowKit Sha

theorem hexV_dig (n : Nat) (h : n < 16) : hexV (dig n) = n := by
  have : ∀ i : Fin 16, hexV (dig i.val) = i.val := by decide +kernel
  exact this ⟨n, h⟩

theorem textN_get : ∀ (d : List Nat) (k : Nat), k < d.length → (textN d).getD (2 * k) 0 = dig (d.getD k 0 / 16) ∧ (textN d).getD (2 * k + 1) 0 = dig (d.getD k 0 % 16)
  | [], k, h => by simp at h
  | b :: d, 0, _ => ⟨rfl, rfl⟩
  | b :: d, k + 1, h => by
    have ih := textN_get d k (by simpa using h)
    have e : textN (b :: d) = dig (b / 16) :: dig (b % 16) :: textN d := rfl
    rw [e, show 2 * (k + 1) = 2 * k + 1 + 1 from by omega, show 2 * k + 1 + 1 + 1 = (2 * k + 1) + 1 + 1 from rfl, List.getD_cons_succ, List.getD_cons_succ, List.getD_cons_succ, List.getD_cons_succ, List.getD_cons_succ]
    exact ih

theorem readL_text (d : List Nat) (hl : d.length = 32) (hd : ∀ j, d.getD j 0 < 256) : ∀ k, k ≤ 32 → readL (textN d) (2 * k) = fillL 32 d k
  | 0, _ => by rw [Nat.mul_zero, fillL_zero]; rfl
  | k + 1, h => by
    have ih := readL_text d hl hd k (by omega)
    obtain ⟨h1, h2⟩ := textN_get d k (by omega)
    have hb := hd k
    have hz : (fillL 32 d k).getD k 0 = 0 := by
      rw [fillL, List.getD, List.getElem?_append_right (by rw [List.length_take]; omega), List.length_take, Nat.min_eq_left (by omega), Nat.sub_self, List.getElem?_replicate]
      split <;> rfl
    have hlen := fillL_length 32 d k hl (by omega)
    rw [show 2 * (k + 1) = 2 * k + 1 + 1 from by omega, readL, readL, ih, h1, h2, rd1, rd1, show 2 * k / 2 = k from by omega, show (2 * k + 1) / 2 = k from by omega, hexV_dig _ (by omega), hexV_dig _ (by omega), hz, Nat.zero_mul, Nat.zero_mod, Nat.zero_add, List.set_set]
    have hg : ((fillL 32 d k).set k (d.getD k 0 / 16)).getD k 0 = d.getD k 0 / 16 := by
      rw [List.getD, List.getElem?_set_self (by omega), Option.getD_some]
    rw [hg, show d.getD k 0 / 16 * 16 % 256 + d.getD k 0 % 16 = d.getD k 0 from by omega, fillL_set 32 d k hl (by omega)]

theorem text_back (d : List Nat) (hl : d.length = 32) (hd : ∀ j, d.getD j 0 < 256) : readL (textN d) 64 = d := by
  have := readL_text d hl hd 32 (Nat.le_refl _)
  rw [fillL_full 32 d hl] at this
  exact this
theorem text_hex (d : List Nat) (hl : d.length = 32) (hd : ∀ j, d.getD j 0 < 256) : allHex (textN d) 64 := by
  intro j hj
  obtain ⟨h1, h2⟩ := textN_get d (j / 2) (by omega)
  have hb := hd (j / 2)
  rcases Nat.mod_two_eq_zero_or_one j with h | h
  · rw [show j = 2 * (j / 2) from by omega, h1, hexV_dig _ (by omega)]; omega
  · rw [show j = 2 * (j / 2) + 1 from by omega, h2, hexV_dig _ (by omega)]; omega

theorem strL_text (d : List Nat) : strL ⟨(bytesU (textN d)).toArray⟩ = textN d := by
  have h := textN_lt d
  simp only [strL, bytesU, List.map_map]
  rw [show (textN d) = (textN d).map id from by simp]
  simp only [List.map_map]
  refine List.map_congr_left (fun z hz => ?_)
  have := h z hz
  simp
  omega

/-- The first sign that is none. -/
theorem first_bad (l : List Nat) : ∀ n, allHex l n ∨ ∃ m, m < n ∧ allHex l m ∧ ¬ hexV (l.getD m 0) < 16
  | 0 => Or.inl (fun j hj => absurd hj (by omega))
  | n + 1 => by
    rcases first_bad l n with h | ⟨m, h1, h2, h3⟩
    · by_cases hx : hexV (l.getD n 0) < 16
      · exact Or.inl (fun j hj => by
          by_cases hjn : j < n
          · exact h j hjn
          · obtain rfl : j = n := by omega
            exact hx)
      · exact Or.inr ⟨n, by omega, h, hx⟩
    · exact Or.inr ⟨m, by omega, h2, h3⟩

/-- The code's Read and the document's answer alike. -/
theorem read_both (s : ByteArray) : ∃ (D : List Nat) (E : Int), D.length = 32 ∧ (∀ w, Calls Tryd.prog 19 #[.string s] w fun e w' => e = .returned (.tuple #[.agg (arr .u8 D), .int .i64 E]) ∧ Below w.heap.size w w') ∧ (∀ w, Calls Tryd.prog 20 #[.string s] w fun e w' => e = .returned (.tuple #[.agg (arr .u8 D), .int .i64 E]) ∧ Below w.heap.size w w') := by
  by_cases hs : s.size = 64
  · rcases first_bad (strL s) 64 with h | ⟨m, h1, h2, h3⟩
    · exact ⟨_, 0, readL_length _ _, fun w => read_good s w hs h, fun w => readr_good s w hs h⟩
    · exact ⟨_, 1, rfl, fun w => read_bad s w m hs h1 h2 h3, fun w => readr_bad s w m hs h1 h2 h3⟩
  · have hn : ((s.size : Int) != 64) = true := by rw [bne_iff_ne]; omega
    exact ⟨_, 1, rfl, fun w => read_len s w hn, fun w => readr_len s w hn⟩
/-- Read of Text is the digest. -/
theorem read_back (d : List Nat) (hl : d.length = 32) (hd : ∀ j, d.getD j 0 < 256) (w : World) : Calls Tryd.prog 19 #[.string ⟨(bytesU (textN d)).toArray⟩] w fun e w' => e = .returned (.tuple #[.agg (arr .u8 d), .int .i64 0]) ∧ Below w.heap.size w w' := by
  have hsz : (⟨(bytesU (textN d)).toArray⟩ : ByteArray).size = 64 := by
    rw [← strL_length, strL_text, textN_length, hl]
  have h := read_good ⟨(bytesU (textN d)).toArray⟩ w hsz (by rw [strL_text]; exact text_hex d hl hd)
  rw [strL_text, text_back d hl hd] at h
  exact h
end Go.Proofs.YtkehhlbbnlnbcaaDoor
