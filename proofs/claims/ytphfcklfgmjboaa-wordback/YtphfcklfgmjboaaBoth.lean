/-
  Bytes, Word and Words of package word and of the document, side by side: whatever the width, the order and the bytes, each pair hands back one and the same.
-/
import Derived.Test.YtphfcklfgmjboaaWordsR
namespace Go.Proofs.Ytphfcklfgmjboaa
open Go.RowKit

/-- A row of bytes that some call has made. -/
def Row8 (w : World) (v : Value) (l : List Int) : Prop := (∃ B, w.ownsRow B 5 1 v l.length (l.map (Value.int .u8))) ∧ ∀ j, 0 ≤ l.getD j 0 ∧ l.getD j 0 ≤ 255
def Row64 (w : World) (v : Value) (l : List Int) : Prop := (∃ B, w.ownsRow B 22 1 v l.length (l.map (Value.int .u64))) ∧ l.length ≤ 400

theorem Row8.rd {w : World} {v : Value} {l : List Int} (h : Row8 w v l) : ∃ a cap, Rd w v a cap l := by
  obtain ⟨⟨B, h⟩, hr⟩ := h
  by_cases h0 : 0 < l.length
  · exact Rd.own h h0 hr
  · have hz : l = [] := List.length_eq_zero_iff.1 (by omega)
    subst hz
    rcases h.2 with ⟨rfl, _⟩ | ⟨g, c, _, rfl, _, _, hn, hc, _⟩
    · exact ⟨none, 0, rfl, Nat.le_refl _, by unfold maxLen; omega, fun h => absurd h (by simp), fun j => (hr j).1, fun j => (hr j).2⟩
    · exact ⟨some ⟨g, 0, none⟩, c, rfl, hn, hc, fun h => absurd h (by simp), fun j => (hr j).1, fun j => (hr j).2⟩

theorem Row8.text {w : World} {v : Value} {l : List Int} (h : Row8 w v l) (W : World) (hb : Below w.heap.size w W) : (convert 30 9 v).run Try.prog W = .ok (.string (strOfNums l)) W := by
  obtain ⟨a, cap, hr⟩ := h.rd
  exact hr.text W hb

theorem row8_nil (w : World) : Row8 w (.slice none 0 0) [] := ⟨⟨0, World.ownsRow_nil _ _ _ _⟩, fun j => by simp⟩
theorem row64_nil (w : World) : Row64 w (.slice none 0 0) [] := ⟨⟨0, World.ownsRow_nil _ _ _ _⟩, by simp⟩

theorem bytes_both (x b o : Int) (h0 : 0 ≤ x) (h1 : x < 18446744073709551616) :
    ∃ (l : List Int) (f : Int),
      (∀ w : World, Calls Try.prog 13 #[.int .u64 x, .int .i64 b, .int .i64 o] w fun e w' => ∃ v, e = .returned (.tuple #[v, .int .i64 f]) ∧ Row8 w' v l ∧ Below w.heap.size w w') ∧
      (∀ w : World, Calls Try.prog 14 #[.int .u64 x, .int .i64 b, .int .i64 o] w fun e w' => ∃ v, e = .returned (.tuple #[v, .int .i64 f]) ∧ Row8 w' v l ∧ Below w.heap.size w w') := by
  cases hf : (faultF b o != 0) with
  | true =>
    refine ⟨[], faultF b o, fun w => ?_, fun w => ?_⟩
    · refine (bytes_word_no x b o w hf).mono ?_
      rintro e w' ⟨rfl, rfl⟩
      exact ⟨_, rfl, row8_nil _, Below.refl _ _⟩
    · refine (bytes_ref_no x b o w hf).mono ?_
      rintro e w' ⟨rfl, rfl⟩
      exact ⟨_, rfl, row8_nil _, Below.refl _ _⟩
  | false =>
    have hw : wdB b = true := by
      cases h : wdB b with
      | true => rfl
      | false => simp [faultF, h] at hf
    obtain ⟨n, hs, hq, hb, hn1, hn8⟩ := wd_bytes hw
    refine ⟨bytesF n o x, 0, fun w => ?_, fun w => ?_⟩
    · refine (bytes_word x b o n w h0 h1 hf hs hn8).mono ?_
      rintro e w' ⟨v, rfl, hown, hbel⟩
      exact ⟨_, rfl, ⟨⟨_, hown⟩, bytesF_range n o x⟩, hbel⟩
    · refine (bytes_ref x b o n w h0 h1 hf hq (by omega) (by omega) hn8).mono ?_
      rintro e w' ⟨v, rfl, hown, hbel⟩
      exact ⟨_, rfl, ⟨⟨_, hown⟩, bytesF_range n o x⟩, hbel⟩

theorem word_both (a : Option Addr) (cap : Nat) (zs : List Int) (b o : Int) (w : World) (hr : Rd w (.slice a zs.length cap) a cap zs) :
    ∃ (p f : Int),
      (∀ W : World, Below w.heap.size w W → Calls Try.prog 15 #[.slice a zs.length cap, .int .i64 b, .int .i64 o] W fun e w' => e = .returned (.tuple #[.int .u64 p, .int .i64 f]) ∧ ∃ m, w' = W.drewN m) ∧
      (∀ W : World, Below w.heap.size w W → Calls Try.prog 16 #[.slice a zs.length cap, .int .i64 b, .int .i64 o] W fun e w' => e = .returned (.tuple #[.int .u64 p, .int .i64 f]) ∧ w' = W) := by
  cases hf : (faultF b o != 0) with
  | true =>
    exact ⟨0, faultF b o, fun W _ => (word_no a _ cap b o W hf).mono fun e w' h => ⟨h.1, 0, h.2⟩, fun W _ => wordr_no a _ cap b o W hf⟩
  | false =>
    have hw : wdB b = true := by
      cases h : wdB b with
      | true => rfl
      | false => simp [faultF, h] at hf
    obtain ⟨n, hs, hq, hb, hn1, hn8⟩ := wd_bytes hw
    by_cases hlt : zs.length < n
    · exact ⟨0, 11, fun W _ => (word_short a _ cap b o n W hf hs hlt).mono fun e w' h => ⟨h.1, 0, h.2⟩, fun W _ => wordr_short a _ cap b o n W hf hq (by omega) (by omega) hlt⟩
    · exact ⟨numF o (zs.take n), 0, fun W hW => word_ok a cap zs b o n W (hr.later hW) hf hs hn1 hn8 (by omega), fun W hW => wordr_ok a cap zs b o n W (hr.later hW) hf hq (by omega) (by omega) hn1 hn8 (by omega)⟩

theorem words_both (a : Option Addr) (cap : Nat) (zs : List Int) (b o : Int) (w : World) (hr : Rd w (.slice a zs.length cap) a cap zs) (hlen : zs.length ≤ 400) :
    ∃ (l : List Int) (f : Int),
      (∀ W : World, Below w.heap.size w W → Calls Try.prog 17 #[.slice a zs.length cap, .int .i64 b, .int .i64 o] W fun e w' => ∃ v, e = .returned (.tuple #[v, .int .i64 f]) ∧ Row64 w' v l ∧ Below W.heap.size W w') ∧
      (∀ W : World, Below w.heap.size w W → Calls Try.prog 18 #[.slice a zs.length cap, .int .i64 b, .int .i64 o] W fun e w' => ∃ v, e = .returned (.tuple #[v, .int .i64 f]) ∧ Row64 w' v l ∧ Below W.heap.size W w') := by
  cases hf : (faultF b o != 0) with
  | true =>
    refine ⟨[], faultF b o, fun W _ => ?_, fun W _ => ?_⟩
    · refine (words_no a _ cap b o W hf).mono ?_
      rintro e w' ⟨rfl, rfl⟩
      exact ⟨_, rfl, row64_nil _, Below.refl _ _⟩
    · refine (wordsr_no a _ cap b o W hf).mono ?_
      rintro e w' ⟨rfl, rfl⟩
      exact ⟨_, rfl, row64_nil _, Below.refl _ _⟩
  | false =>
    have hw : wdB b = true := by
      cases h : wdB b with
      | true => rfl
      | false => simp [faultF, h] at hf
    obtain ⟨n, hs, hq, hb, hn1, hn8⟩ := wd_bytes hw
    by_cases hm : zs.length % n = 0
    · have hml : zs.length = zs.length / n * n := by
        have := Nat.div_add_mod zs.length n
        rw [hm, Nat.add_zero, Nat.mul_comm] at this
        exact this.symm
      have hle : zs.length / n ≤ 400 := Nat.le_trans (Nat.div_le_self _ _) hlen
      refine ⟨wordsF n o zs (zs.length / n), 0, fun W hW => ?_, fun W hW => ?_⟩
      · refine (words_ok a cap zs b o n _ W (hr.later hW) hf hs hn1 hn8 hlen hml).mono ?_
        rintro e w' ⟨v, rfl, hown, hbel⟩
        exact ⟨_, rfl, ⟨⟨_, hown⟩, by rw [wordsF_length]; exact hle⟩, hbel⟩
      · refine (wordsr_ok a cap zs b o n _ W (hr.later hW) hf hq (by omega) (by omega) hn1 hn8 hlen hml).mono ?_
        rintro e w' ⟨v, rfl, hown, hbel⟩
        exact ⟨_, rfl, ⟨⟨_, hown⟩, by rw [wordsF_length]; exact hle⟩, hbel⟩
    · have hmi : ((zs.length : Int) % (n : Int) != 0) = true := by
        rw [bne_iff_ne]
        intro h
        apply hm
        have : ((zs.length % n : Nat) : Int) = 0 := by simpa using h
        omega
      refine ⟨[], 11, fun W _ => ?_, fun W _ => ?_⟩
      · refine (words_short a _ cap b o n W hf hs hn1 hlen hmi).mono ?_
        rintro e w' ⟨rfl, rfl⟩
        exact ⟨_, rfl, row64_nil _, Below.refl _ _⟩
      · refine (wordsr_short a _ cap b o n W hf hq (by omega) (by omega) hn1 hlen hmi).mono ?_
        rintro e w' ⟨rfl, rfl⟩
        exact ⟨_, rfl, row64_nil _, Below.refl _ _⟩
end Go.Proofs.Ytphfcklfgmjboaa
