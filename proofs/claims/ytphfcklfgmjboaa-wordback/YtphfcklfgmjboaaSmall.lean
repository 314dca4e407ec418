/-
  The contracts of word's fault and shift, and of the document's asked: what is wrong with a width and an order, and where a byte lies.
-/
import Derived.Test.YtphfcklfgmjboaaByteMath
import Derived.Test.YtphfcklfgmjboaaOrd
import Derived.Deep.QuietTactic
import Derived.BigQuiet
namespace Go.Proofs.Ytphfcklfgmjboaa
open Go.RowKit

/-- What is wrong with a width and an order. -/
def faultF (b o : Int) : Int := if wdB b = false then 10 else if o ≠ 1 ∧ o ≠ 2 then 1 else 0

theorem fault_any (b o : Int) (w : World) : Calls Try.prog 33 #[.int .i64 b, .int .i64 o] w fun e w' => e = .returned (.int .i64 (faultF b o)) ∧ w' = w := by
  have hs := wd_size b
  cases hw : wdB b with
  | false =>
    rw [hw] at hs
    have hf : faultF b o = 10 := by simp [faultF, hw]
    rw [hf]
    clear hf
    go_enter Try.func33, Try.ntmps33
    go_wp2_with (go_at_call 30; refine (size_any _ _).mono ?_; rintro e w' ⟨rfl, rfl⟩)
    go_ret
    exact ⟨rfl, rfl⟩
  | true =>
    rw [hw] at hs
    by_cases h1 : o = 1
    · subst h1
      have hf : faultF b 1 = 0 := by simp [faultF, hw]
      rw [hf]
      clear hf
      go_enter Try.func33, Try.ntmps33
      go_wp2_with (go_at_call 30; refine (size_any _ _).mono ?_; rintro e w' ⟨rfl, rfl⟩)
      go_ret
      exact ⟨rfl, rfl⟩
    · have g1 : (o != 1) = true := by rw [bne_iff_ne]; exact h1
      by_cases h2 : o = 2
      · subst h2
        have hf : faultF b 2 = 0 := by simp [faultF, hw]
        rw [hf]
        clear hf
        go_enter Try.func33, Try.ntmps33
        go_wp2_with (go_at_call 30; refine (size_any _ _).mono ?_; rintro e w' ⟨rfl, rfl⟩)
        go_ret
        exact ⟨rfl, rfl⟩
      · have g2 : (o != 2) = true := by rw [bne_iff_ne]; exact h2
        have hf : faultF b o = 1 := by simp [faultF, hw, h1, h2]
        rw [hf]
        clear hf h1 h2
        go_enter Try.func33, Try.ntmps33
        go_wp2_with (go_at_call 30; refine (size_any _ _).mono ?_; rintro e w' ⟨rfl, rfl⟩)
        go_ret
        exact ⟨rfl, rfl⟩

theorem asked_any (b o : Int) (w : World) : Calls Try.prog 35 #[.int .i64 b, .int .i64 o] w fun e w' => e = .returned (.int .i64 (faultF b o)) ∧ w' = w := by
  cases hw : wdB b with
  | false =>
    have hf : faultF b o = 10 := by simp [faultF, hw]
    rw [hf]
    clear hf
    go_enter Try.func35, Try.ntmps35
    go_wp2_with (go_at_call 28; refine (width_any _ _).mono ?_; rintro e w' ⟨rfl, rfl⟩)
    go_ret
    exact ⟨rfl, rfl⟩
  | true =>
    by_cases h1 : o = 1
    · subst h1
      have hf : faultF b 1 = 0 := by simp [faultF, hw]
      rw [hf]
      clear hf
      go_enter Try.func35, Try.ntmps35
      go_wp2_with (go_at_call 28; refine (width_any _ _).mono ?_; rintro e w' ⟨rfl, rfl⟩)
      go_ret
      exact ⟨rfl, rfl⟩
    · have g1 : (o != 1) = true := by rw [bne_iff_ne]; exact h1
      by_cases h2 : o = 2
      · subst h2
        have hf : faultF b 2 = 0 := by simp [faultF, hw]
        rw [hf]
        clear hf
        go_enter Try.func35, Try.ntmps35
        go_wp2_with (go_at_call 28; refine (width_any _ _).mono ?_; rintro e w' ⟨rfl, rfl⟩)
        go_ret
        exact ⟨rfl, rfl⟩
      · have g2 : (o != 2) = true := by rw [bne_iff_ne]; exact h2
        have hf : faultF b o = 1 := by simp [faultF, hw, h1, h2]
        rw [hf]
        clear hf h1 h2
        go_enter Try.func35, Try.ntmps35
        go_wp2_with (go_at_call 28; refine (width_any _ _).mono ?_; rintro e w' ⟨rfl, rfl⟩)
        go_ret
        exact ⟨rfl, rfl⟩

theorem shift_any (i n : Nat) (o : Int) (w : World) (hi : i < n) (hn : n ≤ 8) :
    Calls Try.prog 34 #[.int .i64 i, .int .i64 n, .int .i64 o] w fun e w' => e = .returned (.int .i64 (shF n o i : Nat)) ∧ w' = w := by
  by_cases h1 : o = 1
  · subst h1
    go_enter Try.func34, Try.ntmps34
    go_wp2
    go_ret
    exact ⟨ret_int (by simp only [shF, if_true]; omega), rfl⟩
  · have g1 : (o == 1) = false := by rw [beq_eq_false_iff_ne]; exact h1
    have hf : shF n o i = 8 * i := by simp [shF, h1]
    have HF := hid hf
    clear hf h1
    go_enter Try.func34, Try.ntmps34
    go_wp2
    go_ret
    exact ⟨ret_int (by rw [HF.out]; omega), rfl⟩

/-- A width is eight times as many bits as bytes. -/
theorem wd_bytes {b : Int} (h : wdB b = true) : ∃ n : Nat, sizeF b = n ∧ b / 8 = n ∧ b = 8 * n ∧ 1 ≤ n ∧ n ≤ 8 := by
  rcases wd_cases h with rfl | rfl | rfl | rfl
  · exact ⟨1, rfl, rfl, rfl, by omega, by omega⟩
  · exact ⟨2, rfl, rfl, rfl, by omega, by omega⟩
  · exact ⟨4, rfl, rfl, rfl, by omega, by omega⟩
  · exact ⟨8, rfl, rfl, rfl, by omega, by omega⟩

end Go.Proofs.Ytphfcklfgmjboaa
