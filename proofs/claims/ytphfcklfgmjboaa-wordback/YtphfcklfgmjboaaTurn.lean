/-
  The contracts of word.Turn and the document's Turn, with all that they call: both turn the lowest bits of x, of a width b, to the left by y modulo b places.
-/
import Derived.Test.YtphfcklfgmjboaaZig
import Derived.Deep.QuietTactic
import Derived.BigQuiet
namespace Go.Proofs.Ytphfcklfgmjboaa
open Go.RowKit

def sizeF (b : Int) : Int := if b = 8 then 1 else if b = 16 then 2 else if b = 32 then 4 else if b = 64 then 8 else 0

theorem size_any (b : Int) (w : World) : Calls Try.prog 30 #[.int .i64 b] w fun e w' => e = .returned (.int .i64 (sizeF b)) ∧ w' = w := by
  by_cases h8 : b = 8
  · subst h8
    go_enter Try.func30, Try.ntmps30
    go_wp2
    go_ret
    exact ⟨rfl, rfl⟩
  by_cases h16 : b = 16
  · subst h16
    go_enter Try.func30, Try.ntmps30
    go_wp2
    go_ret
    exact ⟨rfl, rfl⟩
  by_cases h32 : b = 32
  · subst h32
    go_enter Try.func30, Try.ntmps30
    go_wp2
    go_ret
    exact ⟨rfl, rfl⟩
  by_cases h64 : b = 64
  · subst h64
    go_enter Try.func30, Try.ntmps30
    go_wp2
    go_ret
    exact ⟨rfl, rfl⟩
  have g8 : (b == 8) = false := by simpa using h8
  have g16 : (b == 16) = false := by simpa using h16
  have g32 : (b == 32) = false := by simpa using h32
  have g64 : (b == 64) = false := by simpa using h64
  go_enter Try.func30, Try.ntmps30
  go_wp2
  go_ret
  exact ⟨ret_int (by simp [sizeF, h8, h16, h32, h64]), rfl⟩

def lowF (x b : Int) : Int := x % 2 ^ b.toNat

theorem low_word (x b : Int) (w : World) (h0 : 0 ≤ x) (_h1 : x < 18446744073709551616) (hb0 : 0 ≤ b) (hb1 : b ≤ 64) :
    Calls Try.prog 31 #[.int .u64 x, .int .i64 b] w fun e w' => e = .returned (.int .u64 (lowF x b)) ∧ w' = w := by
  go_enter Try.func31, Try.ntmps31
  go_wp2
  go_ret
  exact ⟨ret_int (Num.low_shift x b h0 hb0 hb1), rfl⟩
theorem ret_pair {k l : IntKind} {a b c : Int} (h : a = b) : Ending.returned (.tuple #[.int k a, .int l c]) = .returned (.tuple #[.int k b, .int l c]) := by rw [h]

theorem turn_word (x b y : Int) (w : World) (h0 : 0 ≤ x) (h1 : x < 18446744073709551616) (hb0 : 8 ≤ b) (hb1 : b ≤ 64) (hs : (sizeF b == 0) = false) :
    Calls Try.prog 9 #[.int .u64 x, .int .i64 b, .int .i64 y] w fun e w' => e = .returned (.tuple #[.int .u64 (Num.turnI x b y), .int .i64 0]) ∧ ∃ m, w' = w.drewN m := by
  have hp : (wrap64 (y.tmod b + b)).tmod b = y % b := Num.places64 y b (by omega) hb1
  obtain ⟨n, hn⟩ : ∃ n, n = y % b := ⟨_, rfl⟩
  have hn0 : 0 ≤ n := by rw [hn]; exact Int.emod_nonneg _ (by omega)
  have hn1 : n < b := by rw [hn]; exact Int.emod_lt_of_pos _ (by omega)
  have HN : Hid (n = y % b) := hn
  rw [← hn] at hp
  clear hn
  obtain ⟨c1, c2, c3⟩ := Num.turn_or x b n h0 (by omega) hb1 hn0 (by omega)
  have C3 : Hid (_ = _) := c3
  clear c3
  go_enter Try.func9, Try.ntmps9
  go_wp2_with (first | (go_at_call 30; refine (size_any _ _).mono ?_; rintro e w' ⟨rfl, rfl⟩) | (go_at_call 31; refine (low_word _ _ _ (by omega) (by omega) (by omega) (by omega)).mono ?_; rintro e w' ⟨rfl, rfl⟩))
  go_quiet ((go_at_call 31; exact Calls.quiet_of_same (low_word _ _ _ c1 c2 (by omega) (by omega))))
  go_wp2
  go_ret2
  exact ⟨ret_pair (by rw [Num.turnI, ← HN.out]; exact C3.out), _, rfl⟩

theorem turn_word_no (x b y : Int) (w : World) (hs : (sizeF b == 0) = true) :
    Calls Try.prog 9 #[.int .u64 x, .int .i64 b, .int .i64 y] w fun e w' => e = .returned (.tuple #[.int .u64 0, .int .i64 10]) ∧ w' = w := by
  go_enter Try.func9, Try.ntmps9
  go_wp2_with (go_at_call 30; refine (size_any _ _).mono ?_; rintro e w' ⟨rfl, rfl⟩)
  go_ret2
  exact ⟨rfl, rfl⟩

def wdB (b : Int) : Bool := b == 8 || b == 16 || b == 32 || b == 64

theorem width_any (b : Int) (w : World) : Calls Try.prog 28 #[.int .i64 b] w fun e w' => e = .returned (.bool (wdB b)) ∧ w' = w := by
  by_cases h8 : b = 8
  · subst h8
    go_enter Try.func28, Try.ntmps28
    go_wp2
    go_ret
    exact ⟨rfl, rfl⟩
  by_cases h16 : b = 16
  · subst h16
    go_enter Try.func28, Try.ntmps28
    go_wp2
    go_ret
    exact ⟨rfl, rfl⟩
  by_cases h32 : b = 32
  · subst h32
    go_enter Try.func28, Try.ntmps28
    go_wp2
    go_ret
    exact ⟨rfl, rfl⟩
  by_cases h64 : b = 64
  · subst h64
    go_enter Try.func28, Try.ntmps28
    go_wp2
    go_ret
    exact ⟨rfl, rfl⟩
  have g8 : (b == 8) = false := by simpa using h8
  have g16 : (b == 16) = false := by simpa using h16
  have g32 : (b == 32) = false := by simpa using h32
  have g64 : (b == 64) = false := by simpa using h64
  go_enter Try.func28, Try.ntmps28
  go_wp2
  go_ret
  exact ⟨by simp [wdB, h8, h16, h32, h64], rfl⟩

theorem wd_size (b : Int) : (sizeF b == 0) = !wdB b := by
  unfold sizeF wdB
  by_cases h8 : b = 8
  · subst h8; rfl
  by_cases h16 : b = 16
  · subst h16; rfl
  by_cases h32 : b = 32
  · subst h32; rfl
  by_cases h64 : b = 64
  · subst h64; rfl
  simp [h8, h16, h32, h64]

theorem wd_cases {b : Int} (h : wdB b = true) : b = 8 ∨ b = 16 ∨ b = 32 ∨ b = 64 := by
  simpa [wdB, or_assoc] using h

def powF (n : Int) : Int := 2 ^ n.toNat

theorem powF_pos (n : Int) : 0 < powF n := Int.pow_pos (by decide)

theorem power_any (n : Int) (w : World) (h0 : 0 ≤ n) (h1 : n ≤ 63) : Calls Try.prog 32 #[.int .i64 n] w fun e w' => e = .returned (.int .u64 (powF n)) ∧ w' = w := by
  go_enter Try.func32, Try.ntmps32
  go_wp2
  go_loop [0, 3] (fun m x => ∃ k : Nat, (k : Int) ≤ n ∧ m = .int .i64 (n - k) ∧ x = .int .u64 (2 ^ k)) (fun m _ => (intOf m).toNat)
  case atStart => exact ⟨0, by omega, by simp, rfl⟩
  case round =>
    obtain ⟨k, hk, rfl, rfl⟩ := hrel
    by_cases hlt : (k : Int) < n
    · have hb : (2 : Int) ^ k ≤ 4611686018427387904 := by
        have := Nat.pow_le_pow_right (n := 2) (by decide) (show k ≤ 62 from by omega)
        have e : ((2 ^ k : Nat) : Int) ≤ ((2 ^ 62 : Nat) : Int) := by omega
        simpa using e
      have hb0 : (0 : Int) < 2 ^ k := Int.pow_pos (by decide)
      go_wp2
      go_round
      case rel => exact ⟨k + 1, by omega, by go_num, by rw [Int.pow_succ]⟩
      case measure => simp [intOf]; omega
    · go_wp2
      go_ret
      exact ⟨ret_int (by rw [powF, show n.toNat = k from by omega]), rfl⟩

theorem low_ref (x b : Int) (w : World) (h0 : 0 ≤ x) (h1 : x < 18446744073709551616) (hb0 : 0 ≤ b) (hb1 : b ≤ 64) :
    Calls Try.prog 29 #[.int .u64 x, .int .i64 b] w fun e w' => e = .returned (.int .u64 (lowF x b)) ∧ w' = w := by
  by_cases hb : b < 64
  · have hp := powF_pos b
    go_enter Try.func29, Try.ntmps29
    go_wp2_with (go_at_call 32; refine (power_any _ _ (by omega) (by omega)).mono ?_; rintro e w' ⟨rfl, rfl⟩)
    go_ret
    exact ⟨ret_int rfl, rfl⟩
  · go_enter Try.func29, Try.ntmps29
    go_wp2
    go_ret
    exact ⟨ret_int (by rw [lowF, show b.toNat = 64 from by omega]; omega), rfl⟩
end Go.Proofs.Ytphfcklfgmjboaa
