/-
  The contracts of crc's zeroBits, product and zeroBytes, and of the document's in: bits into a register.
-/
import Derived.Test.YtohbghniangknabRows
import Derived.Test.YtohbghniangknabCrcMul
import Derived.WalkKit
import Derived.ProofKit
import Derived.OpenShut
import Derived.Deep.QuietTactic
import Derived.BigQuiet
namespace Go.Proofs.Ytohbghniangknab
open Go.RowKit Crc

theorem ret_int {k : IntKind} {a b : Int} (h : a = b) : Ending.returned (.int k a) = .returned (.int k b) := by rw [h]
theorem hid {p : Prop} (h : p) : Hid p := h

theorem and_one (x : Nat) (h : x < 2 ^ 32) : bits .and .u32 (x : Int) 1 = ((x % 2 : Nat) : Int) := by
  rw [show (1 : Int) = ((1 : Nat) : Int) from rfl, u32_and_nat x 1 (by omega) (by omega), Nat.and_one_is_mod]

theorem half_nat (x : Nat) : (x : Int) / 2 = ((x / 2 : Nat) : Int) := by omega

theorem xor32 (a b : Nat) (ha : a < 2 ^ 32) (hb : b < 2 ^ 32) : bits .xor .u32 (a : Int) (b : Int) = ((a ^^^ b : Nat) : Int) := u32_xor_nat a b ha hb

theorem sel_mul (x : Nat) : sel x = poly * (x % 2) := by
  unfold sel
  rcases Nat.mod_two_eq_zero_or_one x with e | e <;> rw [e]
  · rfl
  · rw [if_pos rfl, Nat.mul_one]

theorem rest_sel (x : Nat) (h : x < 2 ^ 32) : 2197175160 * bits .and .u32 (x : Int) 1 % 4294967296 = ((sel x : Nat) : Int) := by
  rw [and_one x h, sel_mul, poly]
  omega

theorem bit_word (x : Nat) (h : x < 2 ^ 32) : bits .xor .u32 ((x : Int) / 2) (2197175160 * bits .and .u32 (x : Int) 1 % 4294967296) = ((bitIn x 0 : Nat) : Int) := by
  rw [rest_sel x h, half_nat, xor32 _ _ (by omega) (sel_lt x), bitIn_zero]

theorem zeroBits_any (r n : Nat) (w : World) (h : r < 2 ^ 32) (hn : n ≤ 32) : Calls Try.prog 19 #[.int .u32 (r : Int), .int .i64 (n : Int)] w fun e w' => e = .returned (.int .u32 ((st n r : Nat) : Int)) ∧ w' = w := by
  go_enter Try.func19, Try.ntmps19
  go_wp2
  go_loop [0, 6] (fun r' i => ∃ k : Nat, k ≤ n ∧ i = .int .i64 k ∧ r' = .int .u32 ((st k r : Nat) : Int)) (fun _ i => n - (intOf i).toNat)
  case atStart => exact ⟨0, by omega, rfl, rfl⟩
  case round =>
    obtain ⟨k, hk, rfl, rfl⟩ := hrel
    by_cases hlt : k < n
    · have hkn : (k : Int) < (n : Int) := by omega
      have HS := hid (st_snoc k r)
      have hb := st_lt k r h
      have HB := hid (bit_word (st k r) hb)
      generalize st k r = x at *
      go_wp2
      go_round
      case rel => exact ⟨k + 1, by omega, by go_num, by rw [HB.out, HS.out]⟩
      case measure => simp [intOf]; omega
    · have hkn : k = n := by omega
      subst hkn
      go_wp2
      go_ret
      exact ⟨rfl, rfl⟩

theorem zero8_any (r : Nat) (w : World) (h : r < 2 ^ 32) : Calls Try.prog 19 #[.int .u32 (r : Int), .int .i64 8] w fun e w' => e = .returned (.int .u32 ((st 8 r : Nat) : Int)) ∧ w' = w := zeroBits_any r 8 w h (by omega)
theorem entry_word (c : Nat) (w : World) (h : c < 256) : Calls Try.prog 17 #[.int .u8 (c : Int)] w fun e w' => e = .returned (.int .u32 ((inB 0 c : Nat) : Int)) ∧ w' = w := by
  have he : inB 0 c = st 8 c := inN_move 8 c h
  rw [he]
  go_enter Try.func17, Try.ntmps17
  go_wp2_with (go_at_call 19; refine (zero8_any c _ (by omega)).mono ?_; rintro e w' ⟨rfl, hw⟩; obtain rfl := hw.symm; clear hw)
  go_ret
  exact ⟨rfl, rfl⟩

theorem inN_succ (k r b : Nat) : inN (k + 1) r b = inN k (bitIn r b) (b / 2) := rfl

theorem bit_one (x y : Nat) (h : x < 2 ^ 32) (hne : ((x : Int) % 2 != (y : Int) % 2) = true) : bits .xor .u32 ((x : Int) / 2) 2197175160 = ((bitIn x y : Nat) : Int) := by
  have hx := xor_mod2 x y
  have hne' : (x : Int) % 2 ≠ (y : Int) % 2 := by simpa using hne
  rw [half_nat, show (2197175160 : Int) = ((poly : Nat) : Int) from rfl, xor32 _ _ (by omega) (by decide), bitIn, sel, if_pos (by omega)]

theorem bit_none (x y : Nat) (hne : ((x : Int) % 2 != (y : Int) % 2) = false) : (x : Int) / 2 = ((bitIn x y : Nat) : Int) := by
  have hx := xor_mod2 x y
  have hne' : (x : Int) % 2 = (y : Int) % 2 := by simpa using hne
  rw [half_nat, bitIn, sel, if_neg (by omega), Nat.xor_zero]

theorem in_ref (r c : Nat) (w : World) (h : r < 2 ^ 32) (hc : c < 256) : Calls Try.prog 18 #[.int .u32 (r : Int), .int .u8 (c : Int)] w fun e w' => e = .returned (.int .u32 ((inB r c : Nat) : Int)) ∧ w' = w := by
  go_enter Try.func18, Try.ntmps18
  go_wp2
  go_loop [0, 1, 5] (fun r' c' i => ∃ (k x y : Nat), k ≤ 8 ∧ x < 2 ^ 32 ∧ y < 256 ∧ inN (8 - k) x y = inB r c ∧ i = .int .i64 k ∧ r' = .int .u32 x ∧ c' = .int .u8 y) (fun _ _ i => 8 - (intOf i).toNat)
  case atStart => exact ⟨0, r, c, by omega, h, hc, rfl, rfl, rfl, rfl⟩
  case round =>
    obtain ⟨k, x, y, hk, hx, hy, hin, rfl, rfl, rfl⟩ := hrel
    by_cases hlt : k < 8
    · have hk8 : (k : Int) < 8 := by omega
      have hin' : inN (8 - (k + 1)) (bitIn x y) (y / 2) = inB r c := by rw [← hin, show 8 - k = 8 - (k + 1) + 1 from by omega, inN_succ]
      have HI := hid hin'
      have hbl := bitIn_lt x y hx
      clear hin hin'
      cases hne : ((x : Int) % 2 != (y : Int) % 2)
      · have HB := hid (bit_none x y hne)
        go_wp2
        refine ⟨⟨k + 1, bitIn x y, y / 2, by omega, hbl, by omega, HI.out, by go_num, by rw [HB.out], by rw [half_nat]⟩, by simp [intOf]; omega⟩
      · have HB := hid (bit_one x y hx hne)
        go_wp2
        refine ⟨⟨k + 1, bitIn x y, y / 2, by omega, hbl, by omega, HI.out, by go_num, by rw [HB.out], by rw [half_nat]⟩, by simp [intOf]; omega⟩
    · have hkn : k = 8 := by omega
      subst hkn
      go_wp2
      go_ret
      exact ⟨ret_int (by rw [← hin]; rfl), rfl⟩

end Go.Proofs.Ytohbghniangknab
