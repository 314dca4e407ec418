/-
  The contracts of crc's zeroByteOut and of the document's out: bits out of a register.
-/
import Derived.Test.YtohbghniangknabBits
namespace Go.Proofs.Ytohbghniangknab
open Go.RowKit Crc

theorem or_bit (a t : Nat) (ha : a < 2 ^ 32) (he : a % 2 = 0) (ht : t < 2) : bits .or .u32 (a : Int) (t : Int) = ((a + t : Nat) : Int) := by
  rw [u32_or_nat a t (by omega) (by omega), nat_join 1 a t he ht]

theorem out_word (x : Nat) (hx : x < 2 ^ 32) : bits .or .u32 (bits .xor .u32 (x : Int) (2197175160 * ((x : Int) / 2147483648)) * 2 % 4294967296) ((x : Int) / 2147483648) = ((bitOut x 0 : Nat) : Int) := by
  have hq : poly * (x / 2 ^ 31) < 2 ^ 32 := by unfold poly; omega
  rw [bitOut_top x hx, show (2197175160 : Int) * ((x : Int) / 2147483648) = ((poly * (x / 2 ^ 31) : Nat) : Int) from by unfold poly; omega, xor32 _ _ hx hq]
  generalize x ^^^ poly * (x / 2 ^ 31) = y at *
  rw [show (y : Int) * 2 % 4294967296 = ((2 * (y % 2 ^ 31) : Nat) : Int) from by omega, show (x : Int) / 2147483648 = ((x / 2 ^ 31 : Nat) : Int) from by omega, or_bit _ _ (by omega) (by omega) (by omega)]

theorem zeroByteOut_any (r : Nat) (w : World) (h : r < 2 ^ 32) : Calls Try.prog 16 #[.int .u32 (r : Int)] w fun e w' => e = .returned (.int .u32 ((outB r 0 : Nat) : Int)) ∧ w' = w := by
  go_enter Try.func16, Try.ntmps16
  go_wp2
  go_loop [0, 4] (fun r' i => ∃ k : Nat, k ≤ 8 ∧ i = .int .i64 k ∧ r' = .int .u32 ((outN k r 0 : Nat) : Int)) (fun _ i => 8 - (intOf i).toNat)
  case atStart => exact ⟨0, by omega, rfl, rfl⟩
  case round =>
    obtain ⟨k, hk, rfl, rfl⟩ := hrel
    by_cases hlt : k < 8
    · have hk8 : (k : Int) < 8 := by omega
      have hx := (inN_out k r 0 h).2
      have HO := hid (outN_zero_snoc k r)
      generalize outN k r 0 = x at *
      have HB := hid (out_word x hx)
      go_wp2
      go_round
      case rel => exact ⟨k + 1, by omega, by go_num, by rw [HB.out, HO.out]⟩
      case measure => simp [intOf]; omega
    · have hkn : k = 8 := by omega
      subst hkn
      go_wp2
      go_ret
      exact ⟨rfl, rfl⟩
end Go.Proofs.Ytohbghniangknab
