/-
  The contracts of crc's zeroByteOut and of the document's out: bits out of a register.
-/
import Derived.Test.YtohbghniangknaaBits
namespace Go.Proofs.Ytohbghniangknaa
open Go.RowKit Crc

theorem outN_succ (k r b : Nat) : outN (k + 1) r b = outN k (bitOut r (b / 2 ^ k)) b := rfl

theorem or_bit (a t : Nat) (ha : a < 2 ^ 32) (he : a % 2 = 0) (ht : t < 2) : bits .or .u32 (a : Int) (t : Int) = ((a + t : Nat) : Int) := by
  rw [u32_or_nat a t (by omega) (by omega), nat_join 1 a t he ht]

theorem odd_xor (x t : Nat) (ht : t < 2) : (2 * x + 1) ^^^ t = 2 * x + (1 - t) := by
  have h1 := xor_apart 1 1 (2 * x) (by decide) (Nat.mul_mod_right _ _)
  rw [Nat.xor_comm, Nat.add_comm] at h1
  have ht' : t = 0 ∨ t = 1 := by omega
  rcases ht' with rfl | rfl
  · rw [Nat.xor_zero]
  · rw [← h1, xor_can]
    rfl

theorem out_top (x t : Nat) (hx : x < 2 ^ 32) (ht : 2 ^ 31 ≤ x) : bits .xor .u32 (bits .or .u32 (bits .xor .u32 (x : Int) 2197175160 * 2 % 4294967296) 1) (t % 2 : Nat) = ((bitOut x t : Nat) : Int) := by
  have hl := low_of_top x hx ht
  have hm : t % 2 < 2 := by omega
  rw [show (2197175160 : Int) = ((poly : Nat) : Int) from rfl, xor32 _ _ hx (by decide), bitOut, if_neg (by omega)]
  generalize x ^^^ poly = y at *
  rw [show (y : Int) * 2 % 4294967296 = ((2 * y : Nat) : Int) from by omega, show (1 : Int) = ((1 : Nat) : Int) from rfl, or_bit (2 * y) 1 (by omega) (by omega) (by omega), xor32 _ _ (by omega) (by omega), odd_xor y _ hm]

theorem out_low (x t : Nat) (ht : ¬ 2 ^ 31 ≤ x) : bits .or .u32 ((x : Int) * 2) (t % 2 : Nat) = ((bitOut x t : Nat) : Int) := by
  rw [bitOut, if_pos (by omega), show (x : Int) * 2 = ((2 * x : Nat) : Int) from by omega, or_bit (2 * x) _ (by omega) (by omega) (by omega)]

theorem shr_bit (c j : Nat) : (c : Int) / 2 ^ j % 2 = ((c / 2 ^ j % 2 : Nat) : Int) := by simp

theorem out_word (x : Nat) (hx : x < 2 ^ 32) : bits .or .u32 (bits .xor .u32 (x : Int) (2197175160 * ((x : Int) / 2147483648)) * 2 % 4294967296) ((x : Int) / 2147483648) = ((bitOut x 0 : Nat) : Int) := by
  have hq : poly * (x / 2 ^ 31) < 2 ^ 32 := by unfold poly; omega
  rw [bitOut_top x hx, show (2197175160 : Int) * ((x : Int) / 2147483648) = ((poly * (x / 2 ^ 31) : Nat) : Int) from by unfold poly; omega, xor32 _ _ hx hq]
  generalize x ^^^ poly * (x / 2 ^ 31) = y at *
  rw [show (y : Int) * 2 % 4294967296 = ((2 * (y % 2 ^ 31) : Nat) : Int) from by omega, show (x : Int) / 2147483648 = ((x / 2 ^ 31 : Nat) : Int) from by omega, or_bit _ _ (by omega) (by omega) (by omega)]

theorem out_ref (r c : Nat) (w : World) (h : r < 2 ^ 32) (_hc : c < 256) : Calls Try.prog 31 #[.int .u32 (r : Int), .int .u8 (c : Int)] w fun e w' => e = .returned (.int .u32 ((outB r c : Nat) : Int)) ∧ w' = w := by
  go_enter Try.func31, Try.ntmps31
  go_wp2
  go_loop [0, 5] (fun r' i => ∃ (k x : Nat), k ≤ 8 ∧ x < 2 ^ 32 ∧ outN k x c = outB r c ∧ i = .int .i64 ((k : Int) - 1) ∧ r' = .int .u32 x) (fun _ i => (intOf i + 1).toNat)
  case atStart => exact ⟨8, r, by omega, h, rfl, rfl, rfl⟩
  case round =>
    obtain ⟨k, x, hk, hx, hout, rfl, rfl⟩ := hrel
    by_cases hlt : 0 < k
    · obtain ⟨j, rfl⟩ : ∃ j, k = j + 1 := ⟨k - 1, by omega⟩
      have e1 : ((j + 1 : Nat) : Int) - 1 = (j : Int) := by omega
      rw [e1]
      rw [outN_succ] at hout
      have HO := hid hout
      have hbl := (bitIn_out x (c / 2 ^ j) hx).2
      have hj : (j : Int) < 8 := by omega
      clear hout
      by_cases ht : 2 ^ 31 ≤ x
      · have ht' : (2147483648 : Int) ≤ (x : Int) := by omega
        have HB := hid (out_top x (c / 2 ^ j) hx ht)
        have HS := hid (shr_bit c j)
        go_wp2
        exact ⟨⟨j, bitOut x (c / 2 ^ j), by omega, hbl, HO.out, rfl, by rw [HS.out, HB.out]⟩, by simp [intOf]⟩
      · have ht' : ¬ (2147483648 : Int) ≤ (x : Int) := by omega
        have HB := hid (out_low x (c / 2 ^ j) ht)
        have HS := hid (shr_bit c j)
        go_wp2
        exact ⟨⟨j, bitOut x (c / 2 ^ j), by omega, hbl, HO.out, rfl, by rw [HS.out, HB.out]⟩, by simp [intOf]⟩
    · have hkn : k = 0 := by omega
      subst hkn
      go_wp2
      go_ret
      exact ⟨ret_int (by rw [← hout]; rfl), rfl⟩

theorem zeroByteOut_any (r : Nat) (w : World) (h : r < 2 ^ 32) : Calls Try.prog 30 #[.int .u32 (r : Int)] w fun e w' => e = .returned (.int .u32 ((outB r 0 : Nat) : Int)) ∧ w' = w := by
  go_enter Try.func30, Try.ntmps30
  go_wp2
  go_loop [0, 4] (fun r' i => ∃ k : Nat, k ≤ 8 ∧ i = .int .i64 k ∧ r' = .int .u32 ((outN k r 0 : Nat) : Int)) (fun _ i => 8 - (intOf i).toNat)
  case atStart => exact ⟨0, by omega, rfl, rfl⟩
  case round =>
    obtain ⟨k, hk, rfl, rfl⟩ := hrel
    by_cases hlt : k < 8
    · have hk8 : (k : Int) < 8 := by omega
      have hx := (inN_out k r 0 h).2
      have HO := hid (outN_zero_snoc k r)
      generalize outN k r 0 = x at *
      have HB := hid (out_word x hx)
      go_wp2
      go_round
      case rel => exact ⟨k + 1, by omega, by go_num, by rw [HB.out, HO.out]⟩
      case measure => simp [intOf]; omega
    · have hkn : k = 8 := by omega
      subst hkn
      go_wp2
      go_ret
      exact ⟨rfl, rfl⟩
end Go.Proofs.Ytohbghniangknaa
