/-
  The contracts of crc's zeroBits, product and zeroBytes, and of the document's in: bits into a register.
-/
import Derived.Test.YtohbghniangknaaRows
import Derived.Test.YtohbghniangknaaCrcMul
import Derived.WalkKit
import Derived.ProofKit
import Derived.OpenShut
import Derived.Deep.QuietTactic
import Derived.BigQuiet
namespace Go.Proofs.Ytohbghniangknaa
open Go.RowKit Crc

theorem ret_int {k : IntKind} {a b : Int} (h : a = b) : Ending.returned (.int k a) = .returned (.int k b) := by rw [h]
theorem hid {p : Prop} (h : p) : Hid p := h

theorem and_one (x : Nat) (h : x < 2 ^ 32) : bits .and .u32 (x : Int) 1 = ((x % 2 : Nat) : Int) := by
  rw [show (1 : Int) = ((1 : Nat) : Int) from rfl, u32_and_nat x 1 (by omega) (by omega), Nat.and_one_is_mod]

theorem half_nat (x : Nat) : (x : Int) / 2 = ((x / 2 : Nat) : Int) := by omega

theorem xor32 (a b : Nat) (ha : a < 2 ^ 32) (hb : b < 2 ^ 32) : bits .xor .u32 (a : Int) (b : Int) = ((a ^^^ b : Nat) : Int) := u32_xor_nat a b ha hb

theorem sel_mul (x : Nat) : sel x = poly * (x % 2) := by
  unfold sel
  rcases Nat.mod_two_eq_zero_or_one x with e | e <;> rw [e]
  · rfl
  · rw [if_pos rfl, Nat.mul_one]

theorem rest_sel (x : Nat) (h : x < 2 ^ 32) : 2197175160 * bits .and .u32 (x : Int) 1 % 4294967296 = ((sel x : Nat) : Int) := by
  rw [and_one x h, sel_mul, poly]
  omega

theorem bit_word (x : Nat) (h : x < 2 ^ 32) : bits .xor .u32 ((x : Int) / 2) (2197175160 * bits .and .u32 (x : Int) 1 % 4294967296) = ((bitIn x 0 : Nat) : Int) := by
  rw [rest_sel x h, half_nat, xor32 _ _ (by omega) (sel_lt x), bitIn_zero]

theorem pick_word (a b k : Nat) (ha : a < 2 ^ 32) (hb : b < 2 ^ 32) : (b : Int) * bits .and .u32 ((a : Int) / 2 ^ k) 1 % 4294967296 = ((pick b (a / 2 ^ k) : Nat) : Int) := by
  have e : (a : Int) / 2 ^ k = ((a / 2 ^ k : Nat) : Int) := by simp
  have hle : a / 2 ^ k ≤ a := Nat.div_le_self _ _
  have hp := pick_lt b (a / 2 ^ k) hb
  rw [e, and_one _ (by omega)]
  unfold pick at *
  rw [← Int.natCast_mul]
  omega

theorem zeroBits_any (r n : Nat) (w : World) (h : r < 2 ^ 32) (hn : n ≤ 32) : Calls Try.prog 27 #[.int .u32 (r : Int), .int .i64 (n : Int)] w fun e w' => e = .returned (.int .u32 ((st n r : Nat) : Int)) ∧ w' = w := by
  go_enter Try.func27, Try.ntmps27
  go_wp2
  go_loop [0, 6] (fun r' i => ∃ k : Nat, k ≤ n ∧ i = .int .i64 k ∧ r' = .int .u32 ((st k r : Nat) : Int)) (fun _ i => n - (intOf i).toNat)
  case atStart => exact ⟨0, by omega, rfl, rfl⟩
  case round =>
    obtain ⟨k, hk, rfl, rfl⟩ := hrel
    by_cases hlt : k < n
    · have hkn : (k : Int) < (n : Int) := by omega
      have HS := hid (st_snoc k r)
      have hb := st_lt k r h
      have HB := hid (bit_word (st k r) hb)
      generalize st k r = x at *
      go_wp2
      go_round
      case rel => exact ⟨k + 1, by omega, by go_num, by rw [HB.out, HS.out]⟩
      case measure => simp [intOf]; omega
    · have hkn : k = n := by omega
      subst hkn
      go_wp2
      go_ret
      exact ⟨rfl, rfl⟩

theorem zero8_any (r : Nat) (w : World) (h : r < 2 ^ 32) : Calls Try.prog 27 #[.int .u32 (r : Int), .int .i64 8] w fun e w' => e = .returned (.int .u32 ((st 8 r : Nat) : Int)) ∧ w' = w := zeroBits_any r 8 w h (by omega)
theorem zero1_any (r : Nat) (w : World) (h : r < 2 ^ 32) : Calls Try.prog 27 #[.int .u32 (r : Int), .int .i64 1] w fun e w' => e = .returned (.int .u32 ((bitIn r 0 : Nat) : Int)) ∧ w' = w := zeroBits_any r 1 w h (by omega)

theorem product_any (a b : Nat) (w : World) (ha : a < 2 ^ 32) (hb : b < 2 ^ 32) : Calls Try.prog 33 #[.int .u32 (a : Int), .int .u32 (b : Int)] w fun e w' => e = .returned (.int .u32 ((mul a b : Nat) : Int)) ∧ ∃ m, w' = w.drewN m := by
  go_enter Try.func33, Try.ntmps33
  go_wp2
  go_loopw [5, 7] (fun p i wr => ∃ k : Nat, k ≤ 32 ∧ i = .int .i64 k ∧ p = .int .u32 ((mulN a b k : Nat) : Int) ∧ ∃ m, wr = w.drewN m) (fun _ i _ => 32 - (intOf i).toNat)
  case atStart => exact ⟨0, by omega, rfl, rfl, 0, rfl⟩
  case round =>
    obtain ⟨k, hk, rfl, rfl, m, rfl⟩ := hrel
    by_cases hlt : k < 32
    · have hp := mulN_lt a b k hb
      have HP := hid (pick_word a b k ha hb)
      have HX := hid (xor32 _ _ (bitIn_lt (mulN a b k) 0 hp) (pick_lt b (a / 2 ^ k) hb))
      have HM : Hid (mulN a b (k + 1) = bitIn (mulN a b k) 0 ^^^ pick b (a / 2 ^ k)) := rfl
      generalize mulN a b k = x at *
      generalize hW : w.drewN m = W at *
      have HW := hid hW
      clear hW
      have hk32 : (k : Int) < 32 := by omega
      go_wp2_with fail
      go_quiet ((go_at_call 27; exact Calls.quiet_of_same (zero1_any x _ hp)))
      go_wp2
      go_roundw
      case rel => exact ⟨k + 1, by omega, by go_num, by rw [HP.out, HX.out, HM.out], m + nq, by rw [← HW.out, World.drewN_drewN]⟩
      case measure => simp [intOf]; omega
    · have hkn : k = 32 := by omega
      subst hkn
      go_wp2
      go_ret
      exact ⟨rfl, m, rfl⟩

theorem odd_word (n : Nat) : bits .and .i64 (n : Int) 1 = ((n % 2 : Nat) : Int) := by
  have h1 : (BitVec.ofInt 64 1).toNat = 2 ^ 1 - 1 := by decide
  have key : (BitVec.ofInt 64 (n : Int) &&& BitVec.ofInt 64 1).toNat = ((n : Int) % ((2 ^ 64 : Nat) : Int)).toNat % 2 ^ 1 := by
    rw [BitVec.toNat_and, BitVec.toNat_ofInt, h1, Nat.and_two_pow_sub_one_eq_mod]
  show IntKind.i64.wrap ((BitVec.ofInt 64 (n : Int) &&& BitVec.ofInt 64 1).toNat : Nat) = ((n % 2 : Nat) : Int)
  rw [key, IntKind.wrap_i64]
  omega

set_option maxHeartbeats 800000 in
theorem zeroBytes_any (r n : Nat) (w : World) (h : r < 2 ^ 32) (hn : n ≤ 65536) : Calls Try.prog 29 #[.int .u32 (r : Int), .int .i64 (n : Int)] w fun e w' => e = .returned (.int .u32 ((st (8 * n) r : Nat) : Int)) ∧ ∃ m, w' = w.drewN m := by
  go_enter Try.func29, Try.ntmps29
  have h31 : (2 ^ 31 : Nat) < 2 ^ 32 := by decide
  go_wp2_with (go_at_call 27; refine (zero8_any (2 ^ 31) _ h31).mono ?_; rintro e w' ⟨rfl, hw⟩; obtain rfl := hw.symm; clear hw)
  go_loopw [0, 1, 5] (fun r' i by' wr => ∃ (x y e : Nat), x < 2 ^ 32 ∧ y ≤ 65536 ∧ st (e * y) x = st (8 * n) r ∧ i = .int .i64 y ∧ r' = .int .u32 x ∧ by' = .int .u32 ((st e (2 ^ 31) : Nat) : Int) ∧ ∃ m, wr = w.drewN m) (fun _ i _ _ => (intOf i).toNat)
  case atStart => exact ⟨r, n, 8, h, hn, rfl, rfl, rfl, rfl, 0, rfl⟩
  case round =>
    obtain ⟨x, y, e, hx, hy, hst, rfl, rfl, rfl, m, rfl⟩ := hrel
    have hbl := st_lt e (2 ^ 31) h31
    have HSQ := hid (mul_sq e)
    have HMX := hid (mul_st x e hx)
    have hxe := st_lt e x hx
    have HST : Hid (st (e * y) x = st (8 * n) r) := hst
    have HH := hid (st_half e y x)
    clear hst
    generalize hby : st e (2 ^ 31) = by' at *
    have HBY := hid hby
    clear hby
    by_cases h0 : 0 < y
    · have h0' : (0 : Int) < (y : Int) := by omega
      have ho := odd_word y
      generalize hW : w.drewN m = W at *
      have HW := hid hW
      clear hW
      rcases Nat.mod_two_eq_zero_or_one y with hpar | hpar
      · rw [hpar] at ho
        have hno : (bits .and .i64 (y : Int) 1 == 1) = false := by rw [ho]; rfl
        clear ho
        go_wp2_with (go_at_call 33; refine (product_any by' by' _ hbl hbl).mono ?_; rintro e' w' ⟨rfl, m', hw⟩; obtain rfl := hw.symm; clear hw)
        refine ⟨⟨x, y / 2, 2 * e, hx, by omega, ?_, by rw [half_nat], rfl, by rw [HSQ.out], m + m', by rw [← HW.out, World.drewN_drewN]⟩, by simp [intOf]; omega⟩
        rw [← HST.out, HH.out, if_neg (by omega)]
      · rw [hpar] at ho
        have hno : (bits .and .i64 (y : Int) 1 == 1) = true := by rw [ho]; rfl
        clear ho
        go_wp2_with fail
        go_at_call 33
        refine (product_any x by' _ hx hbl).mono ?_
        rintro e' w' ⟨rfl, m1, hw⟩
        obtain rfl := hw.symm
        clear hw
        go_wp2_with fail
        go_at_call 33
        refine (product_any by' by' _ hbl hbl).mono ?_
        rintro e' w' ⟨rfl, m2, hw⟩
        obtain rfl := hw.symm
        clear hw
        go_wp2
        refine ⟨⟨mul x by', y / 2, 2 * e, by rw [HMX.out]; exact hxe, by omega, ?_, by rw [half_nat], rfl, by rw [HSQ.out], m + (m1 + m2), by rw [← HW.out, World.drewN_drewN]⟩, by simp [intOf]; omega⟩
        rw [← HST.out, HH.out, if_pos hpar, HMX.out]
    · have hkn : y = 0 := by omega
      subst hkn
      go_wp2
      go_ret
      exact ⟨ret_int (by rw [← HST.out, Nat.mul_zero]; rfl), m, rfl⟩

theorem entry_word (c : Nat) (w : World) (h : c < 256) : Calls Try.prog 14 #[.int .u8 (c : Int)] w fun e w' => e = .returned (.int .u32 ((inB 0 c : Nat) : Int)) ∧ w' = w := by
  have he : inB 0 c = st 8 c := inN_move 8 c h
  rw [he]
  go_enter Try.func14, Try.ntmps14
  go_wp2_with (go_at_call 27; refine (zero8_any c _ (by omega)).mono ?_; rintro e w' ⟨rfl, hw⟩; obtain rfl := hw.symm; clear hw)
  go_ret
  exact ⟨rfl, rfl⟩

theorem inN_succ (k r b : Nat) : inN (k + 1) r b = inN k (bitIn r b) (b / 2) := rfl

theorem bit_one (x y : Nat) (h : x < 2 ^ 32) (hne : ((x : Int) % 2 != (y : Int) % 2) = true) : bits .xor .u32 ((x : Int) / 2) 2197175160 = ((bitIn x y : Nat) : Int) := by
  have hx := xor_mod2 x y
  have hne' : (x : Int) % 2 ≠ (y : Int) % 2 := by simpa using hne
  rw [half_nat, show (2197175160 : Int) = ((poly : Nat) : Int) from rfl, xor32 _ _ (by omega) (by decide), bitIn, sel, if_pos (by omega)]

theorem bit_none (x y : Nat) (hne : ((x : Int) % 2 != (y : Int) % 2) = false) : (x : Int) / 2 = ((bitIn x y : Nat) : Int) := by
  have hx := xor_mod2 x y
  have hne' : (x : Int) % 2 = (y : Int) % 2 := by simpa using hne
  rw [half_nat, bitIn, sel, if_neg (by omega), Nat.xor_zero]

theorem in_ref (r c : Nat) (w : World) (h : r < 2 ^ 32) (hc : c < 256) : Calls Try.prog 26 #[.int .u32 (r : Int), .int .u8 (c : Int)] w fun e w' => e = .returned (.int .u32 ((inB r c : Nat) : Int)) ∧ w' = w := by
  go_enter Try.func26, Try.ntmps26
  go_wp2
  go_loop [0, 1, 5] (fun r' c' i => ∃ (k x y : Nat), k ≤ 8 ∧ x < 2 ^ 32 ∧ y < 256 ∧ inN (8 - k) x y = inB r c ∧ i = .int .i64 k ∧ r' = .int .u32 x ∧ c' = .int .u8 y) (fun _ _ i => 8 - (intOf i).toNat)
  case atStart => exact ⟨0, r, c, by omega, h, hc, rfl, rfl, rfl, rfl⟩
  case round =>
    obtain ⟨k, x, y, hk, hx, hy, hin, rfl, rfl, rfl⟩ := hrel
    by_cases hlt : k < 8
    · have hk8 : (k : Int) < 8 := by omega
      have hin' : inN (8 - (k + 1)) (bitIn x y) (y / 2) = inB r c := by rw [← hin, show 8 - k = 8 - (k + 1) + 1 from by omega, inN_succ]
      have HI := hid hin'
      have hbl := bitIn_lt x y hx
      clear hin hin'
      cases hne : ((x : Int) % 2 != (y : Int) % 2)
      · have HB := hid (bit_none x y hne)
        go_wp2
        refine ⟨⟨k + 1, bitIn x y, y / 2, by omega, hbl, by omega, HI.out, by go_num, by rw [HB.out], by rw [half_nat]⟩, by simp [intOf]; omega⟩
      · have HB := hid (bit_one x y hx hne)
        go_wp2
        refine ⟨⟨k + 1, bitIn x y, y / 2, by omega, hbl, by omega, HI.out, by go_num, by rw [HB.out], by rw [half_nat]⟩, by simp [intOf]; omega⟩
    · have hkn : k = 8 := by omega
      subst hkn
      go_wp2
      go_ret
      exact ⟨ret_int (by rw [← hin]; rfl), rfl⟩

theorem entry_ref (c : Nat) (w : World) (h : c < 256) : Calls Try.prog 15 #[.int .u8 (c : Int)] w fun e w' => e = .returned (.int .u32 ((inB 0 c : Nat) : Int)) ∧ w' = w := by
  go_enter Try.func15, Try.ntmps15
  go_wp2_with (go_at_call 26; refine (in_ref 0 c _ (by omega) h).mono ?_; rintro e w' ⟨rfl, hw⟩; obtain rfl := hw.symm; clear hw)
  go_ret
  exact ⟨rfl, rfl⟩
end Go.Proofs.Ytohbghniangknaa
