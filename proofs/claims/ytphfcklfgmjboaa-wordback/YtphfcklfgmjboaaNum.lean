/-
  Plain facts on numbers, of which the walks of package word's functions make use: exclusive or with all ones, rotation as quotient and remainder, bits joined as a sum.
-/
import Derived.Laws.BitsAllLaws
import Derived.WalkKit
namespace Go.Proofs.Ytphfcklfgmjboaa.Num

theorem xor_ones (a : Nat) (h : a < 18446744073709551616) : a ^^^ 18446744073709551615 = 18446744073709551615 - a := by
  have e : ((BitVec.ofNat 64 a) ^^^ BitVec.allOnes 64).toNat = a ^^^ 18446744073709551615 := by
    rw [BitVec.toNat_xor, BitVec.toNat_ofNat, BitVec.toNat_allOnes, Nat.mod_eq_of_lt (by omega)]
  rw [← e, BitVec.xor_allOnes, BitVec.toNat_not, BitVec.toNat_ofNat, Nat.mod_eq_of_lt (by omega)]

/-- Zigzag below 0, in the walk's form. -/
theorem zig_neg (x : Int) (h0 : -9223372036854775808 ≤ x) (hx : x < 0) :
    bits .xor .u64 (IntKind.u64.wrap (IntKind.u64.wrap x * 2)) (IntKind.u64.wrap (x / 9223372036854775808)) = -2 * x - 1 := by
  simp only [IntKind.wrap_u64]
  have e1 : (x % 18446744073709551616 * 2) % 18446744073709551616 = ((2 * x + 18446744073709551616).toNat : Int) := by omega
  have e2 : (x / 9223372036854775808) % 18446744073709551616 = ((18446744073709551615 : Nat) : Int) := by omega
  rw [e1, e2, u64_xor_nat _ _ (by omega) (by omega), xor_ones _ (by omega)]
  omega

theorem zig_pos (x : Int) (h0 : 0 ≤ x) (h1 : x ≤ 9223372036854775807) :
    bits .xor .u64 (x * 2) (x / 9223372036854775808) = 2 * x := by
  have e1 : x * 2 = ((2 * x).toNat : Int) := by omega
  have e2 : x / 9223372036854775808 = ((0 : Nat) : Int) := by omega
  rw [e1, e2, u64_xor_nat _ _ (by omega) (by omega), Nat.xor_zero]
  omega

theorem i64_xor_zero (a : Int) (h0 : 0 ≤ a) (h1 : a ≤ 9223372036854775807) : bits .xor .i64 a 0 = a := by
  obtain ⟨n, rfl⟩ := Int.eq_ofNat_of_zero_le h0
  show IntKind.i64.wrap ((BitVec.ofInt 64 (n : Int) ^^^ BitVec.ofInt 64 0).toNat : Int) = _
  rw [BitVec.toNat_xor, ofInt_u64 n (by omega), show (BitVec.ofInt 64 0).toNat = 0 from by decide, Nat.xor_zero]
  simp [IntKind.wrap, IntKind.bits, IntKind.signed]
  omega

theorem i64_xor_ones (a : Int) (h0 : 0 ≤ a) (h1 : a ≤ 9223372036854775807) : bits .xor .i64 a (-1) = -a - 1 := by
  obtain ⟨n, rfl⟩ := Int.eq_ofNat_of_zero_le h0
  show IntKind.i64.wrap ((BitVec.ofInt 64 (n : Int) ^^^ BitVec.ofInt 64 (-1)).toNat : Int) = _
  rw [BitVec.toNat_xor, ofInt_u64 n (by omega), show (BitVec.ofInt 64 (-1)).toNat = 18446744073709551615 from by decide, xor_ones n (by omega)]
  simp [IntKind.wrap, IntKind.bits, IntKind.signed]
  omega

theorem and_one (x : Int) (h0 : 0 ≤ x) (h1 : x < 18446744073709551616) : bits .and .u64 x 1 = x % 2 := by
  obtain ⟨n, rfl⟩ := Int.eq_ofNat_of_zero_le h0
  rw [show (1 : Int) = ((1 : Nat) : Int) from rfl, u64_and_nat _ _ (by omega) (by omega), nat_mask1]
  omega

/-- Shifted to the left and back: the lowest bits. -/
theorem low_shift (x b : Int) (h0 : 0 ≤ x) (hb0 : 0 ≤ b) (hb1 : b ≤ 64) :
    IntKind.u64.wrap (x * 2 ^ (64 - b).toNat) / 2 ^ (64 - b).toNat = x % 2 ^ b.toNat := by
  obtain ⟨n, rfl⟩ := Int.eq_ofNat_of_zero_le h0
  obtain ⟨c, rfl⟩ := Int.eq_ofNat_of_zero_le hb0
  have hc : c ≤ 64 := by omega
  rw [IntKind.wrap_u64, show ((64 : Int) - (c : Int)).toNat = 64 - c from by omega, Int.toNat_natCast]
  have e : ((n * 2 ^ (64 - c) % 18446744073709551616 / 2 ^ (64 - c) : Nat) : Int) = ((n % 2 ^ c : Nat) : Int) := by
    congr 1
    have h64 : 18446744073709551616 = 2 ^ c * 2 ^ (64 - c) := by
      rw [← Nat.pow_add, show c + (64 - c) = 64 from by omega]
    rw [h64, Nat.mul_mod_mul_right, Nat.mul_div_cancel _ (Nat.two_pow_pos _)]
  simpa using e

/-- A row of w bits, turned to the left by n places. -/
def rotN (w n l : Nat) : Nat := l % 2 ^ (w - n) * 2 ^ n + l / 2 ^ (w - n)

theorem pow_split (w n : Nat) (hn : n ≤ w) : 2 ^ n * 2 ^ (w - n) = 2 ^ w := by
  rw [← Nat.pow_add, show n + (w - n) = w from by omega]

theorem join_lt {P Q r a : Nat} (hr : r < Q) (ha : a < P) : r * P + a < P * Q := by
  have h1 : (r + 1) * P ≤ Q * P := Nat.mul_le_mul_right P hr
  rw [Nat.add_mul, Nat.mul_comm Q P] at h1
  omega

theorem rot_high (w n l : Nat) (hn : n ≤ w) (hl : l < 2 ^ w) : l / 2 ^ (w - n) < 2 ^ n := by
  rw [Nat.div_lt_iff_lt_mul (Nat.two_pow_pos _), pow_split w n hn]; exact hl

theorem rotN_lt (w n l : Nat) (hn : n ≤ w) (hl : l < 2 ^ w) : rotN w n l < 2 ^ w := by
  have h := join_lt (Nat.mod_lt l (Nat.two_pow_pos (w - n))) (rot_high w n l hn hl)
  rw [pow_split w n hn] at h
  exact h

theorem rot_zero (w l : Nat) (hl : l < 2 ^ w) : rotN w 0 l = l := by
  simp [rotN, Nat.mod_eq_of_lt hl, Nat.div_eq_of_lt hl]

theorem rot_or (w n l : Nat) (hw : w ≤ 64) (hn : n ≤ w) (hl : l < 2 ^ w) : ((l * 2 ^ n % 18446744073709551616) ||| (l / 2 ^ (w - n))) % 2 ^ w = rotN w n l := by
  have hdiv : l * 2 ^ n % 18446744073709551616 % 2 ^ n = 0 := by
    have h64 : 18446744073709551616 = 2 ^ (64 - n) * 2 ^ n := by
      rw [← Nat.pow_add, show 64 - n + n = 64 from by omega]
    rw [h64, Nat.mul_mod_mul_right, Nat.mul_mod_left]
  have hd64 : 2 ^ w ∣ 18446744073709551616 := Nat.pow_dvd_pow (n := 64) 2 hw
  rw [nat_join n _ _ hdiv (rot_high w n l hn hl), Nat.add_mod, Nat.mod_mod_of_dvd _ hd64, ← Nat.add_mod]
  have e : l * 2 ^ n + l / 2 ^ (w - n) = rotN w n l + 2 ^ w * (l / 2 ^ (w - n)) := by
    have h := Nat.div_add_mod l (2 ^ (w - n))
    unfold rotN
    rw [← pow_split w n hn]
    generalize hP : 2 ^ n = P at *
    generalize hQ : 2 ^ (w - n) = Q at *
    generalize l / Q = a at *
    generalize l % Q = r at *
    rw [← h, Nat.add_mul, Nat.mul_comm (Q * a) P, ← Nat.mul_assoc P Q a]
    omega
  rw [e, Nat.add_mul_mod_self_left, Nat.mod_eq_of_lt (rotN_lt w n l hn hl)]

theorem rot_step (w n l : Nat) (hn : n + 1 ≤ w) (hl : l < 2 ^ w) : rotN w n l * 2 % 2 ^ w + rotN w n l / 2 ^ (w - 1) = rotN w (n + 1) l := by
  have hQ : 2 ^ (w - n) = 2 ^ (w - (n + 1)) * 2 := by rw [← Nat.pow_succ, show (w - (n + 1)).succ = w - n from by omega]
  have hP : 2 ^ (n + 1) = 2 ^ n * 2 := Nat.pow_succ _ _
  have hM : 2 ^ (w - 1) = 2 ^ n * 2 ^ (w - (n + 1)) := by rw [← Nat.pow_add, show n + (w - (n + 1)) = w - 1 from by omega]
  have hW : 2 ^ w = 2 ^ (w - 1) * 2 := by rw [← Nat.pow_succ, show (w - 1).succ = w from by omega]
  have ha : l / 2 ^ (w - (n + 1)) < 2 ^ (n + 1) := rot_high w (n + 1) l hn hl
  have hr := Nat.mod_lt l (Nat.two_pow_pos (w - (n + 1)))
  unfold rotN
  rw [hQ, Nat.mod_mul, ← Nat.div_div_eq_div_mul, hW, hM]
  rw [hP] at ha ⊢
  generalize 2 ^ (w - (n + 1)) = Q at *
  generalize 2 ^ n = P at *
  generalize l / Q = a at *
  generalize l % Q = r at *
  have hs : r * P + a / 2 < P * Q := join_lt hr (by omega)
  have e1 : (r + Q * (a % 2)) * P + a / 2 = P * Q * (a % 2) + (r * P + a / 2) := by
    rw [Nat.add_mul, Nat.mul_comm (Q * (a % 2)) P, ← Nat.mul_assoc]; omega
  rw [e1]
  have e2 : (P * Q * (a % 2) + (r * P + a / 2)) / (P * Q) = a % 2 := by
    rw [Nat.mul_add_div (by omega), Nat.div_eq_of_lt hs]; omega
  have e3 : (P * Q * (a % 2) + (r * P + a / 2)) * 2 % (P * Q * 2) = (r * P + a / 2) * 2 := by
    rw [Nat.add_mul, Nat.mul_right_comm, Nat.mul_add_mod, Nat.mod_eq_of_lt (by omega)]
  rw [e2, e3, ← Nat.mul_assoc]
  omega

theorem rot_back (w n l : Nat) (hn : n ≤ w) (hl : l < 2 ^ w) : rotN w (w - n) (rotN w n l) = l := by
  have ha := rot_high w n l hn hl
  have h := Nat.div_add_mod l (2 ^ (w - n))
  unfold rotN
  rw [show w - (w - n) = n from by omega]
  generalize 2 ^ n = P at *
  generalize 2 ^ (w - n) = Q at *
  generalize l / Q = a at *
  generalize l % Q = r at *
  have e1 : (r * P + a) % P = a := by rw [Nat.mul_comm, Nat.mul_add_mod, Nat.mod_eq_of_lt ha]
  have e2 : (r * P + a) / P = r := by rw [Nat.mul_comm, Nat.mul_add_div (by omega), Nat.div_eq_of_lt ha]; omega
  rw [e1, e2, Nat.mul_comm]
  exact h

/-- Go's remainder, brought above 0: the number of places, modulo the width. -/
theorem places (y b : Int) (hb : 0 < b) : (y.tmod b + b).tmod b = y % b := by
  have h1 := Int.tmod_lt_of_pos y hb
  have h2 : -b < y.tmod b := by
    rw [Int.tmod_eq_emod]; have := Int.emod_nonneg y (show b ≠ 0 from by omega); split <;> omega
  rw [Int.tmod_eq_emod_of_nonneg (by omega), Int.add_emod_right, Int.tmod_eq_emod]
  split
  · simp
  · rw [show (b.natAbs : Int) = b from by omega]; simp

theorem places64 (y b : Int) (hb : 0 < b) (hb1 : b ≤ 64) : (RowKit.wrap64 (y.tmod b + b)).tmod b = y % b := by
  have h1 := Int.tmod_lt_of_pos y hb
  have h2 : -b < y.tmod b := by
    rw [Int.tmod_eq_emod]; have := Int.emod_nonneg y (show b ≠ 0 from by omega); split <;> omega
  have e : RowKit.wrap64 (y.tmod b + b) = y.tmod b + b := by unfold RowKit.wrap64; omega
  rw [e, places y b hb]

def turnI (x b y : Int) : Int := ((rotN b.toNat (y % b).toNat (x % 2 ^ b.toNat).toNat : Nat) : Int)

theorem two_pow_cast (n : Nat) : ((2 ^ n : Nat) : Int) = 2 ^ n := by simp

/-- What word.Turn hands to its last call, in the walk's form: the lowest bits of it are the turned number. -/
theorem turn_or (x b n : Int) (h0 : 0 ≤ x) (hb0 : 0 ≤ b) (hb1 : b ≤ 64) (hn0 : 0 ≤ n) (hn1 : n ≤ b) :
    0 ≤ bits .or .u64 (IntKind.u64.wrap (x % 2 ^ b.toNat * 2 ^ n.toNat)) (x % 2 ^ b.toNat / 2 ^ (b - n).toNat) ∧
    bits .or .u64 (IntKind.u64.wrap (x % 2 ^ b.toNat * 2 ^ n.toNat)) (x % 2 ^ b.toNat / 2 ^ (b - n).toNat) < 18446744073709551616 ∧
    bits .or .u64 (IntKind.u64.wrap (x % 2 ^ b.toNat * 2 ^ n.toNat)) (x % 2 ^ b.toNat / 2 ^ (b - n).toNat) % 2 ^ b.toNat = ((rotN b.toNat n.toNat (x % 2 ^ b.toNat).toNat : Nat) : Int) := by
  obtain ⟨m, rfl⟩ := Int.eq_ofNat_of_zero_le h0
  obtain ⟨c, rfl⟩ := Int.eq_ofNat_of_zero_le hb0
  obtain ⟨k, rfl⟩ := Int.eq_ofNat_of_zero_le hn0
  have hc : c ≤ 64 := by omega
  have hk : k ≤ c := by omega
  rw [show ((c : Int) - (k : Int)).toNat = c - k from by omega]
  simp only [Int.toNat_natCast, IntKind.wrap_u64]
  have el : ((m : Int) % 2 ^ c) = ((m % 2 ^ c : Nat) : Int) := by simp
  have hl : m % 2 ^ c < 2 ^ c := Nat.mod_lt _ (Nat.two_pow_pos _)
  have h64 : (2 : Nat) ^ c ≤ 18446744073709551616 := Nat.pow_le_pow_right (n := 2) (by decide) hc
  rw [el]
  generalize m % 2 ^ c = l at *
  have e1 : (l : Int) * 2 ^ k % 18446744073709551616 = ((l * 2 ^ k % 18446744073709551616 : Nat) : Int) := by simp
  have e2 : (l : Int) / 2 ^ (c - k) = ((l / 2 ^ (c - k) : Nat) : Int) := by simp
  have hq : l / 2 ^ (c - k) < 18446744073709551616 := Nat.lt_of_le_of_lt (Nat.div_le_self _ _) (by omega)
  have hp : l * 2 ^ k % 18446744073709551616 < 18446744073709551616 := Nat.mod_lt _ (by decide)
  rw [e1, e2, u64_or_nat _ _ hp hq]
  have hor : (l * 2 ^ k % 18446744073709551616 ||| l / 2 ^ (c - k)) < 2 ^ 64 := Nat.or_lt_two_pow hp hq
  refine ⟨by omega, by omega, ?_⟩
  have e3 := rot_or c k l hc hk hl
  rw [Int.toNat_natCast, ← e3]
  simp

end Go.Proofs.Ytphfcklfgmjboaa.Num
