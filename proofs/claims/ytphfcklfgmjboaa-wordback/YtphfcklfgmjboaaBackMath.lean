/-
  There and back, as plain mathematics: a varint is read as its number, whatever stands behind; a number turned and turned back is its lowest bits; a zigzag taken back is its number.
-/
import Derived.Test.YtphfcklfgmjboaaOneMath
import Derived.Test.YtphfcklfgmjboaaByteMath
namespace Go.Proofs.Ytphfcklfgmjboaa

theorem bad_false {k : Nat} {c : Int} (h1 : k = 9 → c = 1) (h2 : 0 < k → c ≠ 0) : badB k c = false := by
  apply decide_eq_false
  intro h
  rcases h with ⟨h, h'⟩ | ⟨h, h'⟩
  · exact h' (h1 h)
  · exact h2 h h'

theorem read_vintL (rest : List Int) (f : Nat) : ∀ (k : Nat) (acc y : Int), k + f = 9 → 0 ≤ acc → 0 ≤ y → y < 128 ^ (f + 1) → acc + y * 128 ^ k < 18446744073709551616 → (0 < k → 0 < y) →
    readL acc k (vintL f y ++ rest) = (acc + y * 128 ^ k, (k : Int) + (vintL f y).length, 0) := by
  induction f with
  | zero =>
    intro k acc y hk ha hy hlt hb hpos
    have h9 : k = 9 := by omega
    have hy128 : y < 128 := by simpa using hlt
    have hy1 : y = 1 := by
      have := hpos (by omega)
      subst h9
      omega
    have hnb : badB k y = false := bad_false (fun _ => hy1) (fun h => by omega)
    rw [vintL, List.singleton_append, read_last hnb hy128, Int.emod_eq_of_lt hy hy128]
    simp
  | succ f ih =>
    intro k acc y hk ha hy hlt hb hpos
    by_cases hy128 : y < 128
    · have hnb : badB k y = false := bad_false (fun h => by omega) (fun h => by have := hpos h; omega)
      rw [vint_last _ _ hy128, List.singleton_append, read_last hnb hy128, Int.emod_eq_of_lt hy hy128]
      simp
    · have hnb : badB k (y % 128 + 128) = false := bad_false (fun h => by omega) (fun h => by omega)
      have hsum : acc + (y % 128 + 128) % 128 * 128 ^ k + y / 128 * 128 ^ (k + 1) = acc + y * 128 ^ k := by
        rw [Int.pow_succ, show (y % 128 + 128) % 128 = y % 128 from by omega, Int.add_assoc]
        congr 1
        rw [Int.mul_comm (128 ^ k) 128, ← Int.mul_assoc, ← Int.add_mul]
        congr 1
        omega
      have hp : (0 : Int) < 128 ^ k := Int.pow_pos (by decide)
      have hacc : 0 ≤ acc + (y % 128 + 128) % 128 * 128 ^ k := by
        have : 0 ≤ (y % 128 + 128) % 128 * 128 ^ k := Int.mul_nonneg (by omega) (by omega)
        omega
      have := ih (k + 1) (acc + (y % 128 + 128) % 128 * 128 ^ k) (y / 128) (by omega) hacc (by omega)
        (by rw [Int.ediv_lt_iff_lt_mul (by decide), ← Int.pow_succ]; exact hlt) (by rw [hsum]; exact hb) (fun _ => by omega)
      rw [vint_more _ _ hy128, List.cons_append, read_more hnb (by omega), this, hsum]
      simp only [List.length_cons, Prod.mk.injEq, true_and, and_true]
      omega

theorem read_vint (x : Int) (h0 : 0 ≤ x) (h1 : x < 18446744073709551616) (rest : List Int) : readL 0 0 (vint x ++ rest) = (x, ((vint x).length : Int), 0) := by
  have := read_vintL rest 9 0 0 x (by omega) (by omega) h0 (by omega) (by simpa using h1) (fun h => by omega)
  rw [vint, this]
  simp

theorem unz_zig (y : Int) (_h0 : -9223372036854775808 ≤ y) (_h1 : y ≤ 9223372036854775807) : unzF (zigF y) = y := by
  unfold unzF zigF
  by_cases h : y < 0
  · rw [if_pos h, if_pos (by omega)]; omega
  · rw [if_neg h, if_neg (by omega)]; omega

theorem zig_range (y : Int) (_h0 : -9223372036854775808 ≤ y) (_h1 : y ≤ 9223372036854775807) : 0 ≤ zigF y ∧ zigF y < 18446744073709551616 := by
  unfold zigF; split <;> omega

theorem turnI_range (x b y : Int) (_hx : 0 ≤ x) (hb0 : 8 ≤ b) (hb1 : b ≤ 64) : 0 ≤ Num.turnI x b y ∧ Num.turnI x b y < 18446744073709551616 := by
  have hn0 := Int.emod_nonneg y (show b ≠ 0 from by omega)
  have hn1 := Int.emod_lt_of_pos y (show 0 < b from by omega)
  have hp : (0 : Int) < 2 ^ b.toNat := Int.pow_pos (by decide)
  have hl0 := Int.emod_nonneg x (show (2 : Int) ^ b.toNat ≠ 0 from by omega)
  have hl1 := Int.emod_lt_of_pos x hp
  have h64 : (2 : Nat) ^ b.toNat ≤ 2 ^ 64 := Nat.pow_le_pow_right (n := 2) (by decide) (by omega)
  have hl2 : (x % 2 ^ b.toNat).toNat < 2 ^ b.toNat := by
    have e : ((x % 2 ^ b.toNat).toNat : Int) < ((2 ^ b.toNat : Nat) : Int) := by rw [Num.two_pow_cast]; omega
    omega
  have h := Num.rotN_lt b.toNat (y % b).toNat _ (by omega) hl2
  unfold Num.turnI
  omega

theorem turn_back (x b y : Int) (_hx : 0 ≤ x) (hb0 : 8 ≤ b) (_hb1 : b ≤ 64) : Num.turnI (Num.turnI x b y) b (-y) = lowF x b := by
  have hn0 := Int.emod_nonneg y (show b ≠ 0 from by omega)
  have hn1 := Int.emod_lt_of_pos y (show 0 < b from by omega)
  have hp : (0 : Int) < 2 ^ b.toNat := Int.pow_pos (by decide)
  have hl0 := Int.emod_nonneg x (show (2 : Int) ^ b.toNat ≠ 0 from by omega)
  have hl1 := Int.emod_lt_of_pos x hp
  have hl2 : (x % 2 ^ b.toNat).toNat < 2 ^ b.toNat := by
    have e : ((x % 2 ^ b.toNat).toNat : Int) < ((2 ^ b.toNat : Nat) : Int) := by rw [Num.two_pow_cast]; omega
    omega
  have hr := Num.rotN_lt b.toNat (y % b).toNat _ (by omega) hl2
  unfold Num.turnI lowF
  have e1 : ∀ r : Nat, r < 2 ^ b.toNat → ((r : Int) % 2 ^ b.toNat).toNat = r := by
    intro r hr
    rw [← Num.two_pow_cast, ← Int.natCast_emod, Nat.mod_eq_of_lt hr, Int.toNat_natCast]
  rw [e1 _ hr]
  have fin : Num.rotN b.toNat (-y % b).toNat (Num.rotN b.toNat (y % b).toNat (x % 2 ^ b.toNat).toNat) = (x % 2 ^ b.toNat).toNat := by
    by_cases hz : y % b = 0
    · have hz' : -y % b = 0 := Int.emod_eq_zero_of_dvd (Int.dvd_neg.2 (Int.dvd_of_emod_eq_zero hz))
      rw [hz, hz']
      have e0 : (0 : Int).toNat = 0 := rfl
      rw [e0, Num.rot_zero _ _ hl2, Num.rot_zero _ _ hl2]
    · have hz' : -y % b = b - y % b := by
        have hm := Int.mul_ediv_add_emod y b
        have hy : -y = (b - y % b) + b * (-(y / b) - 1) := by rw [Int.mul_sub, Int.mul_neg, Int.mul_one]; omega
        rw [hy, Int.add_mul_emod_self_left, Int.emod_eq_of_lt (by omega) (by omega)]
      rw [hz', show (b - y % b).toNat = b.toNat - (y % b).toNat from by omega]
      exact Num.rot_back _ _ _ (by omega) hl2
  rw [fin]
  omega

end Go.Proofs.Ytphfcklfgmjboaa
