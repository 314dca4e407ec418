/-
  Registers as polynomials: the product by which many bytes 0 go in at once.
-/
import Derived.Test.YtohbghniangknaaCrcMath
namespace Go.Proofs.Ytohbghniangknaa.Crc

/-- k bits 0 in. -/
def st (k r : Nat) : Nat := inN k r 0

theorem st_zero (r : Nat) : st 0 r = r := rfl
theorem st_succ (k r : Nat) : st (k + 1) r = st k (bitIn r 0) := rfl
theorem st_snoc (k r : Nat) : st (k + 1) r = bitIn (st k r) 0 := by
  unfold st; rw [inN_snoc, Nat.zero_div]
theorem st_add (j k r : Nat) : st (j + k) r = st k (st j r) := by
  induction k with
  | zero => rfl
  | succ k ih => rw [← Nat.add_assoc, st_snoc, st_snoc, ih]
theorem st_lt (k r : Nat) (h : r < 2 ^ 32) : st k r < 2 ^ 32 := inN_lt k r 0 h
theorem st_xor (k r s : Nat) : st k (r ^^^ s) = st k r ^^^ st k s := by
  have := inN_xor k r s 0 0
  rwa [Nat.xor_zero] at this

theorem inR_zeros (n r : Nat) : inR r (List.replicate n 0) = st (8 * n) r := by
  induction n generalizing r with
  | zero => rfl
  | succ n ih =>
    rw [List.replicate_succ, inR_cons, ih, show 8 * (n + 1) = 8 + 8 * n from by omega, st_add]
    rfl

theorem bitIn_zero (r : Nat) : bitIn r 0 = r / 2 ^^^ sel r := by rw [bitIn, Nat.xor_zero]

/-- b, where the lowest bit of t is 1. -/
def pick (b t : Nat) : Nat := b * (t % 2)
/-- The k lowest bits of a by b, the lowest one first. -/
def mulN (a b : Nat) : Nat → Nat
  | 0 => 0
  | k + 1 => bitIn (mulN a b k) 0 ^^^ pick b (a / 2 ^ k)
def mul (a b : Nat) : Nat := mulN a b 32

theorem pick_lt (b t : Nat) (h : b < 2 ^ 32) : pick b t < 2 ^ 32 := by
  unfold pick
  rcases Nat.mod_two_eq_zero_or_one t with e | e <;> rw [e] <;> omega

theorem mulN_lt (a b k : Nat) (h : b < 2 ^ 32) : mulN a b k < 2 ^ 32 := by
  induction k with
  | zero => exact Nat.two_pow_pos 32
  | succ k ih => exact Nat.xor_lt_two_pow (bitIn_lt _ _ ih) (pick_lt b _ h)

theorem bitIn_pick (b t : Nat) : bitIn (pick b t) 0 = pick (bitIn b 0) t := by
  unfold pick
  rcases Nat.mod_two_eq_zero_or_one t with e | e <;> rw [e]
  · rw [Nat.mul_zero, Nat.mul_zero]; rfl
  · rw [Nat.mul_one, Nat.mul_one]

theorem mulN_step (a b k : Nat) : mulN a (bitIn b 0) k = bitIn (mulN a b k) 0 := by
  induction k with
  | zero => rw [mulN, mulN]; decide
  | succ k ih =>
    have := bitIn_xor (bitIn (mulN a b k) 0) (pick b (a / 2 ^ k)) 0 0
    rw [Nat.xor_zero] at this
    rw [mulN, mulN, this, ih, bitIn_pick]

theorem mulN_st (a b k j : Nat) : mulN a (st j b) k = st j (mulN a b k) := by
  induction j with
  | zero => rfl
  | succ j ih => rw [st_snoc, st_snoc, mulN_step, ih]

theorem xor_apart (i x y : Nat) (hx : x < 2 ^ i) (hy : y % 2 ^ i = 0) : x ^^^ y = x + y := by
  have h1 : y ||| x = y + x := nat_join i y x hy hx
  have h3 : x ^^^ y = y ||| x := by
    apply Nat.eq_of_testBit_eq
    intro j
    rw [Nat.testBit_xor, Nat.testBit_or]
    by_cases hj : j < i
    · have : y.testBit j = false := by
        have hy' : y = 2 ^ i * (y / 2 ^ i) := by have := Nat.div_add_mod y (2 ^ i); omega
        rw [hy', Nat.testBit_two_pow_mul]
        simp; omega
      rw [this]; simp
    · have : x.testBit j = false := Nat.testBit_lt_two_pow (Nat.lt_of_lt_of_le hx (Nat.pow_le_pow_right (n := 2) (by decide) (by omega)))
      rw [this]; simp
  rw [h3, h1]; omega

theorem mulN_one (a : Nat) : ∀ k, k ≤ 32 → mulN a (2 ^ 31) k = a % 2 ^ k * 2 ^ (32 - k) := by
  intro k
  induction k with
  | zero => intro _; rw [Nat.pow_zero, Nat.mod_one, Nat.zero_mul]; rfl
  | succ k ih =>
    intro hk
    rw [mulN, ih (by omega), bitIn_zero]
    have e1 : a % 2 ^ k * 2 ^ (32 - k) = 2 * (a % 2 ^ k * 2 ^ (31 - k)) := by
      rw [show 32 - k = (31 - k) + 1 from by omega, Nat.pow_succ, ← Nat.mul_assoc, Nat.mul_comm]
    rw [e1, sel, if_neg (by omega), Nat.xor_zero, Nat.mul_div_cancel_left _ (by decide), show 32 - (k + 1) = 31 - k from by omega]
    have hlt : a % 2 ^ k * 2 ^ (31 - k) < 2 ^ 31 := by
      have h1 : a % 2 ^ k < 2 ^ k := Nat.mod_lt _ (Nat.two_pow_pos k)
      have h2 : a % 2 ^ k * 2 ^ (31 - k) < 2 ^ k * 2 ^ (31 - k) := Nat.mul_lt_mul_of_pos_right h1 (Nat.two_pow_pos _)
      rwa [← Nat.pow_add, show k + (31 - k) = 31 from by omega] at h2
    have hp : pick (2 ^ 31) (a / 2 ^ k) % 2 ^ 31 = 0 := by unfold pick; exact Nat.mul_mod_right _ _
    rw [xor_apart 31 _ _ hlt hp, Nat.mod_pow_succ, Nat.add_mul, pick]
    have e2 : 2 ^ k * (a / 2 ^ k % 2) * 2 ^ (31 - k) = 2 ^ 31 * (a / 2 ^ k % 2) := by
      rw [Nat.mul_right_comm, ← Nat.pow_add, show k + (31 - k) = 31 from by omega]
    rw [e2]

theorem mul_one (a : Nat) (h : a < 2 ^ 32) : mul a (2 ^ 31) = a := by
  rw [mul, mulN_one a 32 (Nat.le_refl _), Nat.mod_eq_of_lt h, Nat.sub_self, Nat.pow_zero, Nat.mul_one]

/-- What x to the j makes of a register. -/
theorem mul_st (a j : Nat) (h : a < 2 ^ 32) : mul a (st j (2 ^ 31)) = st j a := by
  rw [mul, mulN_st]
  exact congrArg (st j) (mul_one a h)

/-- A square. -/
theorem mul_sq (j : Nat) : mul (st j (2 ^ 31)) (st j (2 ^ 31)) = st (2 * j) (2 ^ 31) := by
  rw [mul_st _ _ (st_lt j _ (by decide)), ← st_add, Nat.two_mul]

/-- One bit of n: half of n is left, at the square. -/
theorem st_half (j n r : Nat) : st (j * n) r = st (2 * j * (n / 2)) (if n % 2 = 1 then st j r else r) := by
  have hn := Nat.div_add_mod n 2
  rcases Nat.mod_two_eq_zero_or_one n with e | e
  · rw [e, if_neg (by omega)]
    rw [e] at hn
    congr 1
    rw [← hn, Nat.add_zero, Nat.mul_div_cancel_left _ (by decide), Nat.mul_comm 2 j, Nat.mul_assoc]
  · rw [e, if_pos rfl, ← st_add]
    rw [e] at hn
    congr 1
    have : n = 2 * (n / 2) + 1 := by omega
    conv => lhs; rw [this]
    rw [Nat.mul_add, Nat.mul_one, Nat.add_comm, Nat.mul_comm 2 j, Nat.mul_assoc]

/-! A byte 0 out -/

/-- One bit 0 out, as the code says it. -/
theorem bitOut_top (r : Nat) (h : r < 2 ^ 32) : bitOut r 0 = 2 * ((r ^^^ poly * (r / 2 ^ 31)) % 2 ^ 31) + r / 2 ^ 31 := by
  unfold bitOut
  by_cases ht : r < 2 ^ 31
  · rw [if_pos ht, show r / 2 ^ 31 = 0 from by omega, Nat.mul_zero, Nat.xor_zero]; omega
  · have hl := low_of_top r h (by omega)
    rw [if_neg ht, show r / 2 ^ 31 = 1 from by omega, Nat.mul_one, Nat.mod_eq_of_lt hl]

/-- b goes out of the register behind its bits, as if b were in the register ahead. -/
theorem outN_move (k : Nat) : ∀ r b : Nat, b < 2 ^ k → r < 2 ^ 32 → k ≤ 32 → outN k r b = outN k r 0 ^^^ b := by
  intro r b hb hr hk
  have hb32 : b < 2 ^ 32 := Nat.lt_of_lt_of_le hb (Nat.pow_le_pow_right (n := 2) (by decide) hk)
  obtain ⟨h1, h2⟩ := inN_out k r 0 hr
  have h3 : inN k (outN k r 0 ^^^ b) b = r := by
    rw [inN_join k _ b hb, xor_can, h1]
  have h4 := outN_in k (outN k r 0 ^^^ b) b (Nat.xor_lt_two_pow h2 hb32)
  rw [h3] at h4
  exact h4

theorem outB_move (r b : Nat) (hb : b < 256) (hr : r < 2 ^ 32) : outB r b = outB r 0 ^^^ b := outN_move 8 r b hb hr (by decide)

/-- k bits 0 out. -/
theorem outN_zero_snoc (k : Nat) : ∀ r : Nat, outN (k + 1) r 0 = bitOut (outN k r 0) 0 := by
  induction k with
  | zero => intro r; rw [show outN (0 + 1) r 0 = bitOut r (0 / 2 ^ 0) from rfl, Nat.zero_div]; rfl
  | succ k ih => intro r; rw [outN, ih, show outN (k + 1) r 0 = outN k (bitOut r (0 / 2 ^ k)) 0 from rfl, Nat.zero_div, Nat.zero_div]

end Go.Proofs.Ytohbghniangknaa.Crc
