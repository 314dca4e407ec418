/-
  Plain facts on codes, and on symbols as bits.
-/
import Derived.Test.YtgecoiakhmnilaaBitMath
namespace Go.Proofs.Ytgecoiakhmnilaa
namespace Hf

theorem first_wsum (zs : List Int) (k : Nat) (hk : k ≤ 15) : first zs k * 2 ^ (15 - k) = wsum zs k := by
  induction k with
  | zero => simp [first, wsum]
  | succ k ih =>
    have ih := ih (by omega)
    rw [first, wsum, ← ih, Nat.mul_assoc, show 2 * 2 ^ (15 - (k + 1)) = 2 ^ (15 - k) from by rw [show 15 - k = (15 - (k + 1)) + 1 from by omega, Nat.pow_succ]; omega, Nat.add_mul]
theorem wsum_mono (zs : List Int) (k n : Nat) : wsum zs k ≤ wsum zs (k + n) := by
  induction n with
  | zero => exact Nat.le_refl _
  | succ n ih => rw [← Nat.add_assoc, wsum]; omega
theorem wsum_tal (zs : List Int) (l : List Nat) (h : tal zs = l) (k : Nat) (hk : k ≤ 16) : wsum zs k = ((List.range k).map (fun i => l.getD i 0 * 2 ^ (15 - i))).sum := by
  induction k with
  | zero => rfl
  | succ k ih =>
    rw [wsum, ih (by omega), List.range_succ, List.map_append, List.sum_append, ← h]
    simp only [List.map_cons, List.map_nil, List.sum_cons, List.sum_nil, Nat.add_zero, tal_getD zs k (show k < 16 by omega)]
theorem wsum_top {zs : List Int} (h : checkB zs = true) : wsum zs 16 ≤ 32768 := by
  unfold checkB okT at h
  rw [Bool.and_eq_true, Bool.or_eq_true, Bool.or_eq_true, beq_iff_eq, beq_iff_eq, beq_iff_eq] at h
  rcases h.2 with (h | h) | h
  · omega
  · rw [wsum_tal zs _ h 16 (Nat.le_refl _)]; decide
  · rw [wsum_tal zs _ h 16 (Nat.le_refl _)]; decide
theorem first_cnt_le {zs : List Int} (h : checkB zs = true) (l : Nat) (hl : l ≤ 15) : first zs l + cnt zs l ≤ 2 ^ l := by
  have h1 : (first zs l + cnt zs l) * 2 ^ (15 - l) = wsum zs (l + 1) := by rw [Nat.add_mul, first_wsum zs l hl, wsum]
  have h2 := wsum_mono zs (l + 1) (16 - (l + 1))
  rw [show l + 1 + (16 - (l + 1)) = 16 from by omega] at h2
  have h3 := wsum_top h
  have h4 : (first zs l + cnt zs l) * 2 ^ (15 - l) ≤ 2 ^ l * 2 ^ (15 - l) := by
    rw [h1, ← Nat.pow_add, show l + (15 - l) = 15 from by omega]; omega
  exact Nat.le_of_mul_le_mul_right h4 (Nat.two_pow_pos _)
theorem countP_take_lt (p : Int → Bool) (zs : List Int) (s : Nat) (hs : s < zs.length) (h : p (zs.getD s 0) = true) : (zs.take s).countP p < zs.countP p := by
  have e : zs.countP p = (zs.take s).countP p + (zs.drop s).countP p := by
    rw [← List.countP_append, List.take_append_drop]
  have e2 : zs.drop s = zs.getD s 0 :: zs.drop (s + 1) := by
    rw [List.drop_eq_getElem_cons hs]
    simp [List.getD, List.getElem?_eq_getElem hs]
  rw [e, e2, List.countP_cons, if_pos h]
  omega
theorem cnt_take_lt (zs : List Int) (s l : Nat) (hs : s < zs.length) (hz : zs.getD s 0 = (l : Int)) (h0 : 0 < l) : cnt (zs.take s) l < cnt zs l := by
  unfold cnt
  rw [if_neg (by omega), if_neg (by omega)]
  exact countP_take_lt _ zs s hs (by rw [hz]; simp)
theorem codeN_lt {zs : List Int} (h : checkB zs = true) (s l : Nat) (hs : s < zs.length) (hz : zs.getD s 0 = (l : Int)) (h0 : 0 < l) (hl : l ≤ 15) : codeN zs s < 2 ^ l := by
  have h1 := first_cnt_le h l hl
  have h2 := cnt_take_lt zs s l hs hz h0
  unfold codeN
  rw [hz, Int.toNat_natCast]
  omega
theorem codeF_lt {zs : List Int} (h : checkB zs = true) (s l : Nat) (hs : s < zs.length) (hz : zs.getD s 0 = (l : Int)) (h0 : 0 < l) (hl : l ≤ 15) : codeF zs s = ((codeN zs s : Nat) : Int) := by
  have h1 := codeN_lt h s l hs hz h0 hl
  have h2 : 2 ^ l ≤ 2 ^ 15 := Nat.pow_le_pow_right (by decide) hl
  unfold codeF
  rw [if_pos (by rw [hz]; omega), Nat.mod_eq_of_lt (by omega)]

/-- The number of the first k symbols' bits, and how many they are. -/
def symL (zs ys : List Int) (k : Nat) : Nat := (zs.getD (ys.getD k 0).toNat 0).toNat
def symC (zs ys : List Int) (k : Nat) : Nat := codeN zs (ys.getD k 0).toNat
def encN (zs ys : List Int) : Nat → Nat
  | 0 => 0
  | k + 1 => encN zs ys k * 2 ^ symL zs ys k + symC zs ys k
def encL (zs ys : List Int) : Nat → Nat
  | 0 => 0
  | k + 1 => encL zs ys k + symL zs ys k

/-- A symbol that has a code. -/
def has (zs : List Int) (s : Int) : Bool := decide (0 ≤ s) && decide (s < (zs.length : Int)) && zs.getD s.toNat 0 != 0

/-- Bits with zeros behind them, so that they fill bytes. -/
def padN (n : Nat) : Nat := if n % 8 = 0 then 0 else 8 - n % 8
def packN (N n : Nat) : List Int := fullB (N * 2 ^ padN n) (n + padN n)
theorem packN_rng (N n j : Nat) : 0 ≤ (packN N n).getD j 0 ∧ (packN N n).getD j 0 ≤ 255 := fullB_rng _ _ _
theorem packN_length (N n : Nat) : (packN N n).length = (n + 7) / 8 := by
  unfold packN padN
  rw [fullB_length]
  split <;> omega

theorem encL_le (zs ys : List Int) (hz : ∀ k, zs.getD k 0 ≤ 15) (k : Nat) : encL zs ys k ≤ 15 * k := by
  induction k with
  | zero => simp [encL]
  | succ k ih =>
    have := hz (ys.getD k 0).toNat
    unfold encL symL
    omega
end Hf
end Go.Proofs.Ytgecoiakhmnilaa
