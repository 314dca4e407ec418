/-
  Plain facts on rows of bits, and how they stand in bytes.
-/
import Derived.Test.YtgecoiakhmnilaaEncMath
namespace Go.Proofs.Ytgecoiakhmnilaa
namespace Hf

/-- The number of the first k bits. -/
def nB (bs : List Bool) : Nat → Nat
  | 0 => 0
  | k + 1 => nB bs k * 2 + (if bs.getD k false then 1 else 0)

def bitAt (c n i : Nat) : Bool := c / 2 ^ (n - 1 - i) % 2 == 1
def bitsL (c n : Nat) : List Bool := (List.range n).map (bitAt c n)
theorem bitsL_length (c n : Nat) : (bitsL c n).length = n := by simp [bitsL]
theorem bitsL_getD (c n i : Nat) (h : i < n) : (bitsL c n).getD i false = bitAt c n i := by simp [bitsL, List.getD, h]
/-- The last j bits of a code. -/
def backL (c n j : Nat) : List Bool := (List.range n).map (fun i => if n - j ≤ i then bitAt c n i else false)
theorem backL_length (c n j : Nat) : (backL c n j).length = n := by simp [backL]
theorem backL_getD (c n j i : Nat) (h : i < n) : (backL c n j).getD i false = if n - j ≤ i then bitAt c n i else false := by simp [backL, List.getD, h]
theorem bl_ext {l m : List Bool} (h : l.length = m.length) (he : ∀ i, i < l.length → l.getD i false = m.getD i false) : l = m := by
  refine List.ext_getElem h (fun i h1 h2 => ?_)
  have := he i h1
  simpa [List.getD, List.getElem?_eq_getElem h1, List.getElem?_eq_getElem h2] using this
theorem bgetD_set (l : List Bool) (i j : Nat) (v : Bool) (h : i < l.length) : (l.set i v).getD j false = if j = i then v else l.getD j false := by
  simp only [List.getD, List.getElem?_set]
  by_cases e : i = j
  · subst e; simp [h]
  · rw [if_neg e, if_neg (fun x => e x.symm)]
theorem backL_zero (c n : Nat) : backL c n 0 = List.replicate n false := by
  refine bl_ext (by simp [backL]) (fun i hi => ?_)
  rw [backL_length] at hi
  rw [backL_getD _ _ _ _ hi, if_neg (by omega)]
  simp [List.getD, hi]
theorem backL_full (c n : Nat) : backL c n n = bitsL c n := by
  refine bl_ext (by simp [backL, bitsL]) (fun i hi => ?_)
  rw [backL_length] at hi
  rw [backL_getD _ _ _ _ hi, bitsL_getD _ _ _ hi, if_pos (by omega)]
theorem backL_set (c n j : Nat) (hj : j < n) : (backL c n j).set (n - 1 - j) (c / 2 ^ j % 2 == 1) = backL c n (j + 1) := by
  refine bl_ext (by simp [backL]) (fun i hi => ?_)
  rw [List.length_set, backL_length] at hi
  rw [bgetD_set _ _ _ _ (by rw [backL_length]; omega), backL_getD _ _ _ _ hi, backL_getD _ _ _ _ hi]
  by_cases e : i = n - 1 - j
  · rw [if_pos e, if_pos (by omega)]
    unfold bitAt
    rw [show n - 1 - i = j from by omega]
  · rw [if_neg e]
    by_cases h : n - j ≤ i
    · rw [if_pos h, if_pos (by omega)]
    · rw [if_neg h, if_neg (by omega)]

theorem bitAt_num (c n i : Nat) : (if bitAt c n i then 1 else 0) = c / 2 ^ (n - 1 - i) % 2 := by
  unfold bitAt
  by_cases h : c / 2 ^ (n - 1 - i) % 2 = 1
  · simp [h]
  · simp [h]; omega
theorem nB_bits (c n : Nat) (hc : c < 2 ^ n) (j : Nat) (hj : j ≤ n) : nB (bitsL c n) j = c / 2 ^ (n - j) := by
  induction j with
  | zero => rw [nB, Nat.sub_zero, Nat.div_eq_of_lt hc]
  | succ j ih =>
    rw [nB, ih (by omega), bitsL_getD _ _ _ (by omega), bitAt_num]
    rw [show n - j = (n - (j + 1)) + 1 from by omega, show n - 1 - j = n - (j + 1) from by omega, Nat.pow_succ, ← Nat.div_div_eq_div_mul]
    omega
theorem nB_take (xs ys : List Bool) (j : Nat) (hj : j ≤ xs.length) : nB (xs ++ ys) j = nB xs j := by
  induction j with
  | zero => rfl
  | succ j ih =>
    rw [nB, nB, ih (by omega)]
    have e : (xs ++ ys).getD j false = xs.getD j false := by simp [List.getD, List.getElem?_append_left (show j < xs.length from by omega)]
    rw [e]
theorem nB_append (xs ys : List Bool) (j : Nat) : nB (xs ++ ys) (xs.length + j) = nB xs xs.length * 2 ^ j + nB ys j := by
  induction j with
  | zero => simp [nB, nB_take xs ys xs.length (Nat.le_refl _)]
  | succ j ih =>
    rw [← Nat.add_assoc, nB, ih]
    have e : (xs ++ ys).getD (xs.length + j) false = ys.getD j false := by simp [List.getD, List.getElem?_append_right (show xs.length ≤ xs.length + j from by omega)]
    rw [e, nB, Nat.pow_succ, Nat.add_mul, Nat.mul_assoc]
    omega
theorem nB_code (xs : List Bool) (c l : Nat) (hc : c < 2 ^ l) : nB (xs ++ bitsL c l) (xs ++ bitsL c l).length = nB xs xs.length * 2 ^ l + c := by
  rw [List.length_append, bitsL_length, nB_append, nB_bits c l hc l (Nat.le_refl _)]
  simp

/-- The bits of the first k symbols. -/
def bitsE (zs ys : List Int) : Nat → List Bool
  | 0 => []
  | k + 1 => bitsE zs ys k ++ bitsL (symC zs ys k) (symL zs ys k)
theorem bitsE_length (zs ys : List Int) (k : Nat) : (bitsE zs ys k).length = encL zs ys k := by
  induction k with
  | zero => rfl
  | succ k ih => rw [bitsE, List.length_append, ih, bitsL_length, encL]
theorem bitsE_num (zs ys : List Int) (k : Nat) (h : ∀ j, j < k → symC zs ys j < 2 ^ symL zs ys j) : nB (bitsE zs ys k) (bitsE zs ys k).length = encN zs ys k := by
  induction k with
  | zero => rfl
  | succ k ih =>
    rw [bitsE, nB_code _ _ _ (h k (by omega)), ih (fun j hj => h j (by omega)), encN]

theorem pad_up (i : Nat) : padN (i + 1) = 7 - i % 8 := by
  unfold padN; split <;> omega
theorem packN_up (M i : Nat) : packN M (i + 1) = fullB (M * 2 ^ (7 - i % 8)) (8 * (i / 8 + 1)) := by
  unfold packN
  rw [pad_up, show i + 1 + (7 - i % 8) = 8 * (i / 8 + 1) from by omega]
theorem pack_even_old (N i : Nat) (h : i % 8 ≠ 0) : packN (N * 2) (i + 1) = packN N i := by
  rw [packN_up]
  unfold packN padN
  rw [if_neg h, show i + (8 - i % 8) = 8 * (i / 8 + 1) from by omega, Nat.mul_assoc, show 2 * 2 ^ (7 - i % 8) = 2 ^ (8 - i % 8) from by rw [show 8 - i % 8 = (7 - i % 8) + 1 from by omega, Nat.pow_succ]; omega]
theorem fullB_cut (N q : Nat) : fullB (N * 256) (8 * (q + 1)) = fullB N (8 * q) ++ [0] := by
  refine il_ext (by rw [List.length_append, fullB_length, fullB_length]; simp) (fun j hj => ?_)
  rw [fullB_length] at hj
  have hq : 8 * (q + 1) / 8 = q + 1 := by omega
  have hq2 : 8 * q / 8 = q := by omega
  rw [hq] at hj
  rw [fullB_getD _ _ _ (by omega)]
  by_cases h : j < q
  · have e : (fullB N (8 * q) ++ [0]).getD j 0 = (fullB N (8 * q)).getD j 0 := by
      simp [List.getD, List.getElem?_append_left (show j < (fullB N (8 * q)).length from by rw [fullB_length]; omega)]
    rw [e, fullB_getD _ _ _ (by omega)]
    have hd := div_up N 0 8 (8 * q - 8 * (j + 1)) (by decide)
    rw [Nat.add_zero, show 8 * q - 8 * (j + 1) + 8 = 8 * (q + 1) - 8 * (j + 1) from by omega] at hd
    rw [show (256 : Nat) = 2 ^ 8 from rfl, hd]
  · obtain rfl : j = q := by omega
    have e : (fullB N (8 * j) ++ [0]).getD j 0 = 0 := by
      simp [List.getD, fullB_length, hq2]
    rw [e, Nat.sub_self, Nat.pow_zero, Nat.div_one, Nat.mul_mod_left]
    rfl
theorem pack_even_new (N i : Nat) (h : i % 8 = 0) : packN (N * 2) (i + 1) = packN N i ++ [0] := by
  rw [packN_up, h, Nat.mul_assoc, show 2 * 2 ^ (7 - 0) = 256 from rfl, fullB_cut]
  unfold packN padN
  rw [if_pos h, Nat.pow_zero, Nat.mul_one, Nat.add_zero, show 8 * (i / 8) = i from by omega]
theorem last_byte (N k : Nat) (hk : k < 8) : (N * 2 + 1) * 2 ^ (7 - k) % 256 = N * 2 * 2 ^ (7 - k) % 256 + 2 ^ (7 - k) := by
  match k, hk with
  | 0, _ => omega
  | 1, _ => omega
  | 2, _ => omega
  | 3, _ => omega
  | 4, _ => omega
  | 5, _ => omega
  | 6, _ => omega
  | 7, _ => omega
theorem high_byte (N k e : Nat) (hk : k < 8) : (N * 2 + 1) * 2 ^ (7 - k) / 2 ^ (e + 8) = N * 2 * 2 ^ (7 - k) / 2 ^ (e + 8) := by
  have e2 : 2 ^ (8 - k) = 2 * 2 ^ (7 - k) := by rw [show 8 - k = (7 - k) + 1 from by omega, Nat.pow_succ]; omega
  have e1 : (N * 2 + 1) * 2 ^ (7 - k) = N * 2 ^ (8 - k) + 2 ^ (7 - k) := by rw [Nat.add_mul, e2, Nat.mul_assoc]; omega
  have e3 : N * 2 * 2 ^ (7 - k) = N * 2 ^ (8 - k) + 0 := by rw [e2, Nat.mul_assoc]; omega
  rw [e1, e3, show e + 8 = (e + k) + (8 - k) from by omega, div_up _ _ _ _ (by rw [e2]; have := Nat.two_pow_pos (7 - k); omega), div_up _ _ _ _ (Nat.two_pow_pos _)]
theorem pack_odd (N i : Nat) : packN (N * 2 + 1) (i + 1) = (packN (N * 2) (i + 1)).set (i / 8) ((packN (N * 2) (i + 1)).getD (i / 8) 0 + ((2 ^ (7 - i % 8) : Nat) : Int)) := by
  have hq : 8 * (i / 8 + 1) / 8 = i / 8 + 1 := by omega
  refine il_ext (by rw [List.length_set, packN_length, packN_length]) (fun j hj => ?_)
  rw [packN_length] at hj
  have hset : ∀ (l : List Int) (a b : Nat) (v : Int), a < l.length → (l.set a v).getD b 0 = if b = a then v else l.getD b 0 := by
    intro l a b v h
    simp only [List.getD, List.getElem?_set]
    by_cases e : a = b
    · subst e; simp [h]
    · rw [if_neg e, if_neg (fun x => e x.symm)]
  rw [hset _ _ _ _ (by rw [packN_length]; omega), packN_up, packN_up, fullB_getD _ _ _ (by omega), fullB_getD _ _ _ (by omega), fullB_getD _ _ _ (by omega)]
  by_cases e : j = i / 8
  · rw [if_pos e, e, Nat.sub_self, Nat.pow_zero, Nat.div_one, Nat.div_one, last_byte N (i % 8) (by omega)]
    simp
  · rw [if_neg e]
    have hh := high_byte N (i % 8) (8 * (i / 8 + 1) - 8 * (j + 1) - 8) (by omega)
    rw [show 8 * (i / 8 + 1) - 8 * (j + 1) - 8 + 8 = 8 * (i / 8 + 1) - 8 * (j + 1) from by omega] at hh
    rw [hh]
end Hf
end Go.Proofs.Ytgecoiakhmnilaa
