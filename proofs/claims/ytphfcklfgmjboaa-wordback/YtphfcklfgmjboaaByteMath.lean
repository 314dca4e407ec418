/-
  Numbers as bytes, and bytes as numbers: plain facts on lists.
-/
import Derived.Test.YtphfcklfgmjboaaRead
namespace Go.Proofs.Ytphfcklfgmjboaa

/-- The n lowest bytes of x, the lowest one first. -/
def leL : Nat → Int → List Int
  | 0, _ => []
  | n + 1, x => (x % 256) :: leL n (x / 256)
/-- The number of some bytes, the highest one first. -/
def numBE (l : List Int) : Int := l.foldl (fun x c => x * 256 + c) 0
/-- In either order (1: the highest one first). -/
def bytesF (n : Nat) (o x : Int) : List Int := if o = 1 then (leL n x).reverse else leL n x
def numF (o : Int) (l : List Int) : Int := if o = 1 then numBE l else numBE l.reverse

theorem leL_length (n : Nat) : ∀ x : Int, (leL n x).length = n := by
  induction n with
  | zero => intro x; rfl
  | succ n ih => intro x; simp [leL, ih]

theorem bytesF_length (n : Nat) (o x : Int) : (bytesF n o x).length = n := by
  unfold bytesF; split <;> simp [leL_length]

theorem ediv_pow_succ (x : Int) (n : Nat) : x / 256 / 256 ^ n = x / 256 ^ (n + 1) := by
  rw [Int.ediv_ediv_of_nonneg (by decide), ← Int.pow_succ']

theorem leL_snoc (n : Nat) : ∀ x : Int, leL (n + 1) x = leL n x ++ [x / 256 ^ n % 256] := by
  induction n with
  | zero => intro x; simp [leL]
  | succ n ih =>
    intro x
    rw [leL, ih (x / 256), leL, ediv_pow_succ]
    rfl

theorem leL_getD (n : Nat) : ∀ (x : Int) (j : Nat), j < n → (leL n x).getD j 0 = x / 256 ^ j % 256 := by
  induction n with
  | zero => intro x j h; omega
  | succ n ih =>
    intro x j h
    match j with
    | 0 => simp [leL]
    | j + 1 =>
      have := ih (x / 256) j (by omega)
      rw [leL, List.getD_cons_succ, this, ediv_pow_succ]

/-- How many bits of a number of n bytes lie below its byte i. -/
def shF (n : Nat) (o : Int) (i : Nat) : Nat := if o = 1 then 8 * (n - 1 - i) else 8 * i

theorem pow256 (k : Nat) : (256 : Int) ^ k = 2 ^ (8 * k) := by rw [Int.pow_mul]; rfl

theorem getD_reverse (l : List Int) (j : Nat) (h : j < l.length) : l.reverse.getD j 0 = l.getD (l.length - 1 - j) 0 := by
  have h1 : j < l.reverse.length := by simpa using h
  have h2 : l.length - 1 - j < l.length := by omega
  simp only [List.getD, List.getElem?_eq_getElem h1, List.getElem?_eq_getElem h2, Option.getD_some]
  rw [List.getElem_reverse]

theorem bytesF_getD (n : Nat) (o x : Int) (j : Nat) (h : j < n) : (bytesF n o x).getD j 0 = x / 2 ^ (shF n o j) % 256 := by
  unfold bytesF shF
  by_cases ho : o = 1
  · rw [if_pos ho, if_pos ho, getD_reverse _ _ (by rw [leL_length]; exact h), leL_length, leL_getD _ _ _ (by omega), pow256]
  · rw [if_neg ho, if_neg ho, leL_getD _ _ _ h, pow256]

theorem bytesF_range (n : Nat) (o x : Int) (j : Nat) : 0 ≤ (bytesF n o x).getD j 0 ∧ (bytesF n o x).getD j 0 ≤ 255 := by
  by_cases h : j < n
  · rw [bytesF_getD n o x j h]; omega
  · have : (bytesF n o x).length ≤ j := by rw [bytesF_length]; omega
    simp [List.getD, List.getElem?_eq_none this]

theorem numBE_from (l : List Int) : ∀ a : Int, l.foldl (fun x c => x * 256 + c) a = a * 256 ^ l.length + numBE l := by
  induction l with
  | nil => intro a; simp [numBE]
  | cons c l ih =>
    intro a
    rw [numBE, List.foldl_cons, List.foldl_cons, ih, ih (0 * 256 + c), List.length_cons, Int.pow_succ', Int.zero_mul, Int.zero_add, Int.add_mul, Int.mul_assoc]
    omega

theorem numBE_cons (c : Int) (l : List Int) : numBE (c :: l) = c * 256 ^ l.length + numBE l := by
  rw [numBE, List.foldl_cons, numBE_from, Int.zero_mul, Int.zero_add]

theorem numBE_snoc (l : List Int) (c : Int) : numBE (l ++ [c]) = numBE l * 256 + c := by
  rw [numBE, List.foldl_append]; rfl

theorem numBE_range (l : List Int) (h : ∀ c ∈ l, 0 ≤ c ∧ c ≤ 255) : 0 ≤ numBE l ∧ numBE l < 256 ^ l.length := by
  induction l with
  | nil => simp [numBE]
  | cons c l ih =>
    have hc := h c (by simp)
    have hl := ih (fun x hx => h x (by simp [hx]))
    rw [numBE_cons, List.length_cons, Int.pow_succ]
    have hp : (0 : Int) < 256 ^ l.length := Int.pow_pos (by decide)
    have h1 : c * 256 ^ l.length ≤ 255 * 256 ^ l.length := Int.mul_le_mul_of_nonneg_right hc.2 (by omega)
    have h2 : 0 ≤ c * 256 ^ l.length := Int.mul_nonneg hc.1 (by omega)
    omega

/-- The number of a number's bytes: its lowest bits. -/
theorem numBE_leL (n : Nat) : ∀ x : Int, numBE (leL n x).reverse = x % 256 ^ n := by
  induction n with
  | zero => intro x; simp [leL, numBE]
  | succ n ih =>
    intro x
    rw [leL, List.reverse_cons, numBE_snoc, ih, Int.pow_succ]
    have hp : (0 : Int) < 256 ^ n := Int.pow_pos (by decide)
    have h1 := Int.mul_ediv_add_emod (x / 256) (256 ^ n)
    have h2 : x % (256 ^ n * 256) = x - 256 ^ n * 256 * (x / (256 ^ n * 256)) := by rw [Int.emod_def]
    have h3 : x / (256 ^ n * 256) = x / 256 / 256 ^ n := by rw [Int.mul_comm, Int.ediv_ediv_of_nonneg (by decide)]
    rw [h2, h3]
    have h4 : (256 : Int) ^ n * 256 * (x / 256 / 256 ^ n) = 256 * (256 ^ n * (x / 256 / 256 ^ n)) := by
      rw [Int.mul_comm (256 ^ n) 256, Int.mul_assoc]
    rw [h4]
    omega

theorem numF_bytesF (n : Nat) (o x : Int) : numF o (bytesF n o x) = x % 256 ^ n := by
  unfold numF bytesF
  by_cases ho : o = 1
  · rw [if_pos ho, if_pos ho, numBE_leL]
  · rw [if_neg ho, if_neg ho, numBE_leL]

end Go.Proofs.Ytphfcklfgmjboaa
