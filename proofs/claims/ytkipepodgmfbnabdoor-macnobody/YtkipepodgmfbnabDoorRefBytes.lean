/-
  The contract of the document's Bytes: a state as bytes.
-/
import Derived.Test.YtkipepodgmfbnabDoorRefStep
namespace Go.Proofs.YtkipepodgmfbnabDoor
open Go.RowKit Sha

theorem bytes_length (s : St) : (Sha.bytes s).length = 32 := rfl
theorem bytes_get (s : St) : ∀ i, i < 32 → (Sha.bytes s).getD i 0 = s.list.getD (i / 4) 0 / 256 ^ (3 - i % 4) % 256
  | 0, _ => rfl
  | 1, _ => rfl
  | 2, _ => rfl
  | 3, _ => by show s.a % 256 = s.a / 256 ^ 0 % 256; rw [Nat.pow_zero, Nat.div_one]
  | 4, _ => rfl
  | 5, _ => rfl
  | 6, _ => rfl
  | 7, _ => by show s.b % 256 = s.b / 256 ^ 0 % 256; rw [Nat.pow_zero, Nat.div_one]
  | 8, _ => rfl
  | 9, _ => rfl
  | 10, _ => rfl
  | 11, _ => by show s.c % 256 = s.c / 256 ^ 0 % 256; rw [Nat.pow_zero, Nat.div_one]
  | 12, _ => rfl
  | 13, _ => rfl
  | 14, _ => rfl
  | 15, _ => by show s.d % 256 = s.d / 256 ^ 0 % 256; rw [Nat.pow_zero, Nat.div_one]
  | 16, _ => rfl
  | 17, _ => rfl
  | 18, _ => rfl
  | 19, _ => by show s.e % 256 = s.e / 256 ^ 0 % 256; rw [Nat.pow_zero, Nat.div_one]
  | 20, _ => rfl
  | 21, _ => rfl
  | 22, _ => rfl
  | 23, _ => by show s.f % 256 = s.f / 256 ^ 0 % 256; rw [Nat.pow_zero, Nat.div_one]
  | 24, _ => rfl
  | 25, _ => rfl
  | 26, _ => rfl
  | 27, _ => by show s.g % 256 = s.g / 256 ^ 0 % 256; rw [Nat.pow_zero, Nat.div_one]
  | 28, _ => rfl
  | 29, _ => rfl
  | 30, _ => rfl
  | 31, _ => by show s.h % 256 = s.h / 256 ^ 0 % 256; rw [Nat.pow_zero, Nat.div_one]
  | n + 32, h => absurd h (by omega)

def z32 : List Nat := List.replicate 32 0
theorem Tryd.zero41 : ∀ w, (zeroValue 41).run Tryd.prog w = .ok (.agg (arr .u8 z32)) w := (zero_of_info (t := 41) (n := 32) (by kernel_rfl)).1
theorem Tryd.size41 : (Tryd.prog.info? 41).map (·.size) = some 32 := by kernel_rfl

/-- The first i bytes of a row of n. -/
def fillL (n : Nat) (l : List Nat) (i : Nat) : List Nat := l.take i ++ List.replicate (n - i) 0
theorem fillL_length (n : Nat) (l : List Nat) (i : Nat) (hl : l.length = n) (hi : i ≤ n) : (fillL n l i).length = n := by simp [fillL]; omega
theorem fillL_set (n : Nat) (l : List Nat) (i : Nat) (hl : l.length = n) (hi : i < n) : (fillL n l i).set i (l.getD i 0) = fillL n l (i + 1) := by
  unfold fillL
  rw [List.set_append_right _ _ (by simp; omega), show i - (l.take i).length = 0 from by simp; omega, show n - i = (n - (i + 1)) + 1 from by omega, List.replicate_succ, List.set_cons_zero]
  have e : l.getD i 0 = l[i]'(by omega) := by simp [List.getD, List.getElem?_eq_getElem (show i < l.length from by omega)]
  rw [e, List.take_succ_eq_append_getElem (show i < l.length from by omega), List.append_assoc]
  rfl
theorem fillL_full (n : Nat) (l : List Nat) (hl : l.length = n) : fillL n l n = l := by simp [fillL, ← hl]
theorem fillL_zero (n : Nat) (l : List Nat) : fillL n l 0 = List.replicate n 0 := by simp [fillL]

theorem list_lt (s : St) (h : s.Ok) (i : Nat) : s.list.getD i 0 < 2 ^ 32 := by
  match i with
  | 0 => exact h.a
  | 1 => exact h.b
  | 2 => exact h.c
  | 3 => exact h.d
  | 4 => exact h.e
  | 5 => exact h.f
  | 6 => exact h.g
  | 7 => exact h.h
  | n + 8 => exact Nat.two_pow_pos 32

theorem quo_int (x m : Nat) : ((x / 256 ^ m : Nat) : Int) / 256 = ((x / 256 ^ (m + 1) : Nat) : Int) := by
  rw [Nat.pow_succ, ← Nat.div_div_eq_div_mul]; omega

end Go.Proofs.YtkipepodgmfbnabDoor
