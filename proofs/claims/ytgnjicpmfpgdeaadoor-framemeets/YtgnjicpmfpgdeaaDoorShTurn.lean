/-
  The contracts of sha's right and of math/bits.RotateLeft32.
-/
import Derived.Test.YtgnjicpmfpgdeaaDoorShWord
import Derived.Test.YtgnjicpmfpgdeaaDoorShRefStep
namespace Go.Proofs.YtgnjicpmfpgdeaaDoor.Sh
open Go.RowKit Sha

theorem and31 (n : Nat) (h0 : 0 < n) (hn : n < 32) : bits .and .u64 (IntKind.u64.wrap (-(n : Int))) 31 = ((32 - n : Nat) : Int) := by
  rw [IntKind.wrap_u64, show (-(n : Int)) % 18446744073709551616 = ((18446744073709551616 - n : Nat) : Int) from by omega, show (31 : Int) = ((31 : Nat) : Int) from rfl, u64_and_nat _ _ (by omega) (by decide), show (31 : Nat) = 2 ^ 5 - 1 from rfl, Nat.and_two_pow_sub_one_eq_mod]
  omega

theorem rot_join (x n s : Nat) (hx : x < 2 ^ 32) (hs : n + s = 32) : bits .or .u32 (IntKind.u32.wrap ((x : Int) * 2 ^ s)) ((x : Int) / 2 ^ n) = ((rotN n x : Nat) : Int) := by
  have hq : (2 : Nat) ^ 32 = 2 ^ n * 2 ^ s := by rw [← Nat.pow_add, hs]
  have hp : 0 < 2 ^ n := Nat.two_pow_pos n
  have e1 : IntKind.u32.wrap ((x : Int) * 2 ^ s) = ((x % 2 ^ n * 2 ^ s : Nat) : Int) := by
    rw [IntKind.wrap_u32, show (4294967296 : Int) = ((2 ^ 32 : Nat) : Int) from rfl, show (2 : Int) ^ s = ((2 ^ s : Nat) : Int) from by simp, ← Int.natCast_mul, ← Int.natCast_emod, hq, Nat.mul_mod_mul_right]
  have e2 : (x : Int) / 2 ^ n = ((x / 2 ^ n : Nat) : Int) := by rw [show (2 : Int) ^ n = ((2 ^ n : Nat) : Int) from by simp, Int.natCast_ediv]
  have hl : x / 2 ^ n < 2 ^ s := by rw [Nat.div_lt_iff_lt_mul hp, Nat.mul_comm, ← hq]; exact hx
  have hh : x % 2 ^ n * 2 ^ s < 2 ^ 32 := by
    rw [hq]; exact Nat.mul_lt_mul_of_pos_right (Nat.mod_lt _ hp) (Nat.two_pow_pos s)
  rw [e1, e2, u32_or_nat _ _ hh (Nat.lt_of_le_of_lt (Nat.div_le_self _ _) hx), nat_join s _ _ (Nat.mul_mod_left _ _) hl, rotN_quick n x (by omega) hx, rotQ, show 32 - n = s from by omega, Nat.add_comm]

theorem rot_word (x n : Nat) (w : World) (hx : x < 2 ^ 32) (h0 : 0 < n) (hn : n < 32) :
    Calls Tryd.prog 98 #[.int .u32 (x : Int), .int .i64 (-(n : Int))] w fun e w' => e = .returned (.int .u32 ((rotN n x : Nat) : Int)) ∧ w' = w := by
  obtain ⟨s, hs⟩ : ∃ s, n + s = 32 := ⟨32 - n, by omega⟩
  have HA := and31 n h0 hn
  rw [show 32 - n = s from by omega] at HA
  have HR := hid (rot_join x n s hx hs)
  have hss : 32 - s = n := by omega
  go_enter Tryd.func98, Tryd.ntmps98
  go_wp2
  go_ret
  exact ⟨ret_int (by rw [← HR.out, IntKind.wrap_u32]), rfl⟩

theorem right_word (x n : Nat) (z : Int) (w : World) (hx : x < 2 ^ 32) (h0 : 0 < n) (hn : n < 32) (hz : z = (n : Int)) :
    Calls Tryd.prog 96 #[.int .u32 (x : Int), .int .i64 z] w fun e w' => e = .returned (.int .u32 ((rotN n x : Nat) : Int)) ∧ w' = w := by
  subst hz
  have HC := hid (fun W : World => rot_word x n W hx h0 hn)
  go_enter Tryd.func96, Tryd.ntmps96
  go_wp2_with (go_at_call 98; refine (HC.out _).mono ?_; rintro e w' ⟨rfl, rfl⟩)
  go_ret
  exact ⟨rfl, rfl⟩

/-- Moved right, as the code does it. -/
theorem shr_int (x n : Nat) (hx : x < 2 ^ 32) (hn : n ≤ 32) : (x : Int) / 2 ^ n = ((movN n x : Nat) : Int) := by
  rw [movN_quick n x hn hx, show (2 : Int) ^ n = ((2 ^ n : Nat) : Int) from by simp, Int.natCast_ediv]
end Go.Proofs.YtgnjicpmfpgdeaaDoor.Sh
