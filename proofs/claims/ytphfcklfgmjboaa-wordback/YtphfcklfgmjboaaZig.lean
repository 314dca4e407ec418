/-
  The contracts of word.Zigzag, word.Unzigzag and the document's two: each pair computes one and the same number, and leaves memory as it was.
-/
import Derived.Test.YtphfcklfgmjboaaRows
import Derived.Test.YtphfcklfgmjboaaNum
import Derived.WalkKit
import Derived.ProofKit
import Derived.OpenShut
namespace Go.Proofs.Ytphfcklfgmjboaa
open Go.RowKit

theorem ret_int {k : IntKind} {a b : Int} (h : a = b) : Ending.returned (.int k a) = .returned (.int k b) := by rw [h]

def zigF (x : Int) : Int := if x < 0 then -2 * x - 1 else 2 * x
def unzF (x : Int) : Int := if x % 2 = 1 then -(x / 2) - 1 else x / 2

theorem zig_ref (x : Int) (w : World) (h0 : -9223372036854775808 ≤ x) (h1 : x ≤ 9223372036854775807) :
    Calls Try.prog 25 #[.int .i64 x] w fun e w' => e = .returned (.int .u64 (zigF x)) ∧ w' = w := by
  by_cases hx : x < 0
  · go_enter Try.func25, Try.ntmps25
    go_wp2
    go_ret
    exact ⟨ret_int (by rw [zigF, if_pos hx]; omega), rfl⟩
  · go_enter Try.func25, Try.ntmps25
    go_wp2
    go_ret
    exact ⟨ret_int (by rw [zigF, if_neg (by omega)]; omega), rfl⟩
theorem zig_word (x : Int) (w : World) (h0 : -9223372036854775808 ≤ x) (h1 : x ≤ 9223372036854775807) :
    Calls Try.prog 24 #[.int .i64 x] w fun e w' => e = .returned (.int .u64 (zigF x)) ∧ w' = w := by
  by_cases hx : x < 0
  · go_enter Try.func24, Try.ntmps24
    go_wp2
    go_ret
    exact ⟨ret_int (by rw [zigF, if_pos hx]; exact Num.zig_neg x h0 hx), rfl⟩
  · go_enter Try.func24, Try.ntmps24
    go_wp2
    go_ret
    exact ⟨ret_int (by rw [zigF, if_neg (by omega)]; exact Num.zig_pos x (by omega) h1), rfl⟩
theorem unz_ref (x : Int) (w : World) (h0 : 0 ≤ x) (h1 : x < 18446744073709551616) :
    Calls Try.prog 27 #[.int .u64 x] w fun e w' => e = .returned (.int .i64 (unzF x)) ∧ w' = w := by
  by_cases hx : x % 2 = 1
  · have hb : (x % 2 == 1) = true := by simpa using hx
    have HX : Hid (x % 2 = 1) := hx
    clear hx
    go_enter Try.func27, Try.ntmps27
    go_wp2
    go_ret
    exact ⟨ret_int (by rw [unzF, if_pos HX.out]), rfl⟩
  · have hb : (x % 2 == 1) = false := by simpa using hx
    go_enter Try.func27, Try.ntmps27
    go_wp2
    go_ret
    exact ⟨ret_int (by rw [unzF, if_neg hx]), rfl⟩
theorem unz_word (x : Int) (w : World) (h0 : 0 ≤ x) (h1 : x < 18446744073709551616) :
    Calls Try.prog 26 #[.int .u64 x] w fun e w' => e = .returned (.int .i64 (unzF x)) ∧ w' = w := by
  have ha := Num.and_one x h0 h1
  by_cases hx : x % 2 = 1
  · rw [hx] at ha
    go_enter Try.func26, Try.ntmps26
    go_wp2
    go_ret
    exact ⟨ret_int (by rw [unzF, if_pos hx]; exact Num.i64_xor_ones _ (by omega) (by omega)), rfl⟩
  · rw [show x % 2 = 0 from by omega] at ha
    go_enter Try.func26, Try.ntmps26
    go_wp2
    go_ret
    exact ⟨ret_int (by rw [unzF, if_neg hx]; exact Num.i64_xor_zero _ (by omega) (by omega)), rfl⟩
end Go.Proofs.Ytphfcklfgmjboaa
