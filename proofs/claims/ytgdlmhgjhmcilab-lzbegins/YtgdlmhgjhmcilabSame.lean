/-
  The contracts of the document's Same and of the statements' awake.
-/
import Derived.Test.YtgdlmhgjhmcilabBytR
import Derived.Laws.StructEq
namespace Go.Proofs.Ytgdlmhgjhmcilab
open Go.RowKit Lz

theorem eq23 (d n x d' n' x' : Int) (w : World) : (Op.equalIn 10000 34 (.agg #[.int .i64 d, .int .i64 n, .int .u8 x]) (.agg #[.int .i64 d', .int .i64 n', .int .u8 x'])).run Try.prog w = .ok (d == d' && (n == n' && x == x')) w := by
  have u3 := Try.underlying3
  have a3 := Try.isAgg3
  have z3 := Try.sizeOf3
  have u5 := Try.underlying5
  have a5 := Try.isAgg5
  have z5 := Try.sizeOf5
  have hS : Try.prog.underlying 34 = some (.struct (Try.prog.fieldsOf 34)) := by kernel_rfl
  have hp : Try.prog.stoodInHeld 34 = false := by kernel_rfl
  rw [show (10000 : Nat) = 9999 + 1 from rfl, run_equalIn_agg w 9999 34 _ _ hS hp]
  simp only [Program.fieldsOf, Try.underlying34]
  go_simp
  by_cases h1 : d = d' <;> by_cases h2 : n = n' <;> by_cases h3 : x = x' <;> simp [h1, h2, h3]
theorem run_neq23 (d n x d' n' x' : Int) (w : World) : (binOp .neq 34 (.agg #[.int .i64 d, .int .i64 n, .int .u8 x]) (.agg #[.int .i64 d', .int .i64 n', .int .u8 x'])).run Try.prog w = .ok (.bool (!(d == d' && (n == n' && x == x')))) w := by
  rw [run_neq_struct, eq23]; rfl
theorem run_eql23 (d n x d' n' x' : Int) (w : World) : (binOp .eql 34 (.agg #[.int .i64 d, .int .i64 n, .int .u8 x]) (.agg #[.int .i64 d', .int .i64 n', .int .u8 x'])).run Try.prog w = .ok (.bool (d == d' && (n == n' && x == x'))) w := by
  rw [run_eql_struct, eq23]; rfl

end Go.Proofs.Ytgdlmhgjhmcilab
