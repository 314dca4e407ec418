/-
  The contracts of the document's Same and of the statements' awake.
-/
import Derived.Test.YtgdlmhgjhmcilaaBytR
import Derived.Laws.StructEq
namespace Go.Proofs.Ytgdlmhgjhmcilaa
open Go.RowKit Lz

theorem eq23 (d n x d' n' x' : Int) (w : World) : (Op.equalIn 10000 23 (.agg #[.int .i64 d, .int .i64 n, .int .u8 x]) (.agg #[.int .i64 d', .int .i64 n', .int .u8 x'])).run Try.prog w = .ok (d == d' && (n == n' && x == x')) w := by
  have u3 := Try.underlying3
  have a3 := Try.isAgg3
  have z3 := Try.sizeOf3
  have u5 := Try.underlying5
  have a5 := Try.isAgg5
  have z5 := Try.sizeOf5
  have hS : Try.prog.underlying 23 = some (.struct (Try.prog.fieldsOf 23)) := by kernel_rfl
  have hp : Try.prog.stoodInHeld 23 = false := by kernel_rfl
  rw [show (10000 : Nat) = 9999 + 1 from rfl, run_equalIn_agg w 9999 23 _ _ hS hp]
  simp only [Program.fieldsOf, Try.underlying23]
  go_simp
  by_cases h1 : d = d' <;> by_cases h2 : n = n' <;> by_cases h3 : x = x' <;> simp [h1, h2, h3]
theorem run_neq23 (d n x d' n' x' : Int) (w : World) : (binOp .neq 23 (.agg #[.int .i64 d, .int .i64 n, .int .u8 x]) (.agg #[.int .i64 d', .int .i64 n', .int .u8 x'])).run Try.prog w = .ok (.bool (!(d == d' && (n == n' && x == x')))) w := by
  rw [run_neq_struct, eq23]; rfl
theorem run_eql23 (d n x d' n' x' : Int) (w : World) : (binOp .eql 23 (.agg #[.int .i64 d, .int .i64 n, .int .u8 x]) (.agg #[.int .i64 d', .int .i64 n', .int .u8 x'])).run Try.prog w = .ok (.bool (d == d' && (n == n' && x == x'))) w := by
  rw [run_eql_struct, eq23]; rfl

set_option maxHeartbeats 800000 in
set_option maxRecDepth 100000 in
theorem same_ref (a : Option Addr) (cap : Nat) (l : List Tkz) (b : Option Addr) (cap2 : Nat) (w : World) (hr : Rt w a cap l) (hr2 : Rt w b cap2 l) :
    Calls Try.prog 20 #[.slice a l.length cap, .slice b l.length cap2] w fun e w' => e = .returned (.bool true) ∧ Below w.heap.size w w' := by
  have hm := hr.most
  have hm1 := hr.room
  have hm2 := hr2.most
  have hm3 := hr2.room
  unfold maxLen at hm hm2
  have HR := hid hr
  have HR2 := hid hr2
  obtain ⟨len, hle⟩ : ∃ n, n = l.length := ⟨_, rfl⟩
  have HL := hid hle
  rw [← hle] at hm1 hm3 ⊢
  have hb0 : ((len : Int) != (len : Int)) = false := by simp
  clear hr hr2 hle
  go_enter Try.func20, Try.ntmps20
  go_wp2
  go_loopw [5] (fun y wr => ∃ k : Nat, k ≤ len ∧ y = .int .i64 k ∧ Below w.heap.size w wr) (fun y _ => len - (intOf y).toNat)
  case atStart => exact ⟨0, by omega, rfl, Below.refl _ _⟩
  case round =>
    obtain ⟨k, hk, rfl, hbel⟩ := hrel
    by_cases hlt : k < len
    · have hkl : (k : Int) < (len : Int) := by omega
      obtain ⟨g1, o1, rfl, hg1, hc1⟩ := (HR.out).cells (by rw [← HL.out]; omega)
      obtain ⟨g2, o2, rfl, hg2, hc2⟩ := (HR2.out).cells (by rw [← HL.out]; omega)
      obtain ⟨p0, p1, p2⟩ := hc1 k (by rw [← HL.out]; exact hlt)
      obtain ⟨q0, q1, q2⟩ := hc2 k (by rw [← HL.out]; exact hlt)
      have c0 := (hbel.cell (p := ⟨g1, o1 + k * 3, none⟩) hg1).trans p0
      have c1 := (hbel.cell (p := ⟨g1, o1 + k * 3 + 1, none⟩) hg1).trans p1
      have c2 := (hbel.cell (p := ⟨g1, o1 + k * 3 + 2, none⟩) hg1).trans p2
      have d0 := (hbel.cell (p := ⟨g2, o2 + k * 3, none⟩) hg2).trans q0
      have d1 := (hbel.cell (p := ⟨g2, o2 + k * 3 + 1, none⟩) hg2).trans q1
      have d2 := (hbel.cell (p := ⟨g2, o2 + k * 3 + 2, none⟩) hg2).trans q2
      generalize l.getD k tk0 = t at *
      obtain ⟨d, n, x⟩ := t
      dsimp only at *
      have HB := hid (fun m => bel_drewN hbel m)
      have heq : ∀ W, (binOp .neq 23 (.agg #[.int .i64 d, .int .i64 n, .int .u8 x]) (.agg #[.int .i64 d, .int .i64 n, .int .u8 x])).run Try.prog W = .ok (.bool false) W := fun W => by
        rw [run_neq23]; simp
      clear hc1 hc2 hbel p0 p1 p2 q0 q1 q2
      go_wp2_with fail
      go_big_quiet (fail)
      go_wp2
      exact ⟨⟨k + 1, by omega, by go_num, HB.out _⟩, by simp [intOf]; omega⟩
    · go_wp2
      go_ret
      exact ⟨rfl, hbel⟩
end Go.Proofs.Ytgdlmhgjhmcilaa
