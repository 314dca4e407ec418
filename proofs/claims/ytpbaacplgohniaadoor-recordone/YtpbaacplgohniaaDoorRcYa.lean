/-
  Two heads held against each other: their fields.
-/
import Derived.Test.YtpbaacplgohniaaDoorRcV
import Derived.Test.YtpbaacplgohniaaDoorRcP
namespace Go.Proofs.YtpbaacplgohniaaDoor
open Go.ChangeShapes Go.WideShapes Go.ChangeAt Go.RowKit Go.Deep

theorem Tryd.fields55 : Tryd.prog.underlying 55 = some (.struct (Tryd.prog.fieldsOf 55)) := by kernel_rfl
theorem guard55 : Tryd.prog.eqGuardType Tryd.prog.depth 55 = false := by kernel_rfl
set_option maxRecDepth 100000 in
theorem partS (n k : Int) (l : List Int) (hx : l.length = 32) (w : World) : (part 3 (hdL n k l).toArray 0).run Tryd.prog w = .ok (.int .i64 n) w := by
  obtain ⟨a0, a1, a2, a3, a4, a5, a6, a7, a8, a9, a10, a11, a12, a13, a14, a15, a16, a17, a18, a19, a20, a21, a22, a23, a24, a25, a26, a27, a28, a29, a30, a31, q⟩ := list32 l hx
  subst q
  kernel_rfl
set_option maxRecDepth 100000 in
theorem partE (n k : Int) (l : List Int) (hx : l.length = 32) (w : World) : (part 3 (hdL n k l).toArray 1).run Tryd.prog w = .ok (.int .i64 k) w := by
  obtain ⟨a0, a1, a2, a3, a4, a5, a6, a7, a8, a9, a10, a11, a12, a13, a14, a15, a16, a17, a18, a19, a20, a21, a22, a23, a24, a25, a26, a27, a28, a29, a30, a31, q⟩ := list32 l hx
  subst q
  kernel_rfl
set_option maxRecDepth 100000 in
theorem partC (n k : Int) (l : List Int) (hx : l.length = 32) (w : World) : (part 23 (hdL n k l).toArray 2).run Tryd.prog w = .ok (.agg (u8A l)) w := by
  obtain ⟨a0, a1, a2, a3, a4, a5, a6, a7, a8, a9, a10, a11, a12, a13, a14, a15, a16, a17, a18, a19, a20, a21, a22, a23, a24, a25, a26, a27, a28, a29, a30, a31, q⟩ := list32 l hx
  subst q
  kernel_rfl
theorem partH (h : Hd) (hx : h.2.2.length = 32) (w : World) : (part 3 (hdV h).toArray 0).run Tryd.prog w = .ok (.int .i64 h.1) w ∧ (part 3 (hdV h).toArray 1).run Tryd.prog w = .ok (.int .i64 h.2.1) w ∧ (part 23 (hdV h).toArray 2).run Tryd.prog w = .ok (.agg (u8A h.2.2)) w :=
  ⟨partS _ _ _ hx w, partE _ _ _ hx w, partC _ _ _ hx w⟩
end Go.Proofs.YtpbaacplgohniaaDoor
