/-
  Two heads held against each other: the whole.
-/
import Derived.Test.YtplinkmagnihmaaDoorRcV
import Derived.Test.YtplinkmagnihmaaDoorRcP
namespace Go.Proofs.YtplinkmagnihmaaDoor
open Go.ChangeShapes Go.WideShapes Go.ChangeAt Go.RowKit Go.Deep

theorem Tryd.fields55 : Tryd.prog.underlying 27 = some (.struct (Tryd.prog.fieldsOf 27)) := by kernel_rfl
theorem guard55 : Tryd.prog.eqGuardType Tryd.prog.depth 27 = false := by kernel_rfl
set_option maxRecDepth 100000 in
theorem partS (n k : Int) (l : List Int) (hx : l.length = 32) (w : World) : (part 3 (hdL n k l).toArray 0).run Tryd.prog w = .ok (.int .i64 n) w := by
  obtain ⟨a0, a1, a2, a3, a4, a5, a6, a7, a8, a9, a10, a11, a12, a13, a14, a15, a16, a17, a18, a19, a20, a21, a22, a23, a24, a25, a26, a27, a28, a29, a30, a31, q⟩ := list32 l hx
  subst q
  kernel_rfl
set_option maxRecDepth 100000 in
theorem partE (n k : Int) (l : List Int) (hx : l.length = 32) (w : World) : (part 3 (hdL n k l).toArray 1).run Tryd.prog w = .ok (.int .i64 k) w := by
  obtain ⟨a0, a1, a2, a3, a4, a5, a6, a7, a8, a9, a10, a11, a12, a13, a14, a15, a16, a17, a18, a19, a20, a21, a22, a23, a24, a25, a26, a27, a28, a29, a30, a31, q⟩ := list32 l hx
  subst q
  kernel_rfl
set_option maxRecDepth 100000 in
theorem partC (n k : Int) (l : List Int) (hx : l.length = 32) (w : World) : (part 25 (hdL n k l).toArray 2).run Tryd.prog w = .ok (.agg (u8A l)) w := by
  obtain ⟨a0, a1, a2, a3, a4, a5, a6, a7, a8, a9, a10, a11, a12, a13, a14, a15, a16, a17, a18, a19, a20, a21, a22, a23, a24, a25, a26, a27, a28, a29, a30, a31, q⟩ := list32 l hx
  subst q
  kernel_rfl
theorem partH (h : Hd) (hx : h.2.2.length = 32) (w : World) : (part 3 (hdV h).toArray 0).run Tryd.prog w = .ok (.int .i64 h.1) w ∧ (part 3 (hdV h).toArray 1).run Tryd.prog w = .ok (.int .i64 h.2.1) w ∧ (part 25 (hdV h).toArray 2).run Tryd.prog w = .ok (.agg (u8A h.2.2)) w :=
  ⟨partS _ _ _ hx w, partE _ _ _ hx w, partC _ _ _ hx w⟩
theorem eqI (d : Nat) (a b : Int) (w : World) : (Op.equalIn (d + 1) 3 (.int .i64 a) (.int .i64 b)).run Tryd.prog w = .ok (a == b) w := run_equalIn_int w d 3 .i64 .i64 a b Tryd.underlying3
/-- One field held against the other's, and on. -/
theorem eq_field {P : Program} {d : Nat} {xs ys : Array Value} {f : Field} {fs : List Field} {w : World} {a b : Value} {r : Bool} (hn : f.name ≠ "_") (h1 : (part f.type xs f.offset).run P w = .ok a w) (h2 : (part f.type ys f.offset).run P w = .ok b w) (h3 : (Op.equalIn d f.type a b).run P w = .ok r w) :
    (Op.eqFields d xs ys (f :: fs)).run P w = if r = true then (Op.eqFields d xs ys fs).run P w else .ok false w := by
  rw [Op.eqFields, if_pos hn]
  simp only [Sem.run_bind, h1, h2, h3, Result.andThen_ok]
  cases r <;> rfl
set_option maxRecDepth 100000 in
theorem eq55g (d : Nat) (x y : Hd) (hx : x.2.2.length = 32) (hy : y.2.2.length = 32) (w : World) : (Op.equalIn (d + 3) 27 (.agg (hdV x).toArray) (.agg (hdV y).toArray)).run Tryd.prog w = .ok (decide (x = y)) w := by
  rw [show d + 3 = (d + 2) + 1 from rfl, run_equalIn_struct w (d + 2) 27 _ _ Tryd.fields55 (by kernel_rfl)]
  have hf : ∃ f0 f1 f2 : Field, (Tryd.prog.fieldsOf 27).toList = [f0, f1, f2] ∧ f0.type = 3 ∧ f0.offset = 0 ∧ f1.type = 3 ∧ f1.offset = 1 ∧ f2.type = 25 ∧ f2.offset = 2 ∧ f0.name ≠ "_" ∧ f1.name ≠ "_" ∧ f2.name ≠ "_" := ⟨_, _, _, rfl, rfl, rfl, rfl, rfl, rfl, rfl, by decide, by decide, by decide⟩
  obtain ⟨f0, f1, f2, hl, t0, o0, t1, o1, t2, o2, n0, n1, n2⟩ := hf
  rw [hl, eq_field n0 (by rw [t0, o0]; exact (partH x hx w).1) (by rw [t0, o0]; exact (partH y hy w).1) (by rw [t0]; exact eqI (d + 1) _ _ w),
    eq_field n1 (by rw [t1, o1]; exact (partH x hx w).2.1) (by rw [t1, o1]; exact (partH y hy w).2.1) (by rw [t1]; exact eqI (d + 1) _ _ w),
    eq_field n2 (by rw [t2, o2]; exact (partH x hx w).2.2) (by rw [t2, o2]; exact (partH y hy w).2.2) (by rw [t2]; exact eqD d _ _ hx hy w)]
  obtain ⟨x1, x2, x3⟩ := x
  obtain ⟨y1, y2, y3⟩ := y
  by_cases h1 : x1 = y1
  · by_cases h2 : x2 = y2
    · by_cases h3 : x3 = y3
      · subst h1 h2 h3; simp [Op.eqFields]
      · subst h1 h2; simp [h3]
    · subst h1; simp [h2]
  · simp [h1]
theorem eq55 (x y : Hd) (hx : x.2.2.length = 32) (hy : y.2.2.length = 32) (w : World) : (Op.equalIn 10000 27 (.agg (hdV x).toArray) (.agg (hdV y).toArray)).run Tryd.prog w = .ok (decide (x = y)) w := by
  rw [show (10000 : Nat) = 9997 + 3 from rfl]
  exact eq55g 9997 x y hx hy w
end Go.Proofs.YtplinkmagnihmaaDoor
