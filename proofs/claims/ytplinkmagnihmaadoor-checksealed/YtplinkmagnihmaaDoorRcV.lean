/-
  Records that are alike: slices.Equal at pieces, record's Same, the document's Same.
-/
import Derived.Test.YtplinkmagnihmaaDoorRcN
namespace Go.Proofs.YtplinkmagnihmaaDoor
open Go.ChangeShapes Go.WideShapes Go.ChangeAt Go.RowKit Go.Deep

theorem Tryd.fields76 : Tryd.prog.underlying 80 = some (.struct (Tryd.prog.fieldsOf 80)) := by kernel_rfl
theorem guard76 : Tryd.prog.eqGuardType Tryd.prog.depth 80 = false := by kernel_rfl
theorem eqD (d : Nat) (l m : List Int) (hl : l.length = 32) (hm : m.length = 32) (w : World) : (Op.equalIn (d + 2) 25 (.agg (u8A l)) (.agg (u8A m))).run Tryd.prog w = .ok (decide (l = m)) w := by
  obtain ⟨i, hi⟩ : ∃ i, Tryd.prog.info? 5 = some i := info_of_underlying Tryd.underlying5
  rw [show d + 2 = (d + 1) + 1 from rfl, run_equalIn_array w (d + 1) _ _ Tryd.underlying25 hi, Tryd.cells5, eq_itemsI d Tryd.underlying5 l m w _ (fun j hj => by rw [hl, hm]; have := List.mem_range.1 hj; exact ⟨this, this⟩)]
  refine congrArg (fun b => Result.ok b w) ?_
  by_cases h : l = m
  · subst h; simp
  · rw [decide_eq_false h, Bool.eq_false_iff]
    intro hc
    rw [List.all_eq_true] at hc
    exact h (il_ext (by omega) (fun j hj => by have := hc j (List.mem_range.2 (by omega)); simpa using this))
set_option maxRecDepth 100000 in
theorem partD (x : Pc) (hx : x.1.length = 32) (w : World) : (part 25 (pcC x).toArray 0).run Tryd.prog w = .ok (.agg (u8A x.1)) w := by
  obtain ⟨l, n⟩ := x
  obtain ⟨a0, a1, a2, a3, a4, a5, a6, a7, a8, a9, a10, a11, a12, a13, a14, a15, a16, a17, a18, a19, a20, a21, a22, a23, a24, a25, a26, a27, a28, a29, a30, a31, h⟩ := list32 l hx
  subst h
  kernel_rfl
set_option maxRecDepth 100000 in
theorem partN (x : Pc) (hx : x.1.length = 32) (w : World) : (part 3 (pcC x).toArray 32).run Tryd.prog w = .ok (.int .i64 x.2) w := by
  obtain ⟨l, n⟩ := x
  obtain ⟨a0, a1, a2, a3, a4, a5, a6, a7, a8, a9, a10, a11, a12, a13, a14, a15, a16, a17, a18, a19, a20, a21, a22, a23, a24, a25, a26, a27, a28, a29, a30, a31, h⟩ := list32 l hx
  subst h
  kernel_rfl
set_option maxRecDepth 100000 in
/-- Two pieces held against each other. -/
theorem eq76 (x y : Pc) (hx : x.1.length = 32) (hy : y.1.length = 32) (w : World) : (Op.equalIn 10000 80 (.agg (pcC x).toArray) (.agg (pcC y).toArray)).run Tryd.prog w = .ok (decide (x = y)) w := by
  rw [show (10000 : Nat) = 9999 + 1 from rfl, run_equalIn_struct w 9999 80 _ _ Tryd.fields76 (by kernel_rfl)]
  have hf : ∃ f0 f1 : Field, (Tryd.prog.fieldsOf 80).toList = [f0, f1] ∧ f0.type = 25 ∧ f0.offset = 0 ∧ f1.type = 3 ∧ f1.offset = 32 ∧ f0.name ≠ "_" ∧ f1.name ≠ "_" := ⟨_, _, rfl, rfl, rfl, rfl, rfl, by decide, by decide⟩
  obtain ⟨f0, f1, hl, t0, o0, t1, o1, n0, n1⟩ := hf
  rw [hl]
  simp only [Op.eqFields, n0, n1, ne_eq, not_false_eq_true, if_true, Sem.run_bind, t0, o0, t1, o1, partD x hx, partD y hy, partN x hx, partN y hy, Result.andThen_ok, eqD 9997 x.1 y.1 hx hy, Sem.run_ite]
  rw [show (9999 : Nat) = 9998 + 1 from rfl, run_equalIn_int w 9998 3 .i64 .i64 _ _ Tryd.underlying3]
  obtain ⟨x1, x2⟩ := x
  obtain ⟨y1, y2⟩ := y
  by_cases h1 : x1 = y1
  · by_cases h2 : x2 = y2
    · subst h1 h2; simp [Result.andThen]
    · have hb : (x2 == y2) = false := by rw [beq_eq_false_iff_ne]; exact h2
      simp [h1, h2, hb, Result.andThen]
  · simp [h1]
theorem run_neq_op {P : Program} {oi : Oper} {ρ : Operand → Value} {t t2 : TypeId} {x y : Operand} (ho : oi.op = .binOp .neq t x y t2) {xs ys : Array Value} {b : Bool} (hx : ρ x = .agg xs) (hy : ρ y = .agg ys) (hg : P.eqGuardType P.depth t = false) {w : World}
    (h : (Op.equalIn 10000 t (.agg xs) (.agg ys)).run P w = .ok b w) : (execOp ρ oi).run P w = .ok (.value (.bool (!b))) w := by
  unfold execOp
  simp only [ho, hx, hy, Sem.run_bind, run_eqGuard_agg w .neq t x y xs ys hg, run_neq_struct w t xs ys, h, Result.andThen_ok]
  rfl
theorem ba_inj {a b : ByteArray} (h : a.toList = b.toList) : a = b := by
  rw [ByteArray.toList_eq, ByteArray.toList_eq] at h
  cases a with
  | mk x =>
    cases b with
    | mk y =>
      have : x = y := Array.toList_inj.1 h
      rw [this]
/-- Two records alike, but for the places of their pieces. -/
def sameB (a b : Rec) : Bool := decide (a.seq = b.seq ∧ a.epoch = b.epoch ∧ a.prev = b.prev ∧ a.kind = b.kind ∧ a.site = b.site ∧ a.path = b.path ∧ a.ps = b.ps)
theorem load_pc {V : World} {b o : Nat} {x : Pc} (h : V.rangeAt b o (pcC x)) (hl : x.1.length = 32) : (loadVar 80 ⟨b, o, none⟩).run Tryd.prog V = .ok (.agg (pcC x).toArray) V := run_loadVar_mid V b o 80 (pcC x) _ h Tryd.underlying80 rfl (by rw [pcC_len hl]; exact Tryd.size80)
end Go.Proofs.YtplinkmagnihmaaDoor
