/-
  LzLongest is proved for every input: Longest tells the token that the document gives at any place of any bytes; no condition.
-/
import Derived.Test.YtgdlmhgjhmcilaaAwake
namespace Go.Proofs.Ytgdlmhgjhmcilaa.lzLongest
open Go.ChangeShapes Go.WideShapes Go.ChangeAt Go.RowKit Lz

theorem own : ownKnob Try.prog.godebug = none := by kernel_rfl

set_option maxHeartbeats 1600000 in
set_option maxRecDepth 100000 in
theorem walk_long (a : Option Addr) (cap : Nat) (bs : List Int) (z : Int) (w : World) (hr : Ri w .u8 a cap bs) (hl : 65536 < bs.length) :
    Calls Try.prog 4 #[.slice a bs.length cap, .int .i64 z] w fun e w' => e = .returned (.bool true) ∧ Below w.heap.size w w' := by
  have HC := hid (longest_code a cap bs z w hr)
  have HD : Hid (∀ W, Below w.heap.size w W → Calls Try.prog 17 #[.slice a bs.length cap, .int .i64 z] W fun e w' => e = .returned (.tuple #[.agg (tokV (lgO bs z).1), .int .i64 (lgO bs z).2]) ∧ Below W.heap.size W w') := fun W hW => longest_doc a cap bs z W (hr.later hW)
  have hlz : ¬ (bs.length : Int) ≤ 65536 := by omega
  clear hr hl
  generalize lgO bs z = o at *
  obtain ⟨⟨x0, x1, x2⟩, f⟩ := o
  unfold tokV at HC HD
  dsimp only at HC HD
  have e1 : (f == f) = true := by simp
  have heq : ∀ W, (binOp .eql 23 (.agg #[.int .i64 (x0 : Int), .int .i64 (x1 : Int), .int .u8 x2]) (.agg #[.int .i64 (x0 : Int), .int .i64 (x1 : Int), .int .u8 x2])).run Try.prog W = .ok (.bool true) W := fun W => by
    rw [run_eql23]; simp
  generalize bs.length = L at *
  go_enter Try.func4, Try.ntmps4
  go_wp2_with fail
  refine HC.out.mono ?_
  rintro _ w1 ⟨rfl, hb1⟩
  have eA : (w1.alloc (.cells #[.int .i64 (x0 : Int), .int .i64 (x1 : Int), .int .u8 x2] 23)).heap[w1.heap.size]? = some (.cells #[.int .i64 (x0 : Int), .int .i64 (x1 : Int), .int .u8 x2] 23 (0, 0)) := heap_new _ _
  have hbA := Bn hb1 (bel_alloc w1 (.cells #[.int .i64 (x0 : Int), .int .i64 (x1 : Int), .int .u8 x2] 23))
  have HDD := hid (HD.out _ hbA)
  have HEA := hid eA
  have HBA := hid hbA
  clear hb1 eA hbA HC HD
  go_wp2_with fail
  refine HDD.out.mono ?_
  rintro _ w2 ⟨rfl, hb2⟩
  have e2 := (hb2.block w1.heap.size (by simp)).trans HEA.out
  have e3 := heap_old w2 (.cells #[.int .i64 (x0 : Int), .int .i64 (x1 : Int), .int .u8 x2] 23) e2
  have k0 := Joins.cell_of_block e3 0
  have k1 := Joins.cell_of_block e3 1
  have k2 := Joins.cell_of_block e3 2
  simp only [List.getElem?_toArray, List.getElem?_cons_zero, List.getElem?_cons_succ] at k0 k1 k2
  have HB2 := hid (Bn (Bn HBA.out hb2) (bel_alloc w2 (.cells #[.int .i64 (x0 : Int), .int .i64 (x1 : Int), .int .u8 x2] 23)))
  have e4 := heap_new w2 (.cells #[.int .i64 (x0 : Int), .int .i64 (x1 : Int), .int .u8 x2] 23)
  have j0 := Joins.cell_of_block e4 0
  have j1 := Joins.cell_of_block e4 1
  have j2 := Joins.cell_of_block e4 2
  simp only [List.getElem?_toArray, List.getElem?_cons_zero, List.getElem?_cons_succ] at j0 j1 j2
  clear hb2 HDD e2 e3 e4 HEA HBA
  go_wp2_with fail
  refine (awake_any _).mono ?_
  rintro _ w3 ⟨rfl, hb3⟩
  have HB3 := hid (Bn HB2.out hb3)
  clear hb3
  go_wp2
  go_ret
  exact ⟨rfl, HB3.out⟩
set_option maxHeartbeats 1600000 in
set_option maxRecDepth 100000 in
theorem walk_cut (a : Option Addr) (cap : Nat) (zs : List Int) (z : Int) (w : World) (hr : Ri w .u8 a cap zs) (hl : ¬ 65536 < zs.length) :
    Calls Try.prog 4 #[.slice a zs.length cap, .int .i64 z] w fun e w' => e = .returned (.bool true) ∧ Below w.heap.size w w' := by
  have C1 := hid (cut_any a cap zs w hr)
  have r1 := hr.take 1500
  have hlz : (zs.length : Int) ≤ 65536 := by omega
  generalize zs.take 1500 = bs at *
  have HC := hid (longest_code a cap bs z w r1)
  have HD : Hid (∀ W, Below w.heap.size w W → Calls Try.prog 17 #[.slice a bs.length cap, .int .i64 z] W fun e w' => e = .returned (.tuple #[.agg (tokV (lgO bs z).1), .int .i64 (lgO bs z).2]) ∧ Below W.heap.size W w') := fun W hW => longest_doc a cap bs z W (r1.later hW)
  clear hr r1 hl
  generalize lgO bs z = o at *
  obtain ⟨⟨x0, x1, x2⟩, f⟩ := o
  unfold tokV at HC HD
  dsimp only at HC HD
  have e1 : (f == f) = true := by simp
  have heq : ∀ W, (binOp .eql 23 (.agg #[.int .i64 (x0 : Int), .int .i64 (x1 : Int), .int .u8 x2]) (.agg #[.int .i64 (x0 : Int), .int .i64 (x1 : Int), .int .u8 x2])).run Try.prog W = .ok (.bool true) W := fun W => by
    rw [run_eql23]; simp
  generalize zs.length = L0 at *
  generalize bs.length = L at *
  go_enter Try.func4, Try.ntmps4
  go_wp2_with fail
  refine C1.out.mono ?_
  rintro _ w0 ⟨rfl, hw⟩
  obtain rfl := hw.symm
  clear hw C1
  go_wp2_with fail
  refine HC.out.mono ?_
  rintro _ w1 ⟨rfl, hb1⟩
  have eA : (w1.alloc (.cells #[.int .i64 (x0 : Int), .int .i64 (x1 : Int), .int .u8 x2] 23)).heap[w1.heap.size]? = some (.cells #[.int .i64 (x0 : Int), .int .i64 (x1 : Int), .int .u8 x2] 23 (0, 0)) := heap_new _ _
  have hbA := Bn hb1 (bel_alloc w1 (.cells #[.int .i64 (x0 : Int), .int .i64 (x1 : Int), .int .u8 x2] 23))
  have HDD := hid (HD.out _ hbA)
  have HEA := hid eA
  have HBA := hid hbA
  clear hb1 eA hbA HC HD
  go_wp2_with fail
  refine HDD.out.mono ?_
  rintro _ w2 ⟨rfl, hb2⟩
  have e2 := (hb2.block w1.heap.size (by simp)).trans HEA.out
  have e3 := heap_old w2 (.cells #[.int .i64 (x0 : Int), .int .i64 (x1 : Int), .int .u8 x2] 23) e2
  have k0 := Joins.cell_of_block e3 0
  have k1 := Joins.cell_of_block e3 1
  have k2 := Joins.cell_of_block e3 2
  simp only [List.getElem?_toArray, List.getElem?_cons_zero, List.getElem?_cons_succ] at k0 k1 k2
  have HB2 := hid (Bn (Bn HBA.out hb2) (bel_alloc w2 (.cells #[.int .i64 (x0 : Int), .int .i64 (x1 : Int), .int .u8 x2] 23)))
  have e4 := heap_new w2 (.cells #[.int .i64 (x0 : Int), .int .i64 (x1 : Int), .int .u8 x2] 23)
  have j0 := Joins.cell_of_block e4 0
  have j1 := Joins.cell_of_block e4 1
  have j2 := Joins.cell_of_block e4 2
  simp only [List.getElem?_toArray, List.getElem?_cons_zero, List.getElem?_cons_succ] at j0 j1 j2
  clear hb2 HDD e2 e3 e4 HEA HBA
  go_wp2_with fail
  refine (awake_any _).mono ?_
  rintro _ w3 ⟨rfl, hb3⟩
  have HB3 := hid (Bn HB2.out hb3)
  clear hb3
  go_wp2
  go_ret
  exact ⟨rfl, HB3.out⟩
theorem walk (a : Option Addr) (cap : Nat) (zs : List Int) (z : Int) (_ : (Lit.int .i64 z).wf = true) (w : World) (hr : Ri w .u8 a cap zs) :
    Calls Try.prog 4 #[.slice a zs.length cap, .int .i64 z] w fun e w' => e = .returned (.bool true) ∧ Below w.heap.size w w' := by
  by_cases hl : 65536 < zs.length
  · exact walk_long a cap zs z w hr hl
  · exact walk_cut a cap zs z w hr hl

set_option maxRecDepth 100000 in
theorem lifted (os : Os) (started : os.Started) (H : Type) (enc : TypeId × Value → H) :
    ReturnsInHanded {} Try.checked os 4 .any (Rows.lzLongestSpec.pre6 enc Try.prog Try.f4 Rows.lzLongestRow.domain false) (Rows.lzLongestSpec.post enc Try.prog Try.f4 false true false false) := by
  refine returnsInHanded_of_change (C := Try.checked) own started (by kernel_rfl) Try.func4
    (ChangeSpec.witness6 (enc := enc) (C := Try.checked) false ⟨#[], #[.slice none 0 0, .int .i64 0], []⟩ 8 (by kernel_rfl) (by kernel_rfl) (by kernel_rfl) (by kernel_rfl)) ?_
  intro W base args ds gs before hval0 hW _ _
  have hval : ∀ (j : Nat) t v, Try.f4.params[j]? = some t → args[j]? = some v → Value.okWide Try.prog W .any base t v := hval0
  have hW' := hW
  obtain ⟨p, q, hA0, hV, rfl, _, _⟩ := hW
  have hA : DataW.TrodAll enc Try.prog W 0 (fun _ => true) true Try.f4.params.toList args.toList ds p := hA0
  rw [Try.params4] at hA hval
  obtain ⟨v0, vs0, d0, ds0, p0, q0, hargs, rfl, rfl, h0, r0⟩ := trodAll_cons hA
  obtain ⟨v1, vs1, d1, ds1, p1, q1, rfl, rfl, rfl, h1, r1⟩ := trodAll_cons r0
  obtain ⟨rfl, rfl, rfl⟩ := trodAll_nil r1
  obtain rfl : args = #[v0, v1] := by cases args; simp_all
  obtain ⟨rfl, rfl⟩ := trodVars_none hV
  obtain ⟨a1, rfl, rfl, rfl, w1⟩ := open_int Try.underlying3 (hval 1 3 v1 rfl rfl) h1
  clear hA0
  simp only [List.append_nil] at hW'
  have hlt0 : ∀ x ∈ p0, x.block < W.heap.size := fun x hx => hW'.lt x (by simp [hx])
  have hk0 := h0
  obtain ⟨a0, cap0, zs0, rfl, hr0⟩ := open_ri Try.underlying33 Try.underlying5 Try.cells5 (hval 0 33 v0 rfl rfl) h0 hlt0
  clear hval0
  refine (walk a0 cap0 zs0 a1 w1 W hr0).mono fun e W' ⟨he, hb⟩ => ?_
  subst he
  exact ⟨_, rfl, _, _, _, [] ++ [], _, [], hW', trodAll_cons_mk (shut_bool Try.underlying4 _) trodAll_mk0, (trodAll_cons_mk (Below.trod Try.laidOut (by kernel_rfl) (of_decide_eq_true (by kernel_rfl)) hk0 hb hlt0) (trodAll_cons_mk (shut_int Try.underlying3 w1) trodAll_mk0)), rfl, hb.frame _, fun h => by cases h⟩

theorem over : Rows.lzLongestRow.holds Try.pinned (OpenSpec.ofChange Rows.lzLongestSpec) :=
  OpenClaim.holds_of_wide 4 Try.f4 rfl rfl rfl rfl rfl rfl rfl ⟨rfl, rfl, rfl, rfl, rfl⟩ rfl rfl rfl rfl rfl (by kernel_rfl) Try.func4 (by kernel_rfl)
    (of_decide_eq_true (by kernel_rfl)) (by unfold Func.isWrapper; first | (rw [if_pos (by decide +kernel)]; kernel_rfl) | (rw [if_neg (by decide +kernel)]; exact ⟨rfl, rfl⟩))
    (fun os started H enc _ => lifted os started H enc)

end Go.Proofs.Ytgdlmhgjhmcilaa.lzLongest
namespace Go.Proofs.Ytgdlmhgjhmcilaa
theorem lzLongest_holds : Rows.LzLongestSaid := lzLongest.over
#print axioms lzLongest_holds
end Go.Proofs.Ytgdlmhgjhmcilaa
