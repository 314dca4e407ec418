/-
  RegionTakes is proved for every input: the first blocks that fit, and the row without them, are as the document says; no condition.
-/
import Derived.Test.YtkfoeijhhfaceaaPart14
namespace Go.Proofs.Ytkfoeijhhfaceaa.regionTakes
open Go.ChangeShapes Go.WideShapes Go.ChangeAt Go.RowKit

theorem own : ownKnob Try.prog.godebug = none := by kernel_rfl

set_option maxHeartbeats 6400000 in
set_option maxRecDepth 100000 in
theorem walk (b : Int) (_ : (Lit.int .i64 b).wf = true) (a : Option Addr) (cap : Nat) (l0 : List Ext) (n : Int) (_ : (Lit.int .i64 n).wf = true) (w : World) (hr : Rx w a cap l0) :
    Calls Try.prog 4 #[.int .i64 b, .slice a l0.length cap, .int .i64 n] w fun e w' => e = .returned (.bool true) ∧ Below w.heap.size w w' := by
  have HC1 := hid (few_any a cap l0 w hr)
  have hr1 := hr.take 5000
  generalize l0.take 5000 = l at *
  have HR := hid hr1
  generalize l0.length = L0 at *
  have HT : Hid (∀ W, Below w.heap.size w W → Calls Try.prog 22 #[.int .i64 b, .slice a l.length cap, .int .i64 n] W (TakePost (takeO b l n) W)) := fun W hW => take_word b a cap l n W (HR.out.later hW)
  have HTR : Hid (∀ W, Below w.heap.size w W → Calls Try.prog 23 #[.int .i64 b, .slice a l.length cap, .int .i64 n] W (TakePost (takeO b l n) W)) := fun W hW => rtake_word b a cap l n W (HR.out.later hW)
  unfold TakePost at HT HTR
  have HFT := hid (take_fit b l n)
  clear hr hr1 HR
  generalize takeO b l n = o at *
  obtain ⟨⟨g1, g2⟩, ol, oe⟩ := o
  dsimp only [extV] at *
  generalize l.length = L at *
  have e1' : (oe == oe) = true := by simp
  have heq : ∀ W, (binOp .eql 24 (.agg #[.int .i64 g1, .int .i64 g2]) (.agg #[.int .i64 g1, .int .i64 g2])).run Try.prog W = .ok (.bool true) W := fun W => by rw [run_eql24]; simp
  have HT0 := hid (HT.out w (Below.refl _ _))
  clear HT
  go_enter Try.func4, Try.ntmps4
  go_wp2_with fail
  refine HC1.out.mono ?_
  rintro _ w0 ⟨rfl, hw⟩
  obtain rfl := hw.symm
  clear hw HC1
  go_wp2_with fail
  refine HT0.out.mono ?_
  rintro _ w1 ⟨va, rfl, hown1, hb1⟩
  have hA := bel_alloc w1 (.cells #[.int .i64 g1, .int .i64 g2] 24)
  have HB1 := hid (Bn hb1 hA)
  have HO1 := hid (own_later hown1 hA)
  have HX1 : Hid (Xb (w1.alloc (.cells #[.int .i64 g1, .int .i64 g2] 24)) w1.heap.size (g1, g2)) := heap_new w1 _
  have HT1 := hid (HTR.out _ HB1.out)
  clear hb1 hown1 hA HTR HT0
  go_wp2_with fail
  refine HT1.out.mono ?_
  rintro _ w2 ⟨vb, rfl, hown2, hb2⟩
  have hA := bel_alloc w2 (.cells #[.int .i64 g1, .int .i64 g2] 24)
  have HB2 := hid (Bn (Bn HB1.out hb2) hA)
  obtain ⟨a1, c1, rfl, hx1⟩ := Rx.own (own_later (own_later HO1.out hb2) hA) HFT.out
  obtain ⟨a2, c2, rfl, hx2⟩ := Rx.own (own_later hown2 hA) HFT.out
  obtain ⟨p0, p1⟩ := (HX1.out.later (Bn hb2 hA)).cells
  have hX2 : Xb (w2.alloc (.cells #[.int .i64 g1, .int .i64 g2] 24)) w2.heap.size (g1, g2) := heap_new w2 _
  obtain ⟨q0, q1⟩ := hX2.cells
  dsimp only at p0 p1 q0 q1
  have HSE := hid (same_eq a1 c1 ol a2 c2 _ hx1 hx2)
  clear hown2 hb2 hA HT1 HO1 HX1 HB1 hx1 hx2 hX2
  generalize ol.length = OL at *
  generalize w1.heap.size = s1 at *
  go_wp2_with fail
  refine HSE.out.mono ?_
  rintro _ w3 ⟨rfl, hb3⟩
  have HB3 := hid (Bn HB2.out hb3)
  clear hb3 HSE HB2
  go_wp2_with fail
  refine (awake_any _).mono ?_
  rintro _ w4 ⟨rfl, hb4⟩
  have HB4 := hid (Bn HB3.out hb4)
  clear hb4
  go_wp2
  go_ret
  exact ⟨rfl, HB4.out⟩

set_option maxRecDepth 100000 in
theorem lifted (os : Os) (started : os.Started) (H : Type) (enc : TypeId × Value → H) :
    ReturnsInHanded {} Try.checked os 4 .any (Rows.regionTakesSpec.pre6 enc Try.prog Try.f4 Rows.regionTakesRow.domain false) (Rows.regionTakesSpec.post enc Try.prog Try.f4 false true false false) := by
  refine returnsInHanded_of_change (C := Try.checked) own started (by kernel_rfl) Try.func4
    (ChangeSpec.witness6 (enc := enc) (C := Try.checked) false ⟨#[], #[.int .i64 0, .slice none 0 0, .int .i64 0], []⟩ 8 (by kernel_rfl) (by kernel_rfl) (by kernel_rfl) (by kernel_rfl)) ?_
  intro W base args ds gs before hval0 hW _ _
  have hval : ∀ (j : Nat) t v, Try.f4.params[j]? = some t → args[j]? = some v → Value.okWide Try.prog W .any base t v := hval0
  have hW' := hW
  obtain ⟨p, q, hA0, hV, rfl, _, _⟩ := hW
  have hA : DataW.TrodAll enc Try.prog W 0 (fun _ => true) true Try.f4.params.toList args.toList ds p := hA0
  rw [Try.params4] at hA hval
  obtain ⟨v0, vs0, d0, ds0, p0, q0, hargs, rfl, rfl, h0, r0⟩ := trodAll_cons hA
  obtain ⟨v1, vs1, d1, ds1, p1, q1, rfl, rfl, rfl, h1, r1⟩ := trodAll_cons r0
  obtain ⟨v2, vs2, d2, ds2, p2, q2, rfl, rfl, rfl, h2, r2⟩ := trodAll_cons r1
  obtain ⟨rfl, rfl, rfl⟩ := trodAll_nil r2
  obtain rfl : args = #[v0, v1, v2] := by cases args; simp_all
  obtain ⟨rfl, rfl⟩ := trodVars_none hV
  obtain ⟨a0, rfl, rfl, rfl, w0⟩ := open_int Try.underlying3 (hval 0 3 v0 rfl rfl) h0
  obtain ⟨a2, rfl, rfl, rfl, w2⟩ := open_int Try.underlying3 (hval 2 3 v2 rfl rfl) h2
  clear hA0
  simp only [List.append_nil, List.nil_append] at hW'
  have hlt1 : ∀ x ∈ p1, x.block < W.heap.size := fun x hx => hW'.lt x (by simp [hx])
  have hk1 := h1
  obtain ⟨a1, cap1, l1, rfl, hr1⟩ := open_rx (hval 1 22 v1 rfl rfl) h1 hlt1
  clear hval0
  refine (walk a0 w0 a1 cap1 l1 a2 w2 W hr1).mono fun e W' ⟨he, hb⟩ => ?_
  subst he
  exact ⟨_, rfl, _, _, _, [] ++ [], _, [], hW', trodAll_cons_mk (shut_bool Try.underlying4 _) trodAll_mk0, (trodAll_cons_mk (shut_int Try.underlying3 w0) (trodAll_cons_mk (Below.trod Try.laidOut (by kernel_rfl) (of_decide_eq_true (by kernel_rfl)) hk1 hb hlt1) (trodAll_cons_mk (shut_int Try.underlying3 w2) trodAll_mk0))), rfl, hb.frame _, fun h => by cases h⟩

theorem over : Rows.regionTakesRow.holds Try.pinned (OpenSpec.ofChange Rows.regionTakesSpec) :=
  OpenClaim.holds_of_wide 4 Try.f4 rfl rfl rfl rfl rfl rfl rfl ⟨rfl, rfl, rfl, rfl, rfl⟩ rfl rfl rfl rfl rfl (by kernel_rfl) Try.func4 (by kernel_rfl)
    (of_decide_eq_true (by kernel_rfl)) (by unfold Func.isWrapper; first | (rw [if_pos (by decide +kernel)]; kernel_rfl) | (rw [if_neg (by decide +kernel)]; exact ⟨rfl, rfl⟩))
    (fun os started H enc _ => lifted os started H enc)

end Go.Proofs.Ytkfoeijhhfaceaa.regionTakes
namespace Go.Proofs.Ytkfoeijhhfaceaa
theorem regionTakes_holds : Rows.RegionTakesSaid := regionTakes.over
#print axioms regionTakes_holds
end Go.Proofs.Ytkfoeijhhfaceaa
