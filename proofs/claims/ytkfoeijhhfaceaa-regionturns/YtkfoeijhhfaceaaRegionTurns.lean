/-
  RegionTurns is proved for every input: a row without some blocks, with some more, and the row of all others are as the document says; no condition.
-/
import Derived.Test.YtkfoeijhhfaceaaPart14
namespace Go.Proofs.Ytkfoeijhhfaceaa.regionTurns
open Go.ChangeShapes Go.WideShapes Go.ChangeAt Go.RowKit

theorem own : ownKnob Try.prog.godebug = none := by kernel_rfl

set_option maxHeartbeats 6400000 in
set_option maxRecDepth 100000 in
theorem walk (b : Int) (_ : (Lit.int .i64 b).wf = true) (a : Option Addr) (cap : Nat) (l0 : List Ext) (e0 e1 : Int) (hf0 : (Lit.int .i64 e0).wf = true) (_ : (Lit.int .i64 e1).wf = true) (w : World) (hr : Rx w a cap l0) :
    Calls Try.prog 5 #[.int .i64 b, .slice a l0.length cap, .agg #[.int .i64 e0, .int .i64 e1]] w fun e w' => e = .returned (.bool true) ∧ Below w.heap.size w w' := by
  have hB0 := bel_alloc w (.cells #[.int .i64 e0, .int .i64 e1] 24)
  have HXE : Hid (Xb (w.alloc (.cells #[.int .i64 e0, .int .i64 e1] 24)) w.heap.size (e0, e1)) := heap_new w _
  have HC1 := hid (few_any a cap l0 (w.alloc (.cells #[.int .i64 e0, .int .i64 e1] 24)) (hr.later hB0))
  have hr1 := hr.take 5000
  have HB0 := hid hB0
  generalize l0.take 5000 = l at *
  have HR := hid hr1
  generalize l0.length = L0 at *
  have HM1 : Hid (∀ W, Below w.heap.size w W → Calls Try.prog 24 #[.int .i64 b, .slice a l.length cap, .agg #[.int .i64 e0, .int .i64 e1]] W (RwPost (claimO b l (e0, e1)) W)) := fun W hW => claim_word b a cap l e0 e1 W (HR.out.later hW) hf0
  have HM2 : Hid (∀ W, Below w.heap.size w W → Calls Try.prog 25 #[.int .i64 b, .slice a l.length cap, .agg #[.int .i64 e0, .int .i64 e1]] W (RwPost (claimO b l (e0, e1)) W)) := fun W hW => rclaim_word b a cap l e0 e1 W (HR.out.later hW) hf0
  have HM3 : Hid (∀ W, Below w.heap.size w W → Calls Try.prog 26 #[.int .i64 b, .slice a l.length cap, .agg #[.int .i64 e0, .int .i64 e1]] W (RwPost (giveO b l (e0, e1)) W)) := fun W hW => give_word b a cap l e0 e1 W (HR.out.later hW) hf0
  have HM4 : Hid (∀ W, Below w.heap.size w W → Calls Try.prog 27 #[.int .i64 b, .slice a l.length cap, .agg #[.int .i64 e0, .int .i64 e1]] W (RwPost (giveO b l (e0, e1)) W)) := fun W hW => rgive_word b a cap l e0 e1 W (HR.out.later hW) hf0
  have HM5 : Hid (∀ W, Below w.heap.size w W → Calls Try.prog 28 #[.int .i64 b, .slice a l.length cap] W (RwPost (otherO b l) W)) := fun W hW => other_word b a cap l W (HR.out.later hW)
  have HM6 : Hid (∀ W, Below w.heap.size w W → Calls Try.prog 29 #[.int .i64 b, .slice a l.length cap] W (RwPost (otherO b l) W)) := fun W hW => rother_word b a cap l W (HR.out.later hW)
  unfold RwPost at HM1 HM2 HM3 HM4 HM5 HM6
  have HF1 := hid (claim_fit b l (e0, e1))
  have HF2 := hid (give_fit b l (e0, e1))
  have HF3 := hid (other_fit b l)
  clear hr hr1 HR hB0 hf0
  generalize claimO b l (e0, e1) = o1 at *
  obtain ⟨l1, r1⟩ := o1
  generalize giveO b l (e0, e1) = o2 at *
  obtain ⟨l2, r2⟩ := o2
  generalize otherO b l = o3 at *
  obtain ⟨l3, r3⟩ := o3
  dsimp only at *
  generalize l.length = L at *
  have q1' : (r1 == r1) = true := by simp
  have q2' : (r2 == r2) = true := by simp
  have q3' : (r3 == r3) = true := by simp
  go_enter Try.func5, Try.ntmps5
  go_wp2_with fail
  refine HC1.out.mono ?_
  rintro _ w0 ⟨rfl, hw⟩
  obtain rfl := hw.symm
  clear hw HC1
  have HW0 := hid HB0.out
  have HN1 := hid (HM1.out _ HW0.out)
  obtain ⟨c1, d1⟩ := HXE.out.cells
  dsimp only at c1 d1
  clear HM1
  go_wp2_with fail
  refine HN1.out.mono ?_
  rintro _ w1 ⟨v1, rfl, hown1, hb1⟩
  have HW1 := hid (Bn HW0.out hb1)
  have HX1 := hid (HXE.out.later hb1)
  have HO1_1 := hid hown1
  clear hb1 hown1 HN1 HW0 HXE c1 d1 
  have HN2 := hid (HM2.out _ HW1.out)
  obtain ⟨c2, d2⟩ := HX1.out.cells
  dsimp only at c2 d2
  clear HM2
  go_wp2_with fail
  refine HN2.out.mono ?_
  rintro _ w2 ⟨v2, rfl, hown2, hb2⟩
  have HW2 := hid (Bn HW1.out hb2)
  have HX2 := hid (HX1.out.later hb2)
  have HO1_2 := hid (own_later HO1_1.out hb2)
  have HO2_2 := hid hown2
  clear hb2 hown2 HN2 HW1 HX1 c2 d2 HO1_1
  have HN3 := hid (HM3.out _ HW2.out)
  obtain ⟨c3, d3⟩ := HX2.out.cells
  dsimp only at c3 d3
  clear HM3
  go_wp2_with fail
  refine HN3.out.mono ?_
  rintro _ w3 ⟨v3, rfl, hown3, hb3⟩
  have HW3 := hid (Bn HW2.out hb3)
  have HX3 := hid (HX2.out.later hb3)
  have HO1_3 := hid (own_later HO1_2.out hb3)
  have HO2_3 := hid (own_later HO2_2.out hb3)
  have HO3_3 := hid hown3
  clear hb3 hown3 HN3 HW2 HX2 c3 d3 HO1_2 HO2_2
  have HN4 := hid (HM4.out _ HW3.out)
  obtain ⟨c4, d4⟩ := HX3.out.cells
  dsimp only at c4 d4
  clear HM4
  go_wp2_with fail
  refine HN4.out.mono ?_
  rintro _ w4 ⟨v4, rfl, hown4, hb4⟩
  have HW4 := hid (Bn HW3.out hb4)
  have HX4 := hid (HX3.out.later hb4)
  have HO1_4 := hid (own_later HO1_3.out hb4)
  have HO2_4 := hid (own_later HO2_3.out hb4)
  have HO3_4 := hid (own_later HO3_3.out hb4)
  have HO4_4 := hid hown4
  clear hb4 hown4 HN4 HW3 HX3 c4 d4 HO1_3 HO2_3 HO3_3
  have HN5 := hid (HM5.out _ HW4.out)
  obtain ⟨c5, d5⟩ := HX4.out.cells
  dsimp only at c5 d5
  clear HM5
  go_wp2_with fail
  refine HN5.out.mono ?_
  rintro _ w5 ⟨v5, rfl, hown5, hb5⟩
  have HW5 := hid (Bn HW4.out hb5)
  have HX5 := hid (HX4.out.later hb5)
  have HO1_5 := hid (own_later HO1_4.out hb5)
  have HO2_5 := hid (own_later HO2_4.out hb5)
  have HO3_5 := hid (own_later HO3_4.out hb5)
  have HO4_5 := hid (own_later HO4_4.out hb5)
  have HO5_5 := hid hown5
  clear hb5 hown5 HN5 HW4 HX4 c5 d5 HO1_4 HO2_4 HO3_4 HO4_4
  have HN6 := hid (HM6.out _ HW5.out)
  obtain ⟨c6, d6⟩ := HX5.out.cells
  dsimp only at c6 d6
  clear HM6
  go_wp2_with fail
  refine HN6.out.mono ?_
  rintro _ w6 ⟨v6, rfl, hown6, hb6⟩
  have HW6 := hid (Bn HW5.out hb6)
  have HX6 := hid (HX5.out.later hb6)
  have HO1_6 := hid (own_later HO1_5.out hb6)
  have HO2_6 := hid (own_later HO2_5.out hb6)
  have HO3_6 := hid (own_later HO3_5.out hb6)
  have HO4_6 := hid (own_later HO4_5.out hb6)
  have HO5_6 := hid (own_later HO5_5.out hb6)
  have HO6_6 := hid hown6
  clear hb6 hown6 HN6 HW5 HX5 c6 d6 HO1_5 HO2_5 HO3_5 HO4_5 HO5_5
  obtain ⟨a1, p1, rfl, hx1⟩ := Rx.own HO1_6.out HF1.out
  obtain ⟨a2, p2, rfl, hx2⟩ := Rx.own HO2_6.out HF1.out
  obtain ⟨a3, p3, rfl, hx3⟩ := Rx.own HO3_6.out HF2.out
  obtain ⟨a4, p4, rfl, hx4⟩ := Rx.own HO4_6.out HF2.out
  obtain ⟨a5, p5, rfl, hx5⟩ := Rx.own HO5_6.out HF3.out
  obtain ⟨a6, p6, rfl, hx6⟩ := Rx.own HO6_6.out HF3.out
  have HSE1 : Hid (∀ V, Below w6.heap.size w6 V → Calls Try.prog 16 #[.slice a1 l1.length p1, .slice a2 l1.length p2] V fun e w' => e = .returned (.bool true) ∧ Below V.heap.size V w') := fun V hV => same_eq a1 p1 l1 a2 p2 V (hx1.later hV) (hx2.later hV)
  have HSE2 : Hid (∀ V, Below w6.heap.size w6 V → Calls Try.prog 16 #[.slice a3 l2.length p3, .slice a4 l2.length p4] V fun e w' => e = .returned (.bool true) ∧ Below V.heap.size V w') := fun V hV => same_eq a3 p3 l2 a4 p4 V (hx3.later hV) (hx4.later hV)
  have HSE3 : Hid (∀ V, Below w6.heap.size w6 V → Calls Try.prog 16 #[.slice a5 l3.length p5, .slice a6 l3.length p6] V fun e w' => e = .returned (.bool true) ∧ Below V.heap.size V w') := fun V hV => same_eq a5 p5 l3 a6 p6 V (hx5.later hV) (hx6.later hV)
  clear hx1 hx2 hx3 hx4 hx5 hx6 HO1_6 HO2_6 HO3_6 HO4_6 HO5_6 HO6_6 HF1 HF2 HF3 HX6
  generalize l1.length = n1 at *
  generalize l2.length = n2 at *
  generalize l3.length = n3 at *
  have HS0 := hid (HSE1.out w6 (Below.refl _ _))
  go_wp2_with fail
  refine HS0.out.mono ?_
  rintro _ u1 ⟨rfl, hu1⟩
  have HU1 := hid hu1
  have HS1 := hid (HSE2.out u1 hu1)
  clear hu1 HS0 HSE1 HSE2
  go_wp2_with fail
  refine HS1.out.mono ?_
  rintro _ u2 ⟨rfl, hu2⟩
  have HU2 := hid (Bn HU1.out hu2)
  have HS2 := hid (HSE3.out u2 HU2.out)
  clear hu2 HU1 HS1 HSE3
  go_wp2_with fail
  refine HS2.out.mono ?_
  rintro _ u3 ⟨rfl, hu3⟩
  have HU3 := hid (Bn HU2.out hu3)
  clear hu3 HU2 HS2
  go_wp2_with fail
  refine (awake_any _).mono ?_
  rintro _ u4 ⟨rfl, hu4⟩
  have HU4 := hid (Bn HW6.out (Bn HU3.out hu4))
  clear hu4
  go_wp2
  go_ret
  exact ⟨rfl, HU4.out⟩

set_option maxRecDepth 100000 in
theorem lifted (os : Os) (started : os.Started) (H : Type) (enc : TypeId × Value → H) :
    ReturnsInHanded {} Try.checked os 5 .any (Rows.regionTurnsSpec.pre6 enc Try.prog Try.f5 Rows.regionTurnsRow.domain false) (Rows.regionTurnsSpec.post enc Try.prog Try.f5 false true false false) := by
  refine returnsInHanded_of_change (C := Try.checked) own started (by kernel_rfl) Try.func5
    (ChangeSpec.witness6 (enc := enc) (C := Try.checked) false ⟨#[], #[.int .i64 0, .slice none 0 0, .agg #[.int .i64 0, .int .i64 0]], []⟩ 8 (by kernel_rfl) (by kernel_rfl) (by kernel_rfl) (by kernel_rfl)) ?_
  intro W base args ds gs before hval0 hW _ _
  have hval : ∀ (j : Nat) t v, Try.f5.params[j]? = some t → args[j]? = some v → Value.okWide Try.prog W .any base t v := hval0
  have hW' := hW
  obtain ⟨p, q, hA0, hV, rfl, _, _⟩ := hW
  have hA : DataW.TrodAll enc Try.prog W 0 (fun _ => true) true Try.f5.params.toList args.toList ds p := hA0
  rw [Try.params5] at hA hval
  obtain ⟨v0, vs0, d0, ds0, p0, q0, hargs, rfl, rfl, h0, r0⟩ := trodAll_cons hA
  obtain ⟨v1, vs1, d1, ds1, p1, q1, rfl, rfl, rfl, h1, r1⟩ := trodAll_cons r0
  obtain ⟨v2, vs2, d2, ds2, p2, q2, rfl, rfl, rfl, h2, r2⟩ := trodAll_cons r1
  obtain ⟨rfl, rfl, rfl⟩ := trodAll_nil r2
  obtain rfl : args = #[v0, v1, v2] := by cases args; simp_all
  obtain ⟨rfl, rfl⟩ := trodVars_none hV
  obtain ⟨a0, rfl, rfl, rfl, w0⟩ := open_int Try.underlying3 (hval 0 3 v0 rfl rfl) h0
  clear hA0
  simp only [List.append_nil, List.nil_append] at hW'
  have hlt1 : ∀ x ∈ p1, x.block < W.heap.size := fun x hx => hW'.lt x (by simp [hx])
  have hk1 := h1
  obtain ⟨a1, cap1, l1, rfl, hr1⟩ := open_rx (hval 1 22 v1 rfl rfl) h1 hlt1
  have hlt2 : ∀ x ∈ p2, x.block < W.heap.size := fun x hx => hW'.lt x (by simp [hx])
  have hk2 := h2
  obtain ⟨⟨x2, y2⟩, rfl, f2, g2⟩ := open_ex (hval 2 24 v2 rfl rfl) h2
  clear hval0
  refine (walk a0 w0 a1 cap1 l1 x2 y2 f2 g2 W hr1).mono fun e W' ⟨he, hb⟩ => ?_
  subst he
  exact ⟨_, rfl, _, _, _, [] ++ [], _, [], hW', trodAll_cons_mk (shut_bool Try.underlying4 _) trodAll_mk0, (trodAll_cons_mk (shut_int Try.underlying3 w0) (trodAll_cons_mk (Below.trod Try.laidOut (by kernel_rfl) (of_decide_eq_true (by kernel_rfl)) hk1 hb hlt1) (trodAll_cons_mk (Below.trod Try.laidOut (by kernel_rfl) (of_decide_eq_true (by kernel_rfl)) hk2 hb hlt2) trodAll_mk0))), rfl, hb.frame _, fun h => by cases h⟩

theorem over : Rows.regionTurnsRow.holds Try.pinned (OpenSpec.ofChange Rows.regionTurnsSpec) :=
  OpenClaim.holds_of_wide 5 Try.f5 rfl rfl rfl rfl rfl rfl rfl ⟨rfl, rfl, rfl, rfl, rfl⟩ rfl rfl rfl rfl rfl (by kernel_rfl) Try.func5 (by kernel_rfl)
    (of_decide_eq_true (by kernel_rfl)) (by unfold Func.isWrapper; first | (rw [if_pos (by decide +kernel)]; kernel_rfl) | (rw [if_neg (by decide +kernel)]; exact ⟨rfl, rfl⟩))
    (fun os started H enc _ => lifted os started H enc)

end Go.Proofs.Ytkfoeijhhfaceaa.regionTurns
namespace Go.Proofs.Ytkfoeijhhfaceaa
theorem regionTurns_holds : Rows.RegionTurnsSaid := regionTurns.over
#print axioms regionTurns_holds
end Go.Proofs.Ytkfoeijhhfaceaa
