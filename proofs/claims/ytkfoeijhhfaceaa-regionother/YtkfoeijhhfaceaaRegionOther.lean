/-
  RegionOther is proved for every input: a row and the row of all others have each block once, and the others of these are the row; no condition.
-/
import Derived.Test.YtkfoeijhhfaceaaPart14
namespace Go.Proofs.Ytkfoeijhhfaceaa.regionOther
open Go.ChangeShapes Go.WideShapes Go.ChangeAt Go.RowKit

theorem own : ownKnob Try.prog.godebug = none := by kernel_rfl

set_option maxHeartbeats 6400000 in
set_option maxRecDepth 100000 in
theorem walk (b : Int) (_ : (Lit.int .i64 b).wf = true) (a : Option Addr) (cap : Nat) (l0 : List Ext) (w : World) (hr : Rx w a cap l0) :
    Calls Try.prog 8 #[.int .i64 b, .slice a l0.length cap] w fun e w' => e = .returned (.bool true) ∧ Below w.heap.size w w' := by
  have HC1 : Hid (∀ W, Below w.heap.size w W → Calls Try.prog 9 #[.slice a l0.length cap] W fun e w' => e = .returned (.slice a (l0.take 5000).length cap) ∧ w' = W) := fun W hW => few_any a cap l0 W (hr.later hW)
  have hr1 := hr.take 5000
  generalize l0.take 5000 = l at *
  have HR := hid hr1
  generalize l0.length = L0 at *
  have HO : Hid (∀ W, Below w.heap.size w W → Calls Try.prog 28 #[.int .i64 b, .slice a l.length cap] W (RwPost (otherO b l) W)) := fun W hW => other_word b a cap l W (HR.out.later hW)
  have HCR : Hid (∀ W, Below w.heap.size w W → Calls Try.prog 15 #[.int .i64 b, .slice a l.length cap] W fun e w' => e = .returned (.int .i64 (chkO b l)) ∧ Below W.heap.size W w') := fun W hW => rcheck_any b a cap l W (HR.out.later hW)
  unfold RwPost at HO
  clear hr hr1
  by_cases h0 : chkO b l = 0
  · have hrow := chk_row h0
    obtain ⟨hrow2, _⟩ := btw_ok hrow
    have HOE : Hid (otherO b l = (btw b l, 0)) := by show _ = _; unfold otherO; rw [h0, if_neg (show ¬ ((0 : Int) ≠ 0) from fun h => h rfl)]
    rw [HOE.out] at HO
    have HFB := hid (row_fit hrow2)
    have HFL := hid HR.out.fit
    have HO2 : Hid (∀ W a1 c1, Rx W a1 c1 (btw b l) → Calls Try.prog 28 #[.int .i64 b, .slice a1 (btw b l).length c1] W (RwPost (l, 0) W)) := fun W a1 c1 h1 => by
      have := other_word b a1 c1 (btw b l) W h1
      rwa [show otherO b (btw b l) = (l, 0) from by unfold otherO; rw [row_chk hrow2, if_neg (show ¬ ((0 : Int) ≠ 0) from fun h => h rfl), btw_twice hrow]] at this
    unfold RwPost at HO2
    have HS1 : Hid (∀ W, Below w.heap.size w W → Calls Try.prog 12 #[.slice a l.length cap] W fun e w' => e = .returned (.tuple #[.int .i64 (sumE l), .int .i64 0]) ∧ Below W.heap.size W w') := fun W hW => by
      have := sum_word a cap l W (HR.out.later hW)
      rwa [show sumO l = (sumE l, 0) from by unfold sumO; rw [if_pos (row_chk (row_wide hrow))]] at this
    have HS2 : Hid (∀ W a1 c1, Rx W a1 c1 (btw b l) → Calls Try.prog 12 #[.slice a1 (btw b l).length c1] W fun e w' => e = .returned (.tuple #[.int .i64 (sumE (btw b l)), .int .i64 0]) ∧ Below W.heap.size W w') := fun W a1 c1 h1 => by
      have := sum_word a1 c1 (btw b l) W h1
      rwa [show sumO (btw b l) = (sumE (btw b l), 0) from by unfold sumO; rw [if_pos (row_chk (row_wide hrow2))]] at this
    have HC2 : Hid (∀ W a1 c1, Rx W a1 c1 (btw b l) → Calls Try.prog 15 #[.int .i64 b, .slice a1 (btw b l).length c1] W fun e w' => e = .returned (.int .i64 0) ∧ Below W.heap.size W w') := fun W a1 c1 h1 => by
      have := rcheck_any b a1 c1 (btw b l) W h1
      rwa [row_chk hrow2] at this
    have HSA : Hid (∀ W a1 c1, Below w.heap.size w W → Rx W a1 c1 l → Calls Try.prog 16 #[.slice a1 l.length c1, .slice a l.length cap] W fun e w' => e = .returned (.bool true) ∧ Below W.heap.size W w') := fun W a1 c1 hW h1 => same_eq a1 c1 l a cap W h1 (HR.out.later hW)
    have HSUM : Hid (IntKind.i64.wrap (sumE l + sumE (btw b l)) = b) := by
      show _ = _
      rw [sum_all hrow]
      have := hrow.lo
      have := hrow.hi
      exact IntWalk.i64_in _ ⟨by omega, by omega⟩
    have hsum := sum_all hrow
    have hl1 := hrow.lo
    have hl2 := hrow.hi
    have hp1 := (sumE_rng l (fun x hx => ⟨(row_ok hrow x hx).2.1, by have := row_ok hrow x hx; unfold Ok at this; omega⟩)).1
    have hp2 := (sumE_rng (btw b l) (fun x hx => ⟨(row_ok hrow2 x hx).2.1, by have := row_ok hrow2 x hx; unfold Ok at this; omega⟩)).1
    clear HR HCR h0 hrow hrow2 HOE
    generalize btw b l = m at *
    generalize sumE l = q1 at *
    generalize sumE m = q2 at *
    dsimp only at *
    go_enter Try.func8, Try.ntmps8
    go_wp2_with fail
    refine (awake_any _).mono ?_
    rintro _ wA ⟨rfl, hbA⟩
    have HBA := hid hbA
    have HD1 := hid (HC1.out wA hbA)
    have HO1 := hid (HO.out wA hbA)
    clear hbA HC1 HO
    go_wp2_with fail
    refine HD1.out.mono ?_
    rintro _ w0 ⟨rfl, hw⟩
    obtain rfl := hw.symm
    clear hw HD1
    go_wp2_with fail
    refine HO1.out.mono ?_
    rintro _ w1 ⟨va, rfl, hown1, hb1⟩
    have HB1 := hid (Bn HBA.out hb1)
    obtain ⟨a1, c1, rfl, hx1⟩ := Rx.own hown1 HFB.out
    have HX1 := hid hx1
    have HO3 := hid (HO2.out w1 a1 c1 hx1)
    clear hown1 hb1 hx1 HO1 HBA HO2
    go_wp2_with fail
    refine HO3.out.mono ?_
    rintro _ w2 ⟨vb, rfl, hown2, hb2⟩
    have HB2 := hid (Bn HB1.out hb2)
    obtain ⟨a2, c2, rfl, hx2⟩ := Rx.own hown2 HFL.out
    have HX2 := hid hx2
    have HX12 := hid (HX1.out.later hb2)
    have HS3 := hid (HS1.out w2 HB2.out)
    clear hown2 hb2 hx2 HO3 HB1 HX1 HS1
    go_wp2_with fail
    refine HS3.out.mono ?_
    rintro _ w3 ⟨rfl, hb3⟩
    have HB3 := hid (Bn HB2.out hb3)
    have HX23 := hid (HX2.out.later hb3)
    have HX13 := hid (HX12.out.later hb3)
    have HS4 := hid (HS2.out w3 a1 c1 HX13.out)
    clear hb3 HB2 HX2 HX12 HS3 HS2
    go_wp2_with fail
    refine HS4.out.mono ?_
    rintro _ w4 ⟨rfl, hb4⟩
    have HB4 := hid (Bn HB3.out hb4)
    have HX14 := hid (HX13.out.later hb4)
    have HSE := hid (HSA.out w4 a2 c2 HB4.out (HX23.out.later hb4))
    clear hb4 HB3 HX23 HX13 HS4 HSA
    go_wp2_with fail
    refine HSE.out.mono ?_
    rintro _ w5 ⟨rfl, hb5⟩
    have HB5 := hid (Bn HB4.out hb5)
    have HC3 := hid (HC2.out w5 a1 c1 (HX14.out.later hb5))
    clear hb5 HB4 HX14 HSE HC2
    go_wp2_with fail
    refine HC3.out.mono ?_
    rintro _ w6 ⟨rfl, hb6⟩
    have HB6 := hid (Bn HB5.out hb6)
    clear hb6 HB5 HC3
    go_wp2
    go_ret
    exact ⟨rfl, HB6.out⟩
  · have HOE : Hid (otherO b l = ([], chkO b l)) := by show _ = _; unfold otherO; rw [if_pos h0]
    rw [HOE.out] at HO
    clear HR HOE
    generalize chkO b l = c at *
    have hd : decide (c = 0) = false := decide_eq_false h0
    have hcc : (c == c) = true := by simp
    dsimp only [List.length_nil, List.flatMap_nil] at HO
    generalize l.length = L at *
    go_enter Try.func8, Try.ntmps8
    go_wp2_with fail
    refine (awake_any _).mono ?_
    rintro _ wA ⟨rfl, hbA⟩
    have HBA := hid hbA
    have HD1 := hid (HC1.out wA hbA)
    have HO1 := hid (HO.out wA hbA)
    clear hbA HC1 HO
    go_wp2_with fail
    refine HD1.out.mono ?_
    rintro _ w0 ⟨rfl, hw⟩
    obtain rfl := hw.symm
    clear hw HD1
    go_wp2_with fail
    refine HO1.out.mono ?_
    rintro _ w1 ⟨va, rfl, hown1, hb1⟩
    have HB1 := hid (Bn HBA.out hb1)
    obtain ⟨a1, c1, rfl⟩ : ∃ a1 c1, va = .slice a1 0 c1 := by
      rcases hown1.2 with ⟨rfl, _⟩ | ⟨g, cap, _, rfl, _⟩
      · exact ⟨none, 0, rfl⟩
      · exact ⟨_, _, rfl⟩
    have HC3 := hid (HCR.out w1 HB1.out)
    clear hown1 hb1 HO1 HBA HCR
    go_wp2_with fail
    refine HC3.out.mono ?_
    rintro _ w2 ⟨rfl, hb2⟩
    have HB2 := hid (Bn HB1.out hb2)
    clear hb2 HC3 HB1
    go_wp2
    go_ret
    exact ⟨by simp, HB2.out⟩

set_option maxRecDepth 100000 in
theorem lifted (os : Os) (started : os.Started) (H : Type) (enc : TypeId × Value → H) :
    ReturnsInHanded {} Try.checked os 8 .any (Rows.regionOtherSpec.pre6 enc Try.prog Try.f8 Rows.regionOtherRow.domain false) (Rows.regionOtherSpec.post enc Try.prog Try.f8 false true false false) := by
  refine returnsInHanded_of_change (C := Try.checked) own started (by kernel_rfl) Try.func8
    (ChangeSpec.witness6 (enc := enc) (C := Try.checked) false ⟨#[], #[.int .i64 0, .slice none 0 0], []⟩ 8 (by kernel_rfl) (by kernel_rfl) (by kernel_rfl) (by kernel_rfl)) ?_
  intro W base args ds gs before hval0 hW _ _
  have hval : ∀ (j : Nat) t v, Try.f8.params[j]? = some t → args[j]? = some v → Value.okWide Try.prog W .any base t v := hval0
  have hW' := hW
  obtain ⟨p, q, hA0, hV, rfl, _, _⟩ := hW
  have hA : DataW.TrodAll enc Try.prog W 0 (fun _ => true) true Try.f8.params.toList args.toList ds p := hA0
  rw [Try.params8] at hA hval
  obtain ⟨v0, vs0, d0, ds0, p0, q0, hargs, rfl, rfl, h0, r0⟩ := trodAll_cons hA
  obtain ⟨v1, vs1, d1, ds1, p1, q1, rfl, rfl, rfl, h1, r1⟩ := trodAll_cons r0
  obtain ⟨rfl, rfl, rfl⟩ := trodAll_nil r1
  obtain rfl : args = #[v0, v1] := by cases args; simp_all
  obtain ⟨rfl, rfl⟩ := trodVars_none hV
  obtain ⟨a0, rfl, rfl, rfl, w0⟩ := open_int Try.underlying3 (hval 0 3 v0 rfl rfl) h0
  clear hA0
  simp only [List.append_nil, List.nil_append] at hW'
  have hlt1 : ∀ x ∈ p1, x.block < W.heap.size := fun x hx => hW'.lt x (by simp [hx])
  have hk1 := h1
  obtain ⟨a1, cap1, l1, rfl, hr1⟩ := open_rx (hval 1 22 v1 rfl rfl) h1 hlt1
  clear hval0
  refine (walk a0 w0 a1 cap1 l1 W hr1).mono fun e W' ⟨he, hb⟩ => ?_
  subst he
  exact ⟨_, rfl, _, _, _, [] ++ [], _, [], hW', trodAll_cons_mk (shut_bool Try.underlying4 _) trodAll_mk0, (trodAll_cons_mk (shut_int Try.underlying3 w0) (trodAll_cons_mk (Below.trod Try.laidOut (by kernel_rfl) (of_decide_eq_true (by kernel_rfl)) hk1 hb hlt1) trodAll_mk0)), rfl, hb.frame _, fun h => by cases h⟩

theorem over : Rows.regionOtherRow.holds Try.pinned (OpenSpec.ofChange Rows.regionOtherSpec) :=
  OpenClaim.holds_of_wide 8 Try.f8 rfl rfl rfl rfl rfl rfl rfl ⟨rfl, rfl, rfl, rfl, rfl⟩ rfl rfl rfl rfl rfl (by kernel_rfl) Try.func8 (by kernel_rfl)
    (of_decide_eq_true (by kernel_rfl)) (by unfold Func.isWrapper; first | (rw [if_pos (by decide +kernel)]; kernel_rfl) | (rw [if_neg (by decide +kernel)]; exact ⟨rfl, rfl⟩))
    (fun os started H enc _ => lifted os started H enc)

end Go.Proofs.Ytkfoeijhhfaceaa.regionOther
namespace Go.Proofs.Ytkfoeijhhfaceaa
theorem regionOther_holds : Rows.RegionOtherSaid := regionOther.over
#print axioms regionOther_holds
end Go.Proofs.Ytkfoeijhhfaceaa
