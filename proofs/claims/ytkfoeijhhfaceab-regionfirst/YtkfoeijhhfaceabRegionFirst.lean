/-
  RegionFirst is proved for every input: what is taken begins no later than any place where as many blocks are free; no condition.
-/
import Derived.Test.YtkfoeijhhfaceabPart10
namespace Go.Proofs.Ytkfoeijhhfaceab.regionFirst
open Go.ChangeShapes Go.WideShapes Go.ChangeAt Go.RowKit

theorem own : ownKnob Try.prog.godebug = none := by kernel_rfl

theorem first_ok {b : Int} {l : List Ext} {n at' : Int} (hn : 1 ≤ n) (hc : chkO b l = 0) (hh : hasO l (at', n) = true) :
    ∃ y, takeO b l n = ((y, n), wout l (y, n), 0) ∧ y ≤ at' ∧ hasO l (y, n) = true ∧ 0 ≤ y ∧ y ≤ 4096 := by
  unfold hasO at hh
  simp only [Bool.and_eq_true, decide_eq_true_eq] at hh
  obtain ⟨⟨h1, _⟩, h3⟩ := hh
  obtain ⟨z, hz, hz1, hz2⟩ := hld_in h3
  dsimp only at hz1 hz2
  have hzn : n ≤ z.2 := by omega
  have ht : (takeO b l n).2.2 = 0 := by
    unfold takeO
    rw [if_neg (fun h => h hc), if_neg (by omega)]
    cases hf : l.find? (fun x => decide (n ≤ x.2)) with
    | some x => rfl
    | none => exact absurd (List.find?_eq_none.1 hf z hz) (by simp [hzn])
  obtain ⟨x, hx, hx2, _, hrow, he, hmin⟩ := take_ok ht
  have hp := hrow.nrm.pos x hx
  have hu := (chk_row h1).upto x hx
  refine ⟨x.1, he, Int.le_trans (hmin z hz hzn) hz1, ?_, hp.1, by omega⟩
  unfold hasO
  rw [Bool.and_eq_true, Bool.and_eq_true]
  refine ⟨⟨by simp [h1], (lieB_iff _ _).2 ⟨hp.1, hn, by dsimp only; omega⟩⟩, ?_⟩
  unfold hldB
  rw [List.any_eq_true]
  exact ⟨x, hx, by simp; omega⟩

set_option maxHeartbeats 6400000 in
set_option maxRecDepth 100000 in
theorem walk (b : Int) (_ : (Lit.int .i64 b).wf = true) (a : Option Addr) (cap : Nat) (l0 : List Ext) (n : Int) (_ : (Lit.int .i64 n).wf = true) (t : Int) (ht : (Lit.int .i64 t).wf = true) (w : World) (hr : Rx w a cap l0) :
    Calls Try.prog 3 #[.int .i64 b, .slice a l0.length cap, .int .i64 n, .int .i64 t] w fun e w' => e = .returned (.bool true) ∧ Below w.heap.size w w' := by
  have HC1 : Hid (∀ W, Below w.heap.size w W → Calls Try.prog 5 #[.slice a l0.length cap] W fun e w' => e = .returned (.slice a (l0.take 5000).length cap) ∧ w' = W) := fun W hW => few_any a cap l0 W (hr.later hW)
  have hr1 := hr.take 5000
  generalize l0.take 5000 = l at *
  have HR := hid hr1
  generalize l0.length = L0 at *
  have HT : Hid (∀ W, Below w.heap.size w W → Calls Try.prog 8 #[.int .i64 b, .slice a l.length cap, .int .i64 n] W (TakePost (takeO b l n) W)) := fun W hW => take_word b a cap l n W (HR.out.later hW)
  have HCR : Hid (∀ W, Below w.heap.size w W → Calls Try.prog 6 #[.int .i64 b, .slice a l.length cap] W fun e w' => e = .returned (.int .i64 (chkO b l)) ∧ Below W.heap.size W w') := fun W hW => rcheck_any b a cap l W (HR.out.later hW)
  have HH : Hid (∀ W, Below w.heap.size w W → Calls Try.prog 7 #[.slice a l.length cap, .agg #[.int .i64 t, .int .i64 n]] W fun e w' => e = .returned (.bool (hasO l (t, n))) ∧ Below W.heap.size W w') := fun W hW => rhas_word a cap l t n W (HR.out.later hW) ht
  unfold TakePost at HT
  clear hr hr1 ht
  by_cases hn1 : n < 1
  · have d1 : decide (n < 1) = true := decide_eq_true hn1
    clear HT HCR HH HR
    generalize l.length = L at *
    go_enter Try.func3, Try.ntmps3
    go_wp2_with fail
    refine (awake_any _).mono ?_
    rintro _ wA ⟨rfl, hbA⟩
    have HBA := hid hbA
    have HD1 := hid (HC1.out wA hbA)
    clear hbA HC1
    go_wp2_with fail
    refine HD1.out.mono ?_
    rintro _ w0 ⟨rfl, hw⟩
    obtain rfl := hw.symm
    clear hw HD1
    go_wp2
    go_ret
    exact ⟨rfl, HBA.out⟩
  have d1 : decide (n < 1) = false := decide_eq_false hn1
  by_cases hn2 : 4096 < n
  · have d2 : decide (n > 4096) = true := decide_eq_true hn2
    clear HT HCR HH HR
    generalize l.length = L at *
    go_enter Try.func3, Try.ntmps3
    go_wp2_with fail
    refine (awake_any _).mono ?_
    rintro _ wA ⟨rfl, hbA⟩
    have HBA := hid hbA
    have HD1 := hid (HC1.out wA hbA)
    clear hbA HC1
    go_wp2_with fail
    refine HD1.out.mono ?_
    rintro _ w0 ⟨rfl, hw⟩
    obtain rfl := hw.symm
    clear hw HD1
    go_wp2
    go_ret
    exact ⟨rfl, HBA.out⟩
  have d2 : decide (n > 4096) = false := decide_eq_false hn2
  by_cases hc : chkO b l = 0
  · by_cases hh : hasO l (t, n) = true
    · obtain ⟨y, hy1, hy2, hy3, hy4, hy5⟩ := first_ok (by omega) hc hh
      have HX : Hid (∀ W, Below w.heap.size w W → Calls Try.prog 7 #[.slice a l.length cap, .agg #[.int .i64 y, .int .i64 n]] W fun e w' => e = .returned (.bool true) ∧ Below W.heap.size W w') := fun W hW => by
        have := rhas_word a cap l y n W (HR.out.later hW) (wf_mk_i64 (by omega) (by omega))
        rwa [hy3] at this
      rw [hy1] at HT
      rw [hc] at HCR
      rw [hh] at HH
      dsimp only [extV] at HT
      clear hy1 hy3 hh hc HR
      generalize wout l (y, n) = m at *
      generalize l.length = L at *
      have d3 : decide (y ≤ t) = true := decide_eq_true hy2
      go_enter Try.func3, Try.ntmps3
      go_wp2_with fail
      refine (awake_any _).mono ?_
      rintro _ wA ⟨rfl, hbA⟩
      have HBA := hid hbA
      have HD1 := hid (HC1.out wA hbA)
      clear hbA HC1
      go_wp2_with fail
      refine HD1.out.mono ?_
      rintro _ w0 ⟨rfl, hw⟩
      obtain rfl := hw.symm
      clear hw HD1
      go_wp2_with fail
      refine (HCR.out wA HBA.out).mono ?_
      rintro _ w1 ⟨rfl, hb1⟩
      have HB1 := hid (Bn HBA.out hb1)
      clear hb1 HBA HCR
      go_wp2_with fail
      refine (HH.out w1 HB1.out).mono ?_
      rintro _ w2 ⟨rfl, hb2⟩
      have HB2 := hid (Bn HB1.out hb2)
      clear hb2 HB1 HH
      go_wp2_with fail
      refine (HT.out w2 HB2.out).mono ?_
      rintro _ w3 ⟨va, rfl, hown3, hb3⟩
      obtain ⟨a3, c3, k3, rfl⟩ : ∃ a3 c3 k3, va = .slice a3 k3 c3 := by
        rcases hown3.2 with ⟨rfl, _⟩ | ⟨g, c, _, rfl, _⟩
        · exact ⟨none, 0, 0, rfl⟩
        · exact ⟨_, _, _, rfl⟩
      have hA := bel_alloc w3 (.cells #[.int .i64 y, .int .i64 n] 29)
      have HB3 := hid (Bn (Bn HB2.out hb3) hA)
      have hX3 : Xb (w3.alloc (.cells #[.int .i64 y, .int .i64 n] 29)) w3.heap.size (y, n) := heap_new w3 _
      obtain ⟨p0, p1⟩ := hX3.cells
      dsimp only at p0 p1
      clear hb3 hown3 HB2 HT hA hX3
      go_wp2_with fail
      refine (HX.out _ HB3.out).mono ?_
      rintro _ w4 ⟨rfl, hb4⟩
      have HB4 := hid (Bn HB3.out hb4)
      clear hb4 HB3 HX
      go_wp2
      go_ret
      exact ⟨rfl, HB4.out⟩
    · rw [Bool.not_eq_true] at hh
      rw [hc] at HCR
      rw [hh] at HH
      clear HT HR hc hh
      generalize l.length = L at *
      go_enter Try.func3, Try.ntmps3
      go_wp2_with fail
      refine (awake_any _).mono ?_
      rintro _ wA ⟨rfl, hbA⟩
      have HBA := hid hbA
      have HD1 := hid (HC1.out wA hbA)
      clear hbA HC1
      go_wp2_with fail
      refine HD1.out.mono ?_
      rintro _ w0 ⟨rfl, hw⟩
      obtain rfl := hw.symm
      clear hw HD1
      go_wp2_with fail
      refine (HCR.out wA HBA.out).mono ?_
      rintro _ w1 ⟨rfl, hb1⟩
      have HB1 := hid (Bn HBA.out hb1)
      clear hb1 HBA HCR
      go_wp2_with fail
      refine (HH.out w1 HB1.out).mono ?_
      rintro _ w2 ⟨rfl, hb2⟩
      have HB2 := hid (Bn HB1.out hb2)
      clear hb2 HB1 HH
      go_wp2
      go_ret
      exact ⟨rfl, HB2.out⟩
  · clear HT HH HR
    generalize chkO b l = c at *
    have hd : decide (c = 0) = false := decide_eq_false hc
    generalize l.length = L at *
    go_enter Try.func3, Try.ntmps3
    go_wp2_with fail
    refine (awake_any _).mono ?_
    rintro _ wA ⟨rfl, hbA⟩
    have HBA := hid hbA
    have HD1 := hid (HC1.out wA hbA)
    clear hbA HC1
    go_wp2_with fail
    refine HD1.out.mono ?_
    rintro _ w0 ⟨rfl, hw⟩
    obtain rfl := hw.symm
    clear hw HD1
    go_wp2_with fail
    refine (HCR.out wA HBA.out).mono ?_
    rintro _ w1 ⟨rfl, hb1⟩
    have HB1 := hid (Bn HBA.out hb1)
    clear hb1 HBA HCR
    go_wp2
    go_ret
    exact ⟨rfl, HB1.out⟩

set_option maxRecDepth 100000 in
theorem lifted (os : Os) (started : os.Started) (H : Type) (enc : TypeId × Value → H) :
    ReturnsInHanded {} Try.checked os 3 .any (Rows.regionFirstSpec.pre6 enc Try.prog Try.f3 Rows.regionFirstRow.domain false) (Rows.regionFirstSpec.post enc Try.prog Try.f3 false true false false) := by
  refine returnsInHanded_of_change (C := Try.checked) own started (by kernel_rfl) Try.func3
    (ChangeSpec.witness6 (enc := enc) (C := Try.checked) false ⟨#[], #[.int .i64 0, .slice none 0 0, .int .i64 0, .int .i64 0], []⟩ 8 (by kernel_rfl) (by kernel_rfl) (by kernel_rfl) (by kernel_rfl)) ?_
  intro W base args ds gs before hval0 hW _ _
  have hval : ∀ (j : Nat) t v, Try.f3.params[j]? = some t → args[j]? = some v → Value.okWide Try.prog W .any base t v := hval0
  have hW' := hW
  obtain ⟨p, q, hA0, hV, rfl, _, _⟩ := hW
  have hA : DataW.TrodAll enc Try.prog W 0 (fun _ => true) true Try.f3.params.toList args.toList ds p := hA0
  rw [Try.params3] at hA hval
  obtain ⟨v0, vs0, d0, ds0, p0, q0, hargs, rfl, rfl, h0, r0⟩ := trodAll_cons hA
  obtain ⟨v1, vs1, d1, ds1, p1, q1, rfl, rfl, rfl, h1, r1⟩ := trodAll_cons r0
  obtain ⟨v2, vs2, d2, ds2, p2, q2, rfl, rfl, rfl, h2, r2⟩ := trodAll_cons r1
  obtain ⟨v3, vs3, d3, ds3, p3, q3, rfl, rfl, rfl, h3, r3⟩ := trodAll_cons r2
  obtain ⟨rfl, rfl, rfl⟩ := trodAll_nil r3
  obtain rfl : args = #[v0, v1, v2, v3] := by cases args; simp_all
  obtain ⟨rfl, rfl⟩ := trodVars_none hV
  obtain ⟨a0, rfl, rfl, rfl, w0⟩ := open_int Try.underlying3 (hval 0 3 v0 rfl rfl) h0
  obtain ⟨a2, rfl, rfl, rfl, w2⟩ := open_int Try.underlying3 (hval 2 3 v2 rfl rfl) h2
  obtain ⟨a3, rfl, rfl, rfl, w3⟩ := open_int Try.underlying3 (hval 3 3 v3 rfl rfl) h3
  clear hA0
  simp only [List.append_nil, List.nil_append] at hW'
  have hlt1 : ∀ x ∈ p1, x.block < W.heap.size := fun x hx => hW'.lt x (by simp [hx])
  have hk1 := h1
  obtain ⟨a1, cap1, l1, rfl, hr1⟩ := open_rx (hval 1 22 v1 rfl rfl) h1 hlt1
  clear hval0
  refine (walk a0 w0 a1 cap1 l1 a2 w2 a3 w3 W hr1).mono fun e W' ⟨he, hb⟩ => ?_
  subst he
  exact ⟨_, rfl, _, _, _, [] ++ [], _, [], hW', trodAll_cons_mk (shut_bool Try.underlying4 _) trodAll_mk0, (trodAll_cons_mk (shut_int Try.underlying3 w0) (trodAll_cons_mk (Below.trod Try.laidOut (by kernel_rfl) (of_decide_eq_true (by kernel_rfl)) hk1 hb hlt1) (trodAll_cons_mk (shut_int Try.underlying3 w2) (trodAll_cons_mk (shut_int Try.underlying3 w3) trodAll_mk0)))), rfl, hb.frame _, fun h => by cases h⟩

theorem over : Rows.regionFirstRow.holds Try.pinned (OpenSpec.ofChange Rows.regionFirstSpec) :=
  OpenClaim.holds_of_wide 3 Try.f3 rfl rfl rfl rfl rfl rfl rfl ⟨rfl, rfl, rfl, rfl, rfl⟩ rfl rfl rfl rfl rfl (by kernel_rfl) Try.func3 (by kernel_rfl)
    (of_decide_eq_true (by kernel_rfl)) (by unfold Func.isWrapper; first | (rw [if_pos (by decide +kernel)]; kernel_rfl) | (rw [if_neg (by decide +kernel)]; exact ⟨rfl, rfl⟩))
    (fun os started H enc _ => lifted os started H enc)

end Go.Proofs.Ytkfoeijhhfaceab.regionFirst
namespace Go.Proofs.Ytkfoeijhhfaceab
theorem regionFirst_holds : Rows.RegionFirstSaid := regionFirst.over
#print axioms regionFirst_holds
end Go.Proofs.Ytkfoeijhhfaceab
