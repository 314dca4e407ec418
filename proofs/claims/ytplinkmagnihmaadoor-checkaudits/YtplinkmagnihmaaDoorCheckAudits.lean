/-
  CheckAudits is proved for every input, as a tied card: what check's Audit says of key, records and marks is what the document's Audit says; no condition.
-/
import Derived.Test.YtplinkmagnihmaaDoorCkJi
import Derived.Test.YtplinkmagnihmaaDoorCkJh
import Derived.Test.YtplinkmagnihmaaDoorCkJe
namespace Go.Proofs.YtplinkmagnihmaaDoor.checkAudits
open Go.ChangeShapes Go.WideShapes Go.ChangeAt Go.RowKit Go.Deep Go.Lib

theorem Tryd.fields40 : Tryd.prog.underlying 40 = some (.struct (Tryd.prog.fieldsOf 40)) := by kernel_rfl
theorem Tryd.underlying38h : Tryd.prog.underlying 38 = some (.int .i64) := by kernel_rfl
theorem guard40 : Tryd.prog.eqGuardType Tryd.prog.depth 40 = false := by kernel_rfl
set_option maxRecDepth 100000 in
theorem partF (f : Int × Int × Int) (w : World) : (part 38 (fnV f).toArray 0).run Tryd.prog w = .ok (.int .i64 f.1) w ∧ (part 3 (fnV f).toArray 1).run Tryd.prog w = .ok (.int .i64 f.2.1) w ∧ (part 3 (fnV f).toArray 2).run Tryd.prog w = .ok (.int .i64 f.2.2) w :=
  ⟨by kernel_rfl, by kernel_rfl, by kernel_rfl⟩
set_option maxRecDepth 100000 in
theorem eq40_same (f : Int × Int × Int) (w : World) : (Op.equalIn 10000 40 (.agg (fnV f).toArray) (.agg (fnV f).toArray)).run Tryd.prog w = .ok true w := by
  rw [show 10000 = 9999 + 1 from rfl, run_equalIn_struct w 9999 40 _ _ Tryd.fields40 (by kernel_rfl)]
  have hf : ∃ f0 f1 f2 : Field, (Tryd.prog.fieldsOf 40).toList = [f0, f1, f2] ∧ f0.type = 38 ∧ f0.offset = 0 ∧ f1.type = 3 ∧ f1.offset = 1 ∧ f2.type = 3 ∧ f2.offset = 2 ∧ f0.name ≠ "_" ∧ f1.name ≠ "_" ∧ f2.name ≠ "_" := ⟨_, _, _, rfl, rfl, rfl, rfl, rfl, rfl, rfl, by decide, by decide, by decide⟩
  obtain ⟨f0, f1, f2, hl, t0, o0, t1, o1, t2, o2, n0, n1, n2⟩ := hf
  rw [hl, eq_field n0 (by rw [t0, o0]; exact (partF f w).1) (by rw [t0, o0]; exact (partF f w).1) (by rw [t0]; exact run_equalIn_int w 9998 38 .i64 .i64 _ _ Tryd.underlying38h),
    eq_field n1 (by rw [t1, o1]; exact (partF f w).2.1) (by rw [t1, o1]; exact (partF f w).2.1) (by rw [t1]; exact eqI 9998 _ _ w),
    eq_field n2 (by rw [t2, o2]; exact (partF f w).2.2) (by rw [t2, o2]; exact (partF f w).2.2) (by rw [t2]; exact eqI 9998 _ _ w)]
  simp [Op.eqFields]
theorem take_300 (l : List Nat) : (l.take 300).length ≤ 100000 := by rw [List.length_take]; omega
set_option maxHeartbeats 6400000 in
set_option maxRecDepth 100000 in
theorem walk (ka : Option Addr) (kc : Nat) (key0 : List Nat) (ra : Option Addr) (rc : Nat) (l0 : List Rec) (ma : Option Addr) (mc : Nat) (ms0 : List Mrk) (w : World) (hL : Sh.Laid w) (hk : Sh.Rd w (.slice ka key0.length kc) ka kc key0)
    (hr : Rr w ra rc l0) (hm : Rw 67 mkV mkZ w ma mc ms0 ∧ ∀ m ∈ ms0, MOk m) :
    Calls Tryd.prog 4 #[.slice ka key0.length kc, .slice ra l0.length rc, .slice ma ms0.length mc] w fun e w' => e = .returned (.bool true) ∧ Below w.heap.size w w' := by
  have HCT := hid (ccut_word ka kc key0 w hk)
  have HFW := hid (first_few ra rc l0 w hr)
  have HSW := hid (fun V (hV : Below w.heap.size w V) => some_word ma mc ms0 V (hm.1.later hV))
  have HLA := hid hL
  obtain ⟨key, hkey⟩ : ∃ key, key = key0.take 300 := ⟨_, rfl⟩
  have HKF : Hid (key.length ≤ 100000) := by show _ ≤ _; rw [hkey]; exact take_300 key0
  have HKR : Hid (Sh.Rd w (.slice ka key.length kc) ka kc key) := by show Sh.Rd _ _ _ _ _; rw [hkey]; exact hk.take 300
  rw [← hkey] at HCT
  have HOK := hid (someL_ok hm.2)
  have HLE := hid (someL_le ms0)
  obtain ⟨ms, hms⟩ : ∃ ms, ms = someL ms0 := ⟨_, rfl⟩
  rw [← hms] at HSW HOK HLE
  have HFL := hid (firL_le l0)
  have HFO := hid (fun r (q : r ∈ firL l0) => firL_ok q)
  obtain ⟨l, hl⟩ : ∃ l, l = firL l0 := ⟨_, rfl⟩
  rw [← hl] at HFW HFL HFO
  have HAW := hid awake_word
  obtain ⟨kn, hkn⟩ : ∃ k, k = key.length := ⟨_, rfl⟩
  obtain ⟨kn0, hkn0⟩ : ∃ k, k = key0.length := ⟨_, rfl⟩
  obtain ⟨ln, hln⟩ : ∃ k, k = l.length := ⟨_, rfl⟩
  obtain ⟨ln0, hln0⟩ : ∃ k, k = l0.length := ⟨_, rfl⟩
  obtain ⟨mn, hmn⟩ : ∃ k, k = ms.length := ⟨_, rfl⟩
  obtain ⟨mn0, hmn0⟩ : ∃ k, k = ms0.length := ⟨_, rfl⟩
  have HAU := hid (fun (V : World) (a : Option Addr) (c : Nat) (hV : Below w.heap.size w V) (hrr : Rr V a c l) (hmm : Rw 67 mkV mkZ V ma mc ms) =>
    audit_word ka kc key a c l ma mc ms V (HLA.out.later hV) (HKR.out.later hV) HKF.out hrr (fun r q => Nat.le_trans (HFO.out r q) (by decide)) (Nat.le_trans HFL.out (by decide)) hmm HOK.out (Nat.le_trans HLE.out (by decide))
      (fun W0 V A mp nn ha hc i D hc' => hold_word W0 V A mp nn ka kc key ha hc (hsL hdZ l) ma mc ms i D _ (audF_kind key (hsL hdZ l) ms i) hc'))
  have HDA := hid (fun (V : World) (a : Option Addr) (c : Nat) (hV : Below w.heap.size w V) (hrr : Rr V a c l) (hmm : Rw 67 mkV mkZ V ma mc ms) =>
    daudit_word ka kc key a c l ma mc ms V (HKR.out.later hV) HKF.out hrr (fun r q => Nat.le_trans (HFO.out r q) (by decide)) hmm HOK.out (Nat.le_trans HLE.out (by decide)))
  obtain ⟨F, hF⟩ : ∃ F, F = audR key l ms := ⟨_, rfl⟩
  rw [← hF] at HAU
  have HFE := hid hF
  rw [← hkn, ← hln, ← hmn] at HAU HDA
  rw [← hkn0, ← hkn] at HCT
  rw [← hln0, ← hln] at HFW
  rw [← hmn0, ← hmn] at HSW
  rw [← hkn0, ← hln0, ← hmn0]
  clear hL hk hr hm hkey hms hl hkn hkn0 hln hln0 hmn hmn0 hF
  go_enter Tryd.func4, Tryd.ntmps4
  go_wp2_with fail
  refine HCT.out.mono ?_
  rintro _ w0 ⟨rfl, hw⟩
  obtain rfl := hw.symm
  clear hw HCT
  go_wp2_with fail
  refine HFW.out.mono ?_
  rintro _ V1 ⟨a, c, rfl, hrr, hb1⟩
  have HRR := hid hrr
  have HB1 := hid hb1
  clear hrr hb1 HFW
  go_wp2_with fail
  refine (HSW.out V1 HB1.out).mono ?_
  rintro _ V2 ⟨rfl, hmm, hw⟩
  obtain rfl := hw.symm
  have HMM := hid hmm
  clear hw HSW hmm
  go_wp2_with fail
  refine (HAU.out V1 a c HB1.out HRR.out HMM.out).mono ?_
  rintro _ V3 ⟨rfl, hb3⟩
  have HB3 := hid (Bn HB1.out hb3)
  have HRR3 := hid (HRR.out.later hb3)
  have HMM3 := hid (HMM.out.later hb3)
  clear hb3 HAU HRR HMM
  go_wp2_with fail
  refine (HDA.out V3 a c HB3.out HRR3.out HMM3.out).mono ?_
  rintro _ V4 ⟨⟨f, rfl, hd⟩, hb4⟩
  have HB4 := hid (Bn HB3.out hb4)
  have hff : f = F := (aud_one hd).trans HFE.out.symm
  subst hff
  have hgd := guard40
  have heq : ∀ V, (Op.equalIn 10000 40 (.agg (fnV f).toArray) (.agg (fnV f).toArray)).run Tryd.prog V = .ok true V := fun V => eq40_same f V
  clear hd hb4 HDA HRR3 HMM3 HFE
  generalize (fnV f).toArray = FF at *
  go_wp2_with fail
  refine (HAW.out V4 (HLA.out.later HB4.out)).mono ?_
  rintro _ V5 ⟨rfl, hb5⟩
  have HB5 := hid (Bn HB4.out hb5)
  clear hb5 heq
  go_wp2
  go_ret
  exact ⟨rfl, HB5.out⟩
set_option maxRecDepth 100000 in
theorem lifted (os : Os) (started : os.Started) (H : Type) (enc : TypeId × Value → H) :
    ReturnsInHanded {} Tryd.checked os 4 .any (fun w args => (Rows.checkAuditsSpec.pre enc Tryd.prog Tryd.f4 [] false w args ∧ laidMetH Tryd.prog laidL w) ∧ sizedMet enc Tryd.prog Tryd.f4 (OpenSpec.ofChange Rows.checkAuditsSpec) false w args)
      (Rows.checkAuditsSpec.post enc Tryd.prog Tryd.f4 false true false false) := by
  refine returnsInHanded_of_change_and (C := Tryd.checked) (X := fun w _ => laidMetH Tryd.prog laidL w) (fun _ _ _ hh h => h.of_heap hh) own started (by kernel_rfl) Tryd.func4
    (ChangeSpec.witness_shaped (enc := enc) (C := Tryd.checked) (os := os) (X := fun w _ => laidMetH Tryd.prog laidL w) false (World.doorLaid Tryd.prog 400 os) #[.slice none 0 0, .slice none 0 0, .slice none 0 0] 8 rfl (World.shaped_of_RefB (by kernel_rfl) (by kernel_rfl)) (by kernel_rfl) (by kernel_rfl) (by kernel_rfl) (door_met os _)) ?_
  intro W base args ds gs before hval0 hW _ _ hL _
  have hval : ∀ (j : Nat) t v, Tryd.f4.params[j]? = some t → args[j]? = some v → Value.okWide Tryd.prog W .any base t v := hval0
  have hW' := hW
  obtain ⟨p, q, hA0, hV, rfl, _, _⟩ := hW
  have hA : DataW.TrodAll enc Tryd.prog W 0 (fun _ => true) true Tryd.f4.params.toList args.toList ds p := hA0
  rw [Tryd.params4] at hA hval
  obtain ⟨v0, vs0, d0, ds0, p0, q0, hargs, rfl, rfl, h0, r0⟩ := trodAll_cons hA
  obtain ⟨v1, vs1, d1, ds1, p1, q1, rfl, rfl, rfl, h1, r1⟩ := trodAll_cons r0
  obtain ⟨v2, vs2, d2, ds2, p2, q2, rfl, rfl, rfl, h2, r2⟩ := trodAll_cons r1
  obtain ⟨rfl, rfl, rfl⟩ := trodAll_nil r2
  obtain rfl : args = #[v0, v1, v2] := by cases args; simp_all
  obtain ⟨rfl, rfl⟩ := trodVars_none hV
  have hlaid := of_laid hL
  clear hA0
  simp only [List.append_nil] at hW'
  have hlt0 : ∀ x ∈ p0, x.block < W.heap.size := fun x hx => hW'.lt x (by simp [hx])
  have hk0 := h0
  obtain ⟨a0, cap0, l0, rfl, hr0⟩ := open_key (hval 0 22 v0 rfl rfl) h0 hlt0
  have hlt1 : ∀ x ∈ p1, x.block < W.heap.size := fun x hx => hW'.lt x (by simp [hx])
  have hk1 := h1
  obtain ⟨a1, cap1, l1, rfl, hr1⟩ := open_recs (hval 1 23 v1 rfl rfl) h1 hlt1
  have hlt2 : ∀ x ∈ p2, x.block < W.heap.size := fun x hx => hW'.lt x (by simp [hx])
  have hk2 := h2
  obtain ⟨a2, cap2, l2, rfl, hr2⟩ := open_marks (hval 2 28 v2 rfl rfl) h2 hlt2
  clear hval0
  refine (walk a0 cap0 l0 a1 cap1 l1 a2 cap2 l2 W hlaid hr0 hr1 hr2).mono fun e W' ⟨he, hb⟩ => ?_
  subst he
  exact ⟨_, rfl, _, _, _, [] ++ [], _, [], hW', trodAll_cons_mk (shut_bool Tryd.underlying4 _) trodAll_mk0, (trodAll_cons_mk (Below.trod Tryd.laidOut (by kernel_rfl) (of_decide_eq_true (by kernel_rfl)) hk0 hb hlt0) (trodAll_cons_mk (Below.trod Tryd.laidOut (by kernel_rfl) (of_decide_eq_true (by kernel_rfl)) hk1 hb hlt1) (trodAll_cons_mk (Below.trod Tryd.laidOut (by kernel_rfl) (of_decide_eq_true (by kernel_rfl)) hk2 hb hlt2) trodAll_mk0))), rfl, hb.frame _, fun h => by cases h⟩

theorem over : Rows.checkAuditsRow.holds Tryd.pinned (OpenSpec.ofChange Rows.checkAuditsSpec) :=
  OpenClaim.holds_of_wide 4 Tryd.f4 rfl rfl rfl rfl rfl rfl rfl ⟨rfl, rfl, rfl, rfl, rfl⟩ rfl rfl rfl rfl rfl (by kernel_rfl) Tryd.func4 (by kernel_rfl)
    (of_decide_eq_true (by kernel_rfl)) (by unfold Func.isWrapper; first | (rw [if_pos (by decide +kernel)]; kernel_rfl) | (rw [if_neg (by decide +kernel)]; exact ⟨rfl, rfl⟩))
    (fun os started H enc _ => lifted os started H enc)

theorem card : Rows.CheckAuditsCardSaid :=
  Claim7.holds_tied_plain_at .later [] [.data, .data] true (true, "6c4824eea2cfdc05c637caf113dadd9efee948d7ff46397d3b1084f8d6b5d258") false
    over (fun _ h => by cases h) (by kernel_rfl) (fun _ h => by cases h) checkAudits_row_tie rfl ⟨rfl, rfl⟩ (by kernel_rfl) rfl
    (fun f fn hf hfn => by
      obtain rfl : f = 4 := Option.some.inj ((show Tryd.prog.funcNamed "saltern/salternlaw16.CheckAudits" = some 4 by kernel_rfl).symm.trans hf) |>.symm
      obtain rfl : fn = Tryd.f4 := (Option.some.inj (Tryd.func4.symm.trans hfn)).symm
      exact ⟨by kernel_rfl, fun j t ht => by
        rw [Tryd.params4] at ht
        have hm : t ∈ [22, 23, 28] := by simpa using Array.mem_of_getElem? ht
        have hall : ([22, 23, 28].all fun u => !Tryd.prog.wantsStandIn u) = true := by kernel_rfl
        exact (show Tryd.prog.wantsStandIn t = false by simpa using List.all_eq_true.1 hall t hm)⟩)
    (by kernel_rfl)

end Go.Proofs.YtplinkmagnihmaaDoor.checkAudits
namespace Go.Proofs.YtplinkmagnihmaaDoor
theorem checkAudits_holds : Rows.CheckAuditsCardSaid := checkAudits.card
#print axioms checkAudits_holds
end Go.Proofs.YtplinkmagnihmaaDoor
