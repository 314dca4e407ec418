/-
  CheckHeads is proved for every input, as a tied card: which heads a catalogue has and which sealed mark is the newest are what the document says; no condition.
-/
import Derived.Test.YtplinkmagnihmaaDoorCkJj
import Derived.Test.YtplinkmagnihmaaDoorCkJi
import Derived.Test.YtplinkmagnihmaaDoorCkJe
namespace Go.Proofs.YtplinkmagnihmaaDoor.checkHeads
open Go.ChangeShapes Go.WideShapes Go.ChangeAt Go.RowKit Go.Deep Go.Lib

theorem take_300 (l : List Nat) : (l.take 300).length ≤ 100000 := by rw [List.length_take]; omega
set_option maxHeartbeats 6400000 in
set_option maxRecDepth 100000 in
theorem walk (ka : Option Addr) (kc : Nat) (key0 : List Nat) (ra : Option Addr) (rc : Nat) (l0 : List Rec) (x : Hd) (ma : Option Addr) (mc : Nat) (ms0 : List Mrk) (w : World) (hL : Sh.Laid w) (hk : Sh.Rd w (.slice ka key0.length kc) ka kc key0)
    (hr : Rr w ra rc l0) (hx : x.2.2.length = 32 ∧ (∀ j, (Lit.int .u8 (x.2.2.getD j 0)).wf = true) ∧ (Lit.int .i64 x.1).wf = true ∧ (Lit.int .i64 x.2.1).wf = true) (hm : Rw 67 mkV mkZ w ma mc ms0 ∧ ∀ m ∈ ms0, MOk m) :
    Calls Tryd.prog 3 #[.slice ka key0.length kc, .slice ra l0.length rc, .agg (hdV x).toArray, .slice ma ms0.length mc] w fun e w' => e = .returned (.bool true) ∧ Below w.heap.size w w' := by
  have hx1 := hx.1
  have HB1 := hid (bel_alc w (.cells (hdV x).toArray 27))
  have hbx := heap_alc w (.cells (hdV x).toArray 27)
  obtain ⟨U1, hU1⟩ : ∃ U1, U1 = w.alloc (.cells (hdV x).toArray 27) := ⟨_, rfl⟩
  rw [← hU1] at HB1 hbx
  have HU1 := hid hU1
  have HHR := hid (fun X (hX : Below U1.heap.size U1 X) => blk_range (blk_later hbx hX))
  have HHL := hid (hdV_len hx1)
  have HCT := hid (ccut_word ka kc key0 U1 (hk.later HB1.out))
  have HFW := hid (first_few ra rc l0 U1 (hr.later HB1.out))
  have HSW := hid (fun V (hV : Below w.heap.size w V) => some_word ma mc ms0 V (hm.1.later hV))
  have HLA := hid hL
  obtain ⟨key, hkey⟩ : ∃ key, key = key0.take 300 := ⟨_, rfl⟩
  have HKF : Hid (key.length ≤ 100000) := by show _ ≤ _; rw [hkey]; exact take_300 key0
  have HKR : Hid (Sh.Rd w (.slice ka key.length kc) ka kc key) := by show Sh.Rd _ _ _ _ _; rw [hkey]; exact hk.take 300
  rw [← hkey] at HCT
  have HOK := hid (someL_ok hm.2)
  obtain ⟨ms, hms⟩ : ∃ ms, ms = someL ms0 := ⟨_, rfl⟩
  rw [← hms] at HSW HOK
  have HFO := hid (fun r (q : r ∈ firL l0) => firL_ok q)
  obtain ⟨l, hl⟩ : ∃ l, l = firL l0 := ⟨_, rfl⟩
  rw [← hl] at HFW HFO
  have HAW := hid awake_word
  obtain ⟨kn, hkn⟩ : ∃ k, k = key.length := ⟨_, rfl⟩
  obtain ⟨kn0, hkn0⟩ : ∃ k, k = key0.length := ⟨_, rfl⟩
  obtain ⟨ln, hln⟩ : ∃ k, k = l.length := ⟨_, rfl⟩
  obtain ⟨ln0, hln0⟩ : ∃ k, k = l0.length := ⟨_, rfl⟩
  obtain ⟨mn, hmn⟩ : ∃ k, k = ms.length := ⟨_, rfl⟩
  obtain ⟨mn0, hmn0⟩ : ∃ k, k = ms0.length := ⟨_, rfl⟩
  have HNE := hid (fun (V : World) (hV : Below w.heap.size w V) (hmm : Rw 67 mkV mkZ V ma mc ms) => newest_word ka kc key ma mc ms V (HLA.out.later hV) (HKR.out.later hV) HKF.out hmm HOK.out)
  have HDN := hid (fun (V : World) (hV : Below w.heap.size w V) (hmm : Rw 67 mkV mkZ V ma mc ms) => dnewest_word ka kc key ma mc ms V (HKR.out.later hV) HKF.out hmm HOK.out)
  have HCH := hid (fun (V : World) (a : Option Addr) (c : Nat) (hV : Below w.heap.size w V) (hrr : Rr V a c l) => chas_word x a c l V (HLA.out.later hV) hx1 hrr (fun r q => Nat.le_trans (HFO.out r q) (by decide)))
  have HDH := hid (fun (V : World) (a : Option Addr) (c : Nat) (hrr : Rr V a c l) => dhas_word x a c l V hx1 hrr (fun r q => Nat.le_trans (HFO.out r q) (by decide)))
  rw [← hmn] at HNE HDN
  obtain ⟨n, hn⟩ : ∃ n, n = (nwR key ms mn).1 := ⟨_, rfl⟩
  obtain ⟨fd, hfd⟩ : ∃ n, n = (nwR key ms mn).2 := ⟨_, rfl⟩
  rw [← hn, ← hfd] at HNE HDN
  obtain ⟨q, hq⟩ : ∃ q, q = dhasB l x := ⟨_, rfl⟩
  rw [← hq] at HCH HDH
  rw [← hkn] at HNE HDN
  rw [← hln] at HCH HDH
  rw [← hkn0, ← hkn] at HCT
  rw [← hln0, ← hln] at HFW
  rw [← hmn0, ← hmn] at HSW
  rw [← hkn0, ← hln0, ← hmn0]
  clear hL hk hr hm hx hx1 hkey hms hl hkn hkn0 hln hln0 hmn hmn0 hn hfd hq hU1 hbx
  go_enter Tryd.func3, Tryd.ntmps3
  go_wp2_with fail
  rw [← HU1.out]
  refine HCT.out.mono ?_
  rintro _ w0 ⟨rfl, hw⟩
  obtain rfl := hw.symm
  clear hw HCT
  go_wp2_with fail
  refine HFW.out.mono ?_
  rintro _ V1 ⟨a, c, rfl, hrr, hb1⟩
  have HRR := hid hrr
  have HBU := hid hb1
  have HB2 := hid (Bn HB1.out hb1)
  clear hrr hb1 HFW
  go_wp2_with fail
  refine (HSW.out V1 HB2.out).mono ?_
  rintro _ V2 ⟨rfl, hmm, hw⟩
  obtain rfl := hw.symm
  have HMM := hid hmm
  clear hw HSW hmm
  go_wp2_with fail
  refine (HNE.out V1 HB2.out HMM.out).mono ?_
  rintro _ V3 ⟨rfl, hb3⟩
  have HB3 := hid (Bn HB2.out hb3)
  have HBU3 := hid (Bn HBU.out hb3)
  have HRR3 := hid (HRR.out.later hb3)
  have HMM3 := hid (HMM.out.later hb3)
  clear hb3 HNE HRR HMM HBU
  go_wp2_with fail
  refine (HDN.out V3 HB3.out HMM3.out).mono ?_
  rintro _ W1 ⟨rfl, hb4⟩
  have HB4 := hid (Bn HB3.out hb4)
  have HBU4 := hid (Bn HBU3.out hb4)
  have HRR4 := hid (fun X (hX : Below W1.heap.size W1 X) => (HRR3.out.later hb4).later hX)
  have HR := hid (fun X (hX : Below W1.heap.size W1 X) => HHR.out X (Bn HBU4.out hX))
  have HCA := hid (fun X (hX : Below W1.heap.size W1 X) => HCH.out X a c (Bn HB4.out hX) (HRR4.out X hX))
  have HDA := hid (fun X (hX : Below W1.heap.size W1 X) => HDH.out X a c (HRR4.out X hX))
  have HAL := hid (fun X (hX : Below W1.heap.size W1 X) => HAW.out X (HLA.out.later (Bn HB4.out hX)))
  clear hb4 HDN HRR3 HMM3 HB3 HBU3 HCH HDH HHR HAW
  go_wp2_with fail
  refine wp_region_held_drew (S := fun X => Below W1.heap.size W1 X) (by kernel_rfl) (Below.refl _ _).drew (fun hS_v0 => ?_)
  have hd_v0 : Below W1.heap.size W1 W1.drew := (Below.refl _ _).drew
  generalize W1.drew = v0 at *
  simp only [List.size_toArray, List.length_cons, List.length_nil, Nat.reduceAdd]
  clear hd_v0
  refine Ord.take (i := 0) (d := 31) (v := ?vH0) rfl rfl (by as_aux_lemma => kernel_rfl) (by as_aux_lemma => kernel_rfl) (by as_aux_lemma => kernel_rfl) (fun _ _ _ h => h) (by rfl) ?hH0 (by assumption) ?_
  case hH0 => intro wx hSw; go_simp; try with_reducible rfl
  try simp only [List.setIfInBounds_toArray, List.set_cons_zero, List.set_cons_succ]
  refine Ord.take (i := 1) (d := 32) (v := .agg (hdV x).toArray) rfl rfl (by as_aux_lemma => kernel_rfl) (by as_aux_lemma => kernel_rfl) (by as_aux_lemma => kernel_rfl) (fun _ _ _ h => h) (by rfl) ?hH1 (by assumption) ?_
  case hH1 => intro wx hSw; exact exec_load 27 (.tmp 6) rfl w.heap.size 0 rfl (run_loadVar_mid wx w.heap.size 0 27 (hdV x) _ (HR.out _ hSw) Tryd.underlying27 rfl (by rw [HHL.out]; exact Tryd.size27h))
  try simp only [List.setIfInBounds_toArray, List.set_cons_zero, List.set_cons_succ]
  refine Ord.take (i := 3) (d := 34) (v := ?vH3) rfl rfl (by as_aux_lemma => kernel_rfl) (by as_aux_lemma => kernel_rfl) (by as_aux_lemma => kernel_rfl) (fun _ _ _ h => h) (by rfl) ?hH3 (by assumption) ?_
  case hH3 => intro wx hSw; go_simp; try with_reducible rfl
  try simp only [List.setIfInBounds_toArray, List.set_cons_zero, List.set_cons_succ]
  refine Ord.take (i := 4) (d := 35) (v := .agg (hdV x).toArray) rfl rfl (by as_aux_lemma => kernel_rfl) (by as_aux_lemma => kernel_rfl) (by as_aux_lemma => kernel_rfl) (fun _ _ _ h => h) (by rfl) ?hH4 (by assumption) ?_
  case hH4 => intro wx hSw; exact exec_load 27 (.tmp 6) rfl w.heap.size 0 rfl (run_loadVar_mid wx w.heap.size 0 27 (hdV x) _ (HR.out _ hSw) Tryd.underlying27 rfl (by rw [HHL.out]; exact Tryd.size27h))
  try simp only [List.setIfInBounds_toArray, List.set_cons_zero, List.set_cons_succ]
  refine wpAnyH_ready (rs := [2]) (by as_aux_lemma => kernel_rfl) (by simp) (AllReadyH.cons rfl (fun K hK => ?_) AllReadyH.nil)
  go_simp
  go_simp
  refine (HCA.out v0 hS_v0).mono ?_
  rintro _ v1 ⟨rfl, hb_v1⟩
  have hS_v1 : Below W1.heap.size W1 v1 := Bn hS_v0 hb_v1
  clear hb_v1
  refine hK.out _ _ hS_v1 (fun _ => ?_)
  clear hK K
  try simp only [List.setIfInBounds_toArray, List.set_cons_zero, List.set_cons_succ]
  try simp only [List.setIfInBounds_toArray, List.set_cons_zero, List.set_cons_succ]
  refine wpAnyH_ready (rs := [5]) (by as_aux_lemma => kernel_rfl) (by simp) (AllReadyH.cons rfl (fun K hK => ?_) AllReadyH.nil)
  go_simp
  go_simp
  refine (HDA.out v1 hS_v1).mono ?_
  rintro _ v2 ⟨rfl, hb_v2⟩
  have hS_v2 : Below W1.heap.size W1 v2 := Bn hS_v1 hb_v2
  clear hb_v2
  refine hK.out _ _ hS_v2 (fun _ => ?_)
  clear hK K
  try simp only [List.setIfInBounds_toArray, List.set_cons_zero, List.set_cons_succ]
  try simp only [List.setIfInBounds_toArray, List.set_cons_zero, List.set_cons_succ]
  refine Ord.take (i := 6) (d := 37) (v := .bool true) rfl rfl (by as_aux_lemma => kernel_rfl) (by as_aux_lemma => kernel_rfl) (by as_aux_lemma => kernel_rfl) (fun _ _ _ h => h) (by rfl) ?hH6 (by assumption) ?_
  case hH6 => intro wx hSw; go_simp; try first | with_reducible rfl | simp
  try simp only [List.setIfInBounds_toArray, List.set_cons_zero, List.set_cons_succ]
  refine Ord.take (i := 7) (d := 38) (v := .bool true) rfl rfl (by as_aux_lemma => kernel_rfl) (by as_aux_lemma => kernel_rfl) (by as_aux_lemma => kernel_rfl) (fun _ _ _ h => h) (by rfl) ?hH7 (by assumption) ?_
  case hH7 => intro wx hSw; go_simp; try with_reducible rfl
  try simp only [List.setIfInBounds_toArray, List.set_cons_zero, List.set_cons_succ]
  refine Ord.take (i := 8) (d := 39) (v := ?vH8) rfl rfl (by as_aux_lemma => kernel_rfl) (by as_aux_lemma => kernel_rfl) (by as_aux_lemma => kernel_rfl) (fun _ _ _ h => h) (by rfl) ?hH8 (by assumption) ?_
  case hH8 => intro wx hSw; go_simp; try with_reducible rfl
  try simp only [List.setIfInBounds_toArray, List.set_cons_zero, List.set_cons_succ]
  refine Ord.take (i := 9) (d := 40) (v := ?vH9) rfl rfl (by as_aux_lemma => kernel_rfl) (by as_aux_lemma => kernel_rfl) (by as_aux_lemma => kernel_rfl) (fun _ _ _ h => h) (by rfl) ?hH9 (by assumption) ?_
  case hH9 => intro wx hSw; go_simp; try with_reducible rfl
  try simp only [List.setIfInBounds_toArray, List.set_cons_zero, List.set_cons_succ]
  refine Ord.take (i := 10) (d := 41) (v := .bool true) rfl rfl (by as_aux_lemma => kernel_rfl) (by as_aux_lemma => kernel_rfl) (by as_aux_lemma => kernel_rfl) (fun _ _ _ h => h) (by rfl) ?hH10 (by assumption) ?_
  case hH10 => intro wx hSw; go_simp; try first | with_reducible rfl | simp
  try simp only [List.setIfInBounds_toArray, List.set_cons_zero, List.set_cons_succ]
  refine Ord.take (i := 11) (d := 42) (v := .bool true) rfl rfl (by as_aux_lemma => kernel_rfl) (by as_aux_lemma => kernel_rfl) (by as_aux_lemma => kernel_rfl) (fun _ _ _ h => h) (by rfl) ?hH11 (by assumption) ?_
  case hH11 => intro wx hSw; go_simp; try first | with_reducible rfl | simp
  try simp only [List.setIfInBounds_toArray, List.set_cons_zero, List.set_cons_succ]
  refine Ord.take (i := 12) (d := 43) (v := .bool true) rfl rfl (by as_aux_lemma => kernel_rfl) (by as_aux_lemma => kernel_rfl) (by as_aux_lemma => kernel_rfl) (fun _ _ _ h => h) (by rfl) ?hH12 (by assumption) ?_
  case hH12 => intro wx hSw; go_simp; try with_reducible rfl
  try simp only [List.setIfInBounds_toArray, List.set_cons_zero, List.set_cons_succ]
  refine Ord.take (i := 13) (d := 44) (v := ?vH13) rfl rfl (by as_aux_lemma => kernel_rfl) (by as_aux_lemma => kernel_rfl) (by as_aux_lemma => kernel_rfl) (fun _ _ _ h => h) (by rfl) ?hH13 (by assumption) ?_
  case hH13 => intro wx hSw; go_simp; try with_reducible rfl
  try simp only [List.setIfInBounds_toArray, List.set_cons_zero, List.set_cons_succ]
  refine Ord.take (i := 14) (d := 45) (v := ?vH14) rfl rfl (by as_aux_lemma => kernel_rfl) (by as_aux_lemma => kernel_rfl) (by as_aux_lemma => kernel_rfl) (fun _ _ _ h => h) (by rfl) ?hH14 (by assumption) ?_
  case hH14 => intro wx hSw; go_simp; try with_reducible rfl
  try simp only [List.setIfInBounds_toArray, List.set_cons_zero, List.set_cons_succ]
  refine Ord.take (i := 15) (d := 46) (v := .bool true) rfl rfl (by as_aux_lemma => kernel_rfl) (by as_aux_lemma => kernel_rfl) (by as_aux_lemma => kernel_rfl) (fun _ _ _ h => h) (by rfl) ?hH15 (by assumption) ?_
  case hH15 => intro wx hSw; go_simp; try first | with_reducible rfl | simp
  try simp only [List.setIfInBounds_toArray, List.set_cons_zero, List.set_cons_succ]
  refine Ord.take (i := 16) (d := 47) (v := .bool true) rfl rfl (by as_aux_lemma => kernel_rfl) (by as_aux_lemma => kernel_rfl) (by as_aux_lemma => kernel_rfl) (fun _ _ _ h => h) (by rfl) ?hH16 (by assumption) ?_
  case hH16 => intro wx hSw; go_simp; try first | with_reducible rfl | simp
  try simp only [List.setIfInBounds_toArray, List.set_cons_zero, List.set_cons_succ]
  refine Ord.take (i := 17) (d := 48) (v := .bool true) rfl rfl (by as_aux_lemma => kernel_rfl) (by as_aux_lemma => kernel_rfl) (by as_aux_lemma => kernel_rfl) (fun _ _ _ h => h) (by rfl) ?hH17 (by assumption) ?_
  case hH17 => intro wx hSw; go_simp; try with_reducible rfl
  try simp only [List.setIfInBounds_toArray, List.set_cons_zero, List.set_cons_succ]
  refine wpAnyH_ready (rs := [18]) (by as_aux_lemma => kernel_rfl) (by simp) (AllReadyH.cons rfl (fun K hK => ?_) AllReadyH.nil)
  go_simp
  go_simp
  refine (HAL.out v2 hS_v2).mono ?_
  rintro _ v3 ⟨rfl, hb_v3⟩
  have hS_v3 : Below W1.heap.size W1 v3 := Bn hS_v2 hb_v3
  clear hb_v3
  refine hK.out _ _ hS_v3 (fun _ => ?_)
  clear hK K
  try simp only [List.setIfInBounds_toArray, List.set_cons_zero, List.set_cons_succ]
  try simp only [List.setIfInBounds_toArray, List.set_cons_zero, List.set_cons_succ]
  refine Ord.take (i := 19) (d := 50) (v := .bool true) rfl rfl (by as_aux_lemma => kernel_rfl) (by as_aux_lemma => kernel_rfl) (by as_aux_lemma => kernel_rfl) (fun _ _ _ h => h) (by rfl) ?hH19 (by assumption) ?_
  case hH19 => intro wx hSw; go_simp; try first | with_reducible rfl | simp
  try simp only [List.setIfInBounds_toArray, List.set_cons_zero, List.set_cons_succ]
  refine Ord.take (i := 20) (d := 8) (v := ?vH20) rfl rfl (by as_aux_lemma => kernel_rfl) (by as_aux_lemma => kernel_rfl) (by as_aux_lemma => kernel_rfl) (fun _ _ _ h => h) (by rfl) ?hH20 (by assumption) ?_
  case hH20 => intro wx hSw; go_simp; try with_reducible rfl
  try simp only [List.setIfInBounds_toArray, List.set_cons_zero, List.set_cons_succ]
  refine wpAnyH_done (by as_aux_lemma => kernel_rfl) ?_ _
  have HS9 := hid (Bn HB4.out hS_v3)
  clear hS_v0 hS_v1 hS_v2 hS_v3
  go_wp2
  go_ret
  exact ⟨rfl, HS9.out⟩
set_option maxRecDepth 100000 in
theorem lifted (os : Os) (started : os.Started) (H : Type) (enc : TypeId × Value → H) :
    ReturnsInHanded {} Tryd.checked os 3 .any (fun w args => (Rows.checkHeadsSpec.pre enc Tryd.prog Tryd.f3 [] false w args ∧ laidMetH Tryd.prog laidL w) ∧ sizedMet enc Tryd.prog Tryd.f3 (OpenSpec.ofChange Rows.checkHeadsSpec) false w args)
      (Rows.checkHeadsSpec.post enc Tryd.prog Tryd.f3 false true false false) := by
  refine returnsInHanded_of_change_and (C := Tryd.checked) (X := fun w _ => laidMetH Tryd.prog laidL w) (fun _ _ _ hh h => h.of_heap hh) own started (by kernel_rfl) Tryd.func3
    (ChangeSpec.witness_shaped (enc := enc) (C := Tryd.checked) (os := os) (X := fun w _ => laidMetH Tryd.prog laidL w) false (World.doorLaid Tryd.prog 400 os) #[.slice none 0 0, .slice none 0 0, .agg #[.int .i64 0, .int .i64 0, .int .u8 0, .int .u8 0, .int .u8 0, .int .u8 0, .int .u8 0, .int .u8 0, .int .u8 0, .int .u8 0, .int .u8 0, .int .u8 0, .int .u8 0, .int .u8 0, .int .u8 0, .int .u8 0, .int .u8 0, .int .u8 0, .int .u8 0, .int .u8 0, .int .u8 0, .int .u8 0, .int .u8 0, .int .u8 0, .int .u8 0, .int .u8 0, .int .u8 0, .int .u8 0, .int .u8 0, .int .u8 0, .int .u8 0, .int .u8 0, .int .u8 0, .int .u8 0], .slice none 0 0] 8 rfl (World.shaped_of_RefB (by kernel_rfl) (by kernel_rfl)) (by kernel_rfl) (by kernel_rfl) (by kernel_rfl) (door_met os _)) ?_
  intro W base args ds gs before hval0 hW _ _ hL _
  have hval : ∀ (j : Nat) t v, Tryd.f3.params[j]? = some t → args[j]? = some v → Value.okWide Tryd.prog W .any base t v := hval0
  have hW' := hW
  obtain ⟨p, q, hA0, hV, rfl, _, _⟩ := hW
  have hA : DataW.TrodAll enc Tryd.prog W 0 (fun _ => true) true Tryd.f3.params.toList args.toList ds p := hA0
  rw [Tryd.params3] at hA hval
  obtain ⟨v0, vs0, d0, ds0, p0, q0, hargs, rfl, rfl, h0, r0⟩ := trodAll_cons hA
  obtain ⟨v1, vs1, d1, ds1, p1, q1, rfl, rfl, rfl, h1, r1⟩ := trodAll_cons r0
  obtain ⟨v2, vs2, d2, ds2, p2, q2, rfl, rfl, rfl, h2, r2⟩ := trodAll_cons r1
  obtain ⟨v3, vs3, d3, ds3, p3, q3, rfl, rfl, rfl, h3, r3⟩ := trodAll_cons r2
  obtain ⟨rfl, rfl, rfl⟩ := trodAll_nil r3
  obtain rfl : args = #[v0, v1, v2, v3] := by cases args; simp_all
  obtain ⟨rfl, rfl⟩ := trodVars_none hV
  have hlaid := of_laid hL
  clear hA0
  simp only [List.append_nil] at hW'
  have hlt0 : ∀ x ∈ p0, x.block < W.heap.size := fun x hx => hW'.lt x (by simp [hx])
  have hk0 := h0
  obtain ⟨a0, cap0, l0, rfl, hr0⟩ := open_key (hval 0 22 v0 rfl rfl) h0 hlt0
  have hlt1 : ∀ x ∈ p1, x.block < W.heap.size := fun x hx => hW'.lt x (by simp [hx])
  have hk1 := h1
  obtain ⟨a1, cap1, l1, rfl, hr1⟩ := open_recs (hval 1 23 v1 rfl rfl) h1 hlt1
  have hlt2 : ∀ x ∈ p2, x.block < W.heap.size := fun x hx => hW'.lt x (by simp [hx])
  have hk2 := h2
  obtain ⟨x2, rfl, hr2⟩ := open_head (hval 2 27 v2 rfl rfl) h2
  have hlt3 : ∀ x ∈ p3, x.block < W.heap.size := fun x hx => hW'.lt x (by simp [hx])
  have hk3 := h3
  obtain ⟨a3, cap3, l3, rfl, hr3⟩ := open_marks (hval 3 28 v3 rfl rfl) h3 hlt3
  clear hval0
  refine (walk a0 cap0 l0 a1 cap1 l1 x2 a3 cap3 l3 W hlaid hr0 hr1 hr2 hr3).mono fun e W' ⟨he, hb⟩ => ?_
  subst he
  exact ⟨_, rfl, _, _, _, [] ++ [], _, [], hW', trodAll_cons_mk (shut_bool Tryd.underlying4 _) trodAll_mk0, (trodAll_cons_mk (Below.trod Tryd.laidOut (by kernel_rfl) (of_decide_eq_true (by kernel_rfl)) hk0 hb hlt0) (trodAll_cons_mk (Below.trod Tryd.laidOut (by kernel_rfl) (of_decide_eq_true (by kernel_rfl)) hk1 hb hlt1) (trodAll_cons_mk (Below.trod Tryd.laidOut (by kernel_rfl) (of_decide_eq_true (by kernel_rfl)) hk2 hb hlt2) (trodAll_cons_mk (Below.trod Tryd.laidOut (by kernel_rfl) (of_decide_eq_true (by kernel_rfl)) hk3 hb hlt3) trodAll_mk0)))), rfl, hb.frame _, fun h => by cases h⟩

theorem over : Rows.checkHeadsRow.holds Tryd.pinned (OpenSpec.ofChange Rows.checkHeadsSpec) :=
  OpenClaim.holds_of_wide 3 Tryd.f3 rfl rfl rfl rfl rfl rfl rfl ⟨rfl, rfl, rfl, rfl, rfl⟩ rfl rfl rfl rfl rfl (by kernel_rfl) Tryd.func3 (by kernel_rfl)
    (of_decide_eq_true (by kernel_rfl)) (by unfold Func.isWrapper; first | (rw [if_pos (by decide +kernel)]; kernel_rfl) | (rw [if_neg (by decide +kernel)]; exact ⟨rfl, rfl⟩))
    (fun os started H enc _ => lifted os started H enc)

theorem card : Rows.CheckHeadsCardSaid :=
  Claim7.holds_tied_plain_at .later [] [.data, .data] true (true, "6c4824eea2cfdc05c637caf113dadd9efee948d7ff46397d3b1084f8d6b5d258") false
    over (fun _ h => by cases h) (by kernel_rfl) (fun _ h => by cases h) checkHeads_row_tie rfl ⟨rfl, rfl⟩ (by kernel_rfl) rfl
    (fun f fn hf hfn => by
      obtain rfl : f = 3 := Option.some.inj ((show Tryd.prog.funcNamed "saltern/salternlaw16.CheckHeads" = some 3 by kernel_rfl).symm.trans hf) |>.symm
      obtain rfl : fn = Tryd.f3 := (Option.some.inj (Tryd.func3.symm.trans hfn)).symm
      exact ⟨by kernel_rfl, fun j t ht => by
        rw [Tryd.params3] at ht
        have hm : t ∈ [22, 23, 27, 28] := by simpa using Array.mem_of_getElem? ht
        have hall : ([22, 23, 27, 28].all fun u => !Tryd.prog.wantsStandIn u) = true := by kernel_rfl
        exact (show Tryd.prog.wantsStandIn t = false by simpa using List.all_eq_true.1 hall t hm)⟩)
    (by kernel_rfl)

end Go.Proofs.YtplinkmagnihmaaDoor.checkHeads
namespace Go.Proofs.YtplinkmagnihmaaDoor
theorem checkHeads_holds : Rows.CheckHeadsCardSaid := checkHeads.card
#print axioms checkHeads_holds
end Go.Proofs.YtplinkmagnihmaaDoor
