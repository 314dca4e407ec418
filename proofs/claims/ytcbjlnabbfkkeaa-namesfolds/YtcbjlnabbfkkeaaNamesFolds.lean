/-
  NamesFolds is proved for every input: what records make of no files, up to the first that can not be done, is what the document says; no condition.
-/
import Derived.Test.YtcbjlnabbfkkeaaNmDd
import Derived.Test.YtcbjlnabbfkkeaaRcQa
namespace Go.Proofs.Ytcbjlnabbfkkeaa.namesFolds
open Go.ChangeShapes Go.WideShapes Go.ChangeAt Go.RowKit Go.Deep Go.Lib

theorem own : ownKnob Try.prog.godebug = none := by kernel_rfl
theorem Fs.later {w w' : World} {a : Option Addr} {cap : Nat} {L : List Fi} (h : Fs w a cap L) (hb : Below w.heap.size w w') : Fs w' a cap L := ⟨h.row.later hb, fun f hf => (h.ps f hf).later hb⟩
set_option maxHeartbeats 12800000 in
set_option maxRecDepth 100000 in
theorem walk (a : Option Addr) (cap : Nat) (l : List Rec) (w : World) (hr : Rr w a cap l) : Calls Try.prog 4 #[.slice a l.length cap] w fun e w' => e = .returned (.bool true) ∧ Below w.heap.size w w' := by
  have HAL := hid (fun V => alive_word V)
  have HFEW := hid (few_word a cap l w hr)
  have h25 := fewL_len l
  clear hr
  generalize fewL l = R at *
  go_enter Try.func4, Try.ntmps4
  go_wp2_with fail
  refine HFEW.out.mono ?_
  rintro _ W1 ⟨a1, cap1, rfl, hr1, _, hb1⟩
  have HR1 := hid hr1
  have HB1 := hid hb1
  clear hr1 hb1 HFEW
  have HLR := hid h25
  go_wp2_with fail
  refine (of_word 0 a1 cap1 R W1 HR1.out (Nat.zero_le _)).mono ?_
  rintro e2 W2 hP
  rcases hP with ⟨M, hA, rfl, hnm, hb2⟩ | ⟨k, M, hk, hA, h0, rfl, hb2⟩
  · have HA := hid hA
    have HN2 := hid hnm
    have HR2 := hid (HR1.out.later hb2)
    have HB2 := hid (Bn HB1.out hb2)
    clear hA hnm hb2 HB1 HR1
    go_wp2_with fail
    refine (dof_word a1 cap1 R W2 HR2.out (Nat.le_trans HLR.out (by decide))).mono ?_
    rintro e3 W3 hP
    rcases hP with ⟨L, d, ad, capd, hD, rfl, hdn, hb3⟩ | ⟨m, L, hm, hD, h0, rfl, hb3⟩
    · have HREL := hid (both_full R HA.out hD Rel.zero)
      have HN3 := hid (HN2.out.later hb3)
      have HD3 := hid hdn
      have HB3 := hid (Bn HB2.out hb3)
      have HCD := hid (fun X (hX : Below W3.heap.size W3 X) => (Joins.cell_of_block (blk_later hdn.blk hX) 0).trans (show _ = some (Value.slice ad L.length capd) from rfl))
      clear hD hdn hb3 HN2 HB2 HA HR2
      go_wp2
      refine wp_region_held_drew (S := fun X => Below W3.heap.size W3 X) (by kernel_rfl) (Below.refl _ _).drew (fun hS_v0 => ?_)
      generalize W3.drew = v0 at *
      simp only [List.size_toArray, List.length_cons, List.length_nil, Nat.reduceAdd]
      refine Ord.take (i := 0) (d := 38) (v := ?vF0) rfl rfl (by as_aux_lemma => kernel_rfl) (by as_aux_lemma => kernel_rfl) (by as_aux_lemma => kernel_rfl) (fun _ _ _ h => h) (by rfl) ?hF0 (by assumption) ?_
      case hF0 => intro wx hSw; go_simp; try with_reducible rfl
      try simp only [List.setIfInBounds_toArray, List.set_cons_zero, List.set_cons_succ]
      refine Ord.take (i := 1) (d := 39) (v := .bool false) rfl rfl (by as_aux_lemma => kernel_rfl) (by as_aux_lemma => kernel_rfl) (by as_aux_lemma => kernel_rfl) (fun _ _ _ h => h) (by rfl) ?hF1 (by assumption) ?_
      case hF1 => intro wx hSw; go_simp; try with_reducible rfl
      try simp only [List.setIfInBounds_toArray, List.set_cons_zero, List.set_cons_succ]
      refine Ord.take (i := 2) (d := 40) (v := ?vF2) rfl rfl (by as_aux_lemma => kernel_rfl) (by as_aux_lemma => kernel_rfl) (by as_aux_lemma => kernel_rfl) (fun _ _ _ h => h) (by rfl) ?hF2 (by assumption) ?_
      case hF2 => intro wx hSw; go_simp; try with_reducible rfl
      try simp only [List.setIfInBounds_toArray, List.set_cons_zero, List.set_cons_succ]
      refine Ord.take (i := 3) (d := 41) (v := ?vF3) rfl rfl (by as_aux_lemma => kernel_rfl) (by as_aux_lemma => kernel_rfl) (by as_aux_lemma => kernel_rfl) (fun _ _ _ h => h) (by rfl) ?hF3 (by assumption) ?_
      case hF3 => intro wx hSw; go_simp; try with_reducible rfl
      try simp only [List.setIfInBounds_toArray, List.set_cons_zero, List.set_cons_succ]
      refine Ord.take (i := 5) (d := 43) (v := ?vF5) rfl rfl (by as_aux_lemma => kernel_rfl) (by as_aux_lemma => kernel_rfl) (by as_aux_lemma => kernel_rfl) (fun _ _ _ h => h) (by rfl) ?hF5 (by assumption) ?_
      case hF5 => intro wx hSw; go_simp; try with_reducible rfl
      try simp only [List.setIfInBounds_toArray, List.set_cons_zero, List.set_cons_succ]
      refine Ord.take (i := 6) (d := 44) (v := ?vF6) rfl rfl (by as_aux_lemma => kernel_rfl) (by as_aux_lemma => kernel_rfl) (by as_aux_lemma => kernel_rfl) (fun _ _ _ h => h) (by rfl) ?hF6 (by assumption) ?_
      case hF6 => intro wx hSw; go_simp; try with_reducible rfl
      try simp only [List.setIfInBounds_toArray, List.set_cons_zero, List.set_cons_succ]
      refine Ord.take (i := 7) (d := 45) (v := .pointer (some ⟨d, 0, none⟩)) rfl rfl (by as_aux_lemma => kernel_rfl) (by as_aux_lemma => kernel_rfl) (by as_aux_lemma => kernel_rfl) (fun _ _ _ h => h) (by rfl) ?hF7 (by assumption) ?_
      case hF7 => intro wx hSw; go_simp; try with_reducible rfl
      try simp only [List.setIfInBounds_toArray, List.set_cons_zero, List.set_cons_succ]
      refine Ord.take (i := 8) (d := 46) (v := .slice ad L.length capd) rfl rfl (by as_aux_lemma => kernel_rfl) (by as_aux_lemma => kernel_rfl) (by as_aux_lemma => kernel_rfl) (fun _ _ _ h => h) (by rfl) ?hF8 (by assumption) ?_
      case hF8 => intro wx hSw; have hc := HCD.out _ hSw; go_simp; try with_reducible rfl
      try simp only [List.setIfInBounds_toArray, List.set_cons_zero, List.set_cons_succ]
      refine wpAnyH_ready (rs := [4]) (by as_aux_lemma => kernel_rfl) (by simp) (AllReadyH.cons rfl (fun K hK => ?_) AllReadyH.nil)
      go_simp
      refine (list_word v0 (W1.heap.size + 1) W1.heap.size M 0 (HN3.out.later hS_v0) ByteArray.empty).mono ?_
      rintro _ v1 ⟨a8, c8, L8, rfl, hfs8, hls8, hb8⟩
      have hS_v1 : Below W3.heap.size W3 v1 := Bn hS_v0 hb8
      have HFS8 := hid hfs8
      have HLS8 := hid hls8
      clear hfs8 hls8 hb8
      refine hK.out _ _ hS_v1 (fun _ => ?_)
      clear hK K
      try simp only [List.setIfInBounds_toArray, List.set_cons_zero, List.set_cons_succ]
      refine wpAnyH_ready (rs := [9]) (by as_aux_lemma => kernel_rfl) (by simp) (AllReadyH.cons rfl (fun K hK => ?_) AllReadyH.nil)
      go_simp
      refine (same_word L8 L a8 ad c8 capd v1 HFS8.out (HD3.out.fs.later hS_v1)).mono ?_
      rintro _ v2 ⟨q, rfl, hq, hb9⟩
      have hqt : q = true := hq.2 (HLS8.out.one HREL.out.lst)
      subst hqt
      have hS_v2 : Below W3.heap.size W3 v2 := Bn hS_v1 hb9
      clear hq hb9
      refine hK.out _ _ hS_v2 (fun _ => ?_)
      clear hK K
      try simp only [List.setIfInBounds_toArray, List.set_cons_zero, List.set_cons_succ]
      refine Ord.take (i := 10) (d := 48) (v := .bool true) rfl rfl (by as_aux_lemma => kernel_rfl) (by as_aux_lemma => kernel_rfl) (by as_aux_lemma => kernel_rfl) (fun _ _ _ h => h) (by rfl) ?hF10 (by assumption) ?_
      case hF10 => intro wx hSw; go_simp; try with_reducible rfl
      try simp only [List.setIfInBounds_toArray, List.set_cons_zero, List.set_cons_succ]
      refine Ord.take (i := 11) (d := 49) (v := ?vF11) rfl rfl (by as_aux_lemma => kernel_rfl) (by as_aux_lemma => kernel_rfl) (by as_aux_lemma => kernel_rfl) (fun _ _ _ h => h) (by rfl) ?hF11 (by assumption) ?_
      case hF11 => intro wx hSw; go_simp; try with_reducible rfl
      try simp only [List.setIfInBounds_toArray, List.set_cons_zero, List.set_cons_succ]
      refine wpAnyH_ready (rs := [12]) (by as_aux_lemma => kernel_rfl) (by simp) (AllReadyH.cons rfl (fun K hK => ?_) AllReadyH.nil)
      go_simp
      refine (HAL.out v2).mono ?_
      rintro _ v3 ⟨rfl, hb10⟩
      have hS_v3 : Below W3.heap.size W3 v3 := Bn hS_v2 hb10
      clear hb10
      refine hK.out _ _ hS_v3 (fun _ => ?_)
      clear hK K
      try simp only [List.setIfInBounds_toArray, List.set_cons_zero, List.set_cons_succ]
      refine Ord.take (i := 13) (d := 51) (v := ?vF13) rfl rfl (by as_aux_lemma => kernel_rfl) (by as_aux_lemma => kernel_rfl) (by as_aux_lemma => kernel_rfl) (fun _ _ _ h => h) (by rfl) ?hF13 (by assumption) ?_
      case hF13 => intro wx hSw; go_simp; try with_reducible rfl
      try simp only [List.setIfInBounds_toArray, List.set_cons_zero, List.set_cons_succ]
      refine Ord.take (i := 14) (d := 2) (v := ?vF14) rfl rfl (by as_aux_lemma => kernel_rfl) (by as_aux_lemma => kernel_rfl) (by as_aux_lemma => kernel_rfl) (fun _ _ _ h => h) (by rfl) ?hF14 (by assumption) ?_
      case hF14 => intro wx hSw; go_simp; try with_reducible rfl
      try simp only [List.setIfInBounds_toArray, List.set_cons_zero, List.set_cons_succ]
      refine wpAnyH_done (by as_aux_lemma => kernel_rfl) ?_ _
      have HS3 := hid (Bn HB3.out hS_v3)
      go_wp2
      go_ret
      exact ⟨rfl, HS3.out⟩
    · exact absurd (full_left R m HA.out hm hD Rel.zero) h0
  · have HA := hid hA
    have HK := hid hk
    have H0 := hid h0
    have HR2 := hid (HR1.out.later hb2)
    have HB2 := hid (Bn HB1.out hb2)
    clear hA hk h0 hb2 HB1 HR1
    obtain ⟨E, hE⟩ : ∃ E, E = mayE M (R.getD k recZ) := ⟨_, rfl⟩
    have HE := hid hE
    rw [← hE]
    clear hE
    go_wp2_with fail
    refine (dof_word a1 cap1 R W2 HR2.out (Nat.le_trans HLR.out (by decide))).mono ?_
    rintro e3 W3 hP
    rcases hP with ⟨L, d, ad, capd, hD, rfl, hdn, hb3⟩ | ⟨m, L, hm, hD, h0, rfl, hb3⟩
    · exact absurd (full_right R k hD HK.out HA.out Rel.zero) H0.out
    · have hkm : k = m := fail_le R HK.out hm HA.out hD H0.out h0
      subst hkm
      have hrel := both_full (R.take k) HA.out hD Rel.zero
      have hee : dmayE L (R.getD k recZ) = E := (hrel.may _).trans HE.out.symm
      rw [hee]
      have HB3 := hid (Bn HB2.out hb3)
      clear hD hb3 hrel hee HB2 hm h0
      go_wp2
      refine wp_region_held_drew (S := fun X => Below W3.heap.size W3 X) (by kernel_rfl) (Below.refl _ _).drew (fun hS_v0 => ?_)
      generalize W3.drew = v0 at *
      simp only [List.size_toArray, List.length_cons, List.length_nil, Nat.reduceAdd]
      refine Ord.take (i := 0) (d := 38) (v := ?vN0) rfl rfl (by as_aux_lemma => kernel_rfl) (by as_aux_lemma => kernel_rfl) (by as_aux_lemma => kernel_rfl) (fun _ _ _ h => h) (by rfl) ?hN0 (by assumption) ?_
      case hN0 => intro wx hSw; go_simp; try with_reducible rfl
      try simp only [List.setIfInBounds_toArray, List.set_cons_zero, List.set_cons_succ]
      refine Ord.take (i := 1) (d := 39) (v := .bool true) rfl rfl (by as_aux_lemma => kernel_rfl) (by as_aux_lemma => kernel_rfl) (by as_aux_lemma => kernel_rfl) (fun _ _ _ h => h) (by rfl) ?hN1 (by assumption) ?_
      case hN1 => intro wx hSw; go_simp; try with_reducible rfl
      try simp only [List.setIfInBounds_toArray, List.set_cons_zero, List.set_cons_succ]
      refine Ord.take (i := 2) (d := 40) (v := ?vN2) rfl rfl (by as_aux_lemma => kernel_rfl) (by as_aux_lemma => kernel_rfl) (by as_aux_lemma => kernel_rfl) (fun _ _ _ h => h) (by rfl) ?hN2 (by assumption) ?_
      case hN2 => intro wx hSw; go_simp; try with_reducible rfl
      try simp only [List.setIfInBounds_toArray, List.set_cons_zero, List.set_cons_succ]
      refine Ord.skip (i := 3) (d := 41) rfl rfl (by as_aux_lemma => kernel_rfl) (by as_aux_lemma => kernel_rfl) (by as_aux_lemma => kernel_rfl) (fun _ _ _ h => h) (by rfl) (by assumption) ?_
      simp only [List.setIfInBounds_toArray, List.set_cons_zero, List.set_cons_succ]
      refine Ord.skip (i := 4) (d := 42) rfl rfl (by as_aux_lemma => kernel_rfl) (by as_aux_lemma => kernel_rfl) (by as_aux_lemma => kernel_rfl) (fun _ _ _ h => h) (by rfl) (by assumption) ?_
      simp only [List.setIfInBounds_toArray, List.set_cons_zero, List.set_cons_succ]
      refine Ord.skip (i := 5) (d := 43) rfl rfl (by as_aux_lemma => kernel_rfl) (by as_aux_lemma => kernel_rfl) (by as_aux_lemma => kernel_rfl) (fun _ _ _ h => h) (by rfl) (by assumption) ?_
      simp only [List.setIfInBounds_toArray, List.set_cons_zero, List.set_cons_succ]
      refine Ord.skip (i := 6) (d := 44) rfl rfl (by as_aux_lemma => kernel_rfl) (by as_aux_lemma => kernel_rfl) (by as_aux_lemma => kernel_rfl) (fun _ _ _ h => h) (by rfl) (by assumption) ?_
      simp only [List.setIfInBounds_toArray, List.set_cons_zero, List.set_cons_succ]
      refine Ord.skip (i := 7) (d := 45) rfl rfl (by as_aux_lemma => kernel_rfl) (by as_aux_lemma => kernel_rfl) (by as_aux_lemma => kernel_rfl) (fun _ _ _ h => h) (by rfl) (by assumption) ?_
      simp only [List.setIfInBounds_toArray, List.set_cons_zero, List.set_cons_succ]
      refine Ord.skip (i := 8) (d := 46) rfl rfl (by as_aux_lemma => kernel_rfl) (by as_aux_lemma => kernel_rfl) (by as_aux_lemma => kernel_rfl) (fun _ _ _ h => h) (by rfl) (by assumption) ?_
      simp only [List.setIfInBounds_toArray, List.set_cons_zero, List.set_cons_succ]
      refine Ord.skip (i := 9) (d := 47) rfl rfl (by as_aux_lemma => kernel_rfl) (by as_aux_lemma => kernel_rfl) (by as_aux_lemma => kernel_rfl) (fun _ _ _ h => h) (by rfl) (by assumption) ?_
      simp only [List.setIfInBounds_toArray, List.set_cons_zero, List.set_cons_succ]
      refine Ord.take (i := 10) (d := 48) (v := .bool true) rfl rfl (by as_aux_lemma => kernel_rfl) (by as_aux_lemma => kernel_rfl) (by as_aux_lemma => kernel_rfl) (fun _ _ _ h => h) (by rfl) ?hN10 (by assumption) ?_
      case hN10 => intro wx hSw; go_simp; try with_reducible rfl
      try simp only [List.setIfInBounds_toArray, List.set_cons_zero, List.set_cons_succ]
      refine Ord.take (i := 11) (d := 49) (v := ?vN11) rfl rfl (by as_aux_lemma => kernel_rfl) (by as_aux_lemma => kernel_rfl) (by as_aux_lemma => kernel_rfl) (fun _ _ _ h => h) (by rfl) ?hN11 (by assumption) ?_
      case hN11 => intro wx hSw; go_simp; try with_reducible rfl
      try simp only [List.setIfInBounds_toArray, List.set_cons_zero, List.set_cons_succ]
      refine wpAnyH_ready (rs := [12]) (by as_aux_lemma => kernel_rfl) (by simp) (AllReadyH.cons rfl (fun K hK => ?_) AllReadyH.nil)
      go_simp
      refine (HAL.out v0).mono ?_
      rintro _ v3 ⟨rfl, hb10⟩
      have hS_v3 : Below W3.heap.size W3 v3 := Bn hS_v0 hb10
      clear hb10
      refine hK.out _ _ hS_v3 (fun _ => ?_)
      clear hK K
      try simp only [List.setIfInBounds_toArray, List.set_cons_zero, List.set_cons_succ]
      refine Ord.take (i := 13) (d := 51) (v := ?vN13) rfl rfl (by as_aux_lemma => kernel_rfl) (by as_aux_lemma => kernel_rfl) (by as_aux_lemma => kernel_rfl) (fun _ _ _ h => h) (by rfl) ?hN13 (by assumption) ?_
      case hN13 => intro wx hSw; go_simp; try with_reducible rfl
      try simp only [List.setIfInBounds_toArray, List.set_cons_zero, List.set_cons_succ]
      refine Ord.take (i := 14) (d := 2) (v := ?vN14) rfl rfl (by as_aux_lemma => kernel_rfl) (by as_aux_lemma => kernel_rfl) (by as_aux_lemma => kernel_rfl) (fun _ _ _ h => h) (by rfl) ?hN14 (by assumption) ?_
      case hN14 => intro wx hSw; go_simp; try with_reducible rfl
      try simp only [List.setIfInBounds_toArray, List.set_cons_zero, List.set_cons_succ]
      refine wpAnyH_done (by as_aux_lemma => kernel_rfl) ?_ _
      have HS3 := hid (Bn HB3.out hS_v3)
      go_wp2
      go_ret
      exact ⟨rfl, HS3.out⟩
set_option maxRecDepth 100000 in
theorem lifted (os : Os) (started : os.Started) (H : Type) (enc : TypeId × Value → H) :
    ReturnsInHanded {} Try.checked os 4 .any (Rows.namesFoldsSpec.pre6 enc Try.prog Try.f4 Rows.namesFoldsRow.domain false) (Rows.namesFoldsSpec.post enc Try.prog Try.f4 false true false false) := by
  refine returnsInHanded_of_change (C := Try.checked) own started (by kernel_rfl) Try.func4
    (ChangeSpec.witness6 (enc := enc) (C := Try.checked) false ⟨#[], #[.slice none 0 0], []⟩ 8 (by kernel_rfl) (by kernel_rfl) (by kernel_rfl) (by kernel_rfl)) ?_
  intro W base args ds gs before hval0 hW _ _
  have hval : ∀ (j : Nat) t v, Try.f4.params[j]? = some t → args[j]? = some v → Value.okWide Try.prog W .any base t v := hval0
  have hW' := hW
  obtain ⟨p, q, hA0, hV, rfl, _, _⟩ := hW
  have hA : DataW.TrodAll enc Try.prog W 0 (fun _ => true) true Try.f4.params.toList args.toList ds p := hA0
  rw [Try.params4] at hA hval
  obtain ⟨v0, vs0, d0, ds0, p0, q0, hargs, rfl, rfl, h0, r0⟩ := trodAll_cons hA
  obtain ⟨rfl, rfl, rfl⟩ := trodAll_nil r0
  obtain rfl : args = #[v0] := by cases args; simp_all
  obtain ⟨rfl, rfl⟩ := trodVars_none hV
  clear hA0
  simp only [List.append_nil] at hW'
  have hlt0 : ∀ x ∈ p0, x.block < W.heap.size := fun x hx => hW'.lt x (by simp [hx])
  have hk0 := h0
  obtain ⟨a0, cap0, l0, rfl, hr0⟩ := open_recs (hval 0 22 v0 rfl rfl) h0 hlt0
  clear hval0
  refine (walk a0 cap0 l0 W hr0).mono fun e W' ⟨he, hb⟩ => ?_
  subst he
  exact ⟨_, rfl, _, _, _, [] ++ [], _, [], hW', trodAll_cons_mk (shut_bool Try.underlying4 _) trodAll_mk0, (trodAll_cons_mk (Below.trod Try.laidOut (by kernel_rfl) (of_decide_eq_true (by kernel_rfl)) hk0 hb hlt0) trodAll_mk0), rfl, hb.frame _, fun h => by cases h⟩

theorem over : Rows.namesFoldsRow.holds Try.pinned (OpenSpec.ofChange Rows.namesFoldsSpec) :=
  OpenClaim.holds_of_wide 4 Try.f4 rfl rfl rfl rfl rfl rfl rfl ⟨rfl, rfl, rfl, rfl, rfl⟩ rfl rfl rfl rfl rfl (by kernel_rfl) Try.func4 (by kernel_rfl)
    (of_decide_eq_true (by kernel_rfl)) (by unfold Func.isWrapper; first | (rw [if_pos (by decide +kernel)]; kernel_rfl) | (rw [if_neg (by decide +kernel)]; exact ⟨rfl, rfl⟩))
    (fun os started H enc _ => lifted os started H enc)

end Go.Proofs.Ytcbjlnabbfkkeaa.namesFolds
namespace Go.Proofs.Ytcbjlnabbfkkeaa
theorem namesFolds_holds : Rows.NamesFoldsSaid := namesFolds.over
#print axioms namesFolds_holds
end Go.Proofs.Ytcbjlnabbfkkeaa
