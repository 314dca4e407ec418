/-
  LzTokens is proved for every input: Tokens tells the tokens that the document gives of any bytes; no condition.
-/
import Derived.Test.YtgdlmhgjhmcilaaAwake
import Derived.Test.YtgdlmhgjhmcilaaFit
namespace Go.Proofs.Ytgdlmhgjhmcilaa.lzTokens
open Go.ChangeShapes Go.WideShapes Go.ChangeAt Go.RowKit Lz

theorem own : ownKnob Try.prog.godebug = none := by kernel_rfl

set_option maxHeartbeats 1600000 in
set_option maxRecDepth 100000 in
theorem walk_long (a : Option Addr) (cap : Nat) (bs : List Int) (w : World) (hr : Ri w .u8 a cap bs) (hl : 65536 < bs.length) :
    Calls Try.prog 5 #[.slice a bs.length cap] w fun e w' => e = .returned (.bool true) ∧ Below w.heap.size w w' := by
  have HC := hid (tokens_word a cap bs w hr)
  have HD : Hid (∀ W, Below w.heap.size w W → Calls Try.prog 19 #[.slice a bs.length cap] W (TksPost bs W)) := fun W hW => tokens_ref a cap bs W (hr.later hW)
  unfold TksPost at HC HD
  have hlz : ¬ (bs.length : Int) ≤ 65536 := by omega
  have h8 : Bytes8 bs := hr.fits
  clear hr hl
  have HFIT := hid (tks_fit bs h8)
  generalize tksO bs = o at *
  obtain ⟨l, f⟩ := o
  dsimp only at *
  have e1 : (f == f) = true := by simp
  generalize bs.length = L at *
  clear h8
  go_enter Try.func5, Try.ntmps5
  go_wp2_with fail
  refine HC.out.mono ?_
  rintro _ w1 ⟨v1, rfl, hown1, hb1⟩
  have HDD := hid (HD.out w1 hb1)
  have HO1 := hid hown1
  have HB1 := hid hb1
  clear hown1 hb1 HC HD
  go_wp2_with fail
  refine HDD.out.mono ?_
  rintro _ w2 ⟨v2, rfl, hown2, hb2⟩
  obtain ⟨a1, c1, rfl, hr1⟩ := Rt.own (own_later HO1.out hb2) HFIT.out
  obtain ⟨a2, c2, rfl, hr2⟩ := Rt.own hown2 HFIT.out
  have HSM := hid (same_ref a1 c1 (l.map toZ) a2 c2 w2 hr1 hr2)
  rw [List.length_map] at HSM
  have HB2 := hid (Bn HB1.out hb2)
  clear hown2 hb2 HDD HO1 HB1 hr1 hr2 HFIT
  generalize l.length = n at *
  go_wp2_with fail
  refine HSM.out.mono ?_
  rintro _ w3 ⟨rfl, hb3⟩
  have HB3 := hid (Bn HB2.out hb3)
  clear hb3 HSM HB2
  go_wp2_with fail
  refine (awake_any _).mono ?_
  rintro _ w4 ⟨rfl, hb4⟩
  have HB4 := hid (Bn HB3.out hb4)
  clear hb4
  go_wp2
  go_ret
  exact ⟨rfl, HB4.out⟩
set_option maxHeartbeats 1600000 in
set_option maxRecDepth 100000 in
theorem walk_cut (a : Option Addr) (cap : Nat) (zs : List Int) (w : World) (hr : Ri w .u8 a cap zs) (hl : ¬ 65536 < zs.length) :
    Calls Try.prog 5 #[.slice a zs.length cap] w fun e w' => e = .returned (.bool true) ∧ Below w.heap.size w w' := by
  have C1 := hid (cut_any a cap zs w hr)
  have r1 := hr.take 1500
  have hlz : (zs.length : Int) ≤ 65536 := by omega
  generalize zs.take 1500 = bs at *
  have HC := hid (tokens_word a cap bs w r1)
  have HD : Hid (∀ W, Below w.heap.size w W → Calls Try.prog 19 #[.slice a bs.length cap] W (TksPost bs W)) := fun W hW => tokens_ref a cap bs W (r1.later hW)
  unfold TksPost at HC HD
  have h8 : Bytes8 bs := r1.fits
  clear hr r1 hl
  have HFIT := hid (tks_fit bs h8)
  generalize tksO bs = o at *
  obtain ⟨l, f⟩ := o
  dsimp only at *
  have e1 : (f == f) = true := by simp
  generalize zs.length = L0 at *
  generalize bs.length = L at *
  clear h8
  go_enter Try.func5, Try.ntmps5
  go_wp2_with fail
  refine C1.out.mono ?_
  rintro _ w0 ⟨rfl, hw⟩
  obtain rfl := hw.symm
  clear hw C1
  go_wp2_with fail
  refine HC.out.mono ?_
  rintro _ w1 ⟨v1, rfl, hown1, hb1⟩
  have HDD := hid (HD.out w1 hb1)
  have HO1 := hid hown1
  have HB1 := hid hb1
  clear hown1 hb1 HC HD
  go_wp2_with fail
  refine HDD.out.mono ?_
  rintro _ w2 ⟨v2, rfl, hown2, hb2⟩
  obtain ⟨a1, c1, rfl, hr1⟩ := Rt.own (own_later HO1.out hb2) HFIT.out
  obtain ⟨a2, c2, rfl, hr2⟩ := Rt.own hown2 HFIT.out
  have HSM := hid (same_ref a1 c1 (l.map toZ) a2 c2 w2 hr1 hr2)
  rw [List.length_map] at HSM
  have HB2 := hid (Bn HB1.out hb2)
  clear hown2 hb2 HDD HO1 HB1 hr1 hr2 HFIT
  generalize l.length = n at *
  go_wp2_with fail
  refine HSM.out.mono ?_
  rintro _ w3 ⟨rfl, hb3⟩
  have HB3 := hid (Bn HB2.out hb3)
  clear hb3 HSM HB2
  go_wp2_with fail
  refine (awake_any _).mono ?_
  rintro _ w4 ⟨rfl, hb4⟩
  have HB4 := hid (Bn HB3.out hb4)
  clear hb4
  go_wp2
  go_ret
  exact ⟨rfl, HB4.out⟩
theorem walk (a : Option Addr) (cap : Nat) (zs : List Int) (w : World) (hr : Ri w .u8 a cap zs) :
    Calls Try.prog 5 #[.slice a zs.length cap] w fun e w' => e = .returned (.bool true) ∧ Below w.heap.size w w' := by
  by_cases hl : 65536 < zs.length
  · exact walk_long a cap zs w hr hl
  · exact walk_cut a cap zs w hr hl

set_option maxRecDepth 100000 in
theorem lifted (os : Os) (started : os.Started) (H : Type) (enc : TypeId × Value → H) :
    ReturnsInHanded {} Try.checked os 5 .any (Rows.lzTokensSpec.pre6 enc Try.prog Try.f5 Rows.lzTokensRow.domain false) (Rows.lzTokensSpec.post enc Try.prog Try.f5 false true false false) := by
  refine returnsInHanded_of_change (C := Try.checked) own started (by kernel_rfl) Try.func5
    (ChangeSpec.witness6 (enc := enc) (C := Try.checked) false ⟨#[], #[.slice none 0 0], []⟩ 8 (by kernel_rfl) (by kernel_rfl) (by kernel_rfl) (by kernel_rfl)) ?_
  intro W base args ds gs before hval0 hW _ _
  have hval : ∀ (j : Nat) t v, Try.f5.params[j]? = some t → args[j]? = some v → Value.okWide Try.prog W .any base t v := hval0
  have hW' := hW
  obtain ⟨p, q, hA0, hV, rfl, _, _⟩ := hW
  have hA : DataW.TrodAll enc Try.prog W 0 (fun _ => true) true Try.f5.params.toList args.toList ds p := hA0
  rw [Try.params5] at hA hval
  obtain ⟨v0, vs0, d0, ds0, p0, q0, hargs, rfl, rfl, h0, r0⟩ := trodAll_cons hA
  obtain ⟨rfl, rfl, rfl⟩ := trodAll_nil r0
  obtain rfl : args = #[v0] := by cases args; simp_all
  obtain ⟨rfl, rfl⟩ := trodVars_none hV
  clear hA0
  simp only [List.append_nil] at hW'
  have hlt0 : ∀ x ∈ p0, x.block < W.heap.size := fun x hx => hW'.lt x (by simp [hx])
  have hk0 := h0
  obtain ⟨a0, cap0, zs0, rfl, hr0⟩ := open_ri Try.underlying33 Try.underlying5 Try.cells5 (hval 0 33 v0 rfl rfl) h0 hlt0
  clear hval0
  refine (walk a0 cap0 zs0 W hr0).mono fun e W' ⟨he, hb⟩ => ?_
  subst he
  exact ⟨_, rfl, _, _, _, [] ++ [], _, [], hW', trodAll_cons_mk (shut_bool Try.underlying4 _) trodAll_mk0, (trodAll_cons_mk (Below.trod Try.laidOut (by kernel_rfl) (of_decide_eq_true (by kernel_rfl)) hk0 hb hlt0) trodAll_mk0), rfl, hb.frame _, fun h => by cases h⟩

theorem over : Rows.lzTokensRow.holds Try.pinned (OpenSpec.ofChange Rows.lzTokensSpec) :=
  OpenClaim.holds_of_wide 5 Try.f5 rfl rfl rfl rfl rfl rfl rfl ⟨rfl, rfl, rfl, rfl, rfl⟩ rfl rfl rfl rfl rfl (by kernel_rfl) Try.func5 (by kernel_rfl)
    (of_decide_eq_true (by kernel_rfl)) (by unfold Func.isWrapper; first | (rw [if_pos (by decide +kernel)]; kernel_rfl) | (rw [if_neg (by decide +kernel)]; exact ⟨rfl, rfl⟩))
    (fun os started H enc _ => lifted os started H enc)

end Go.Proofs.Ytgdlmhgjhmcilaa.lzTokens
namespace Go.Proofs.Ytgdlmhgjhmcilaa
theorem lzTokens_holds : Rows.LzTokensSaid := lzTokens.over
#print axioms lzTokens_holds
end Go.Proofs.Ytgdlmhgjhmcilaa
