/-
  CodecEncodes is proved for every input: any row is encoded as the document says; no condition.
-/
import Derived.Test.YtelnefngkdfcoaaGreatPart09
import Derived.Test.YtelnefngkdfcoaaGreatPart33
import Derived.Test.YtelnefngkdfcoaaGreatPart42
namespace Go.Proofs.YtelnefngkdfcoaaGreat.codecEncodes
open Go.ChangeShapes Go.WideShapes Go.ChangeAt Go.RowKit Lz Hf

theorem own : ownKnob Tryz.prog.godebug = none := by kernel_rfl

set_option maxHeartbeats 3200000 in
set_option maxRecDepth 100000 in
theorem walk (a : Option Addr) (cap : Nat) (zs : List Int) (w : World) (hr : Ri w .u8 a cap zs) :
    Calls Tryz.prog 5 #[.slice a zs.length cap] w fun e w' => e = .returned (.bool true) ∧ Below w.heap.size w w' := by
  have hnb : (zs.take 700).length ≤ 700 := List.length_take_le _ _
  have C1 := hid (cut7_any a cap zs w hr)
  have r1 := hr.take 700
  generalize zs.take 700 = bs at *
  have HEN := hid (cenc_word a cap bs w r1 (by omega))
  have HRN : Hid (∀ W, Below w.heap.size w W → Calls Tryz.prog 16 #[.slice a bs.length cap] W (CncPost bs W)) := fun W hW => renc_ref a cap bs W (r1.later hW) (by omega)
  unfold CncPost at HEN HRN
  clear hr r1 hnb
  generalize zs.length = L0 at *
  generalize bs.length = ll at *
  generalize encB bs = E at *
  go_enter Tryz.func5, Tryz.ntmps5
  go_wp2_with fail
  refine C1.out.mono ?_
  rintro _ w0 ⟨rfl, hw⟩
  obtain rfl := hw.symm
  clear hw C1
  go_wp2_with fail
  refine HEN.out.mono ?_
  rintro _ w1 ⟨hb1, a1, c1, rfl, h1⟩
  have HRN1 := hid (HRN.out w1 hb1)
  have HB1 := hid hb1
  have HT1 : Hid (∀ V, Below w1.heap.size w1 V → (convert 24 9 (.slice a1 E.length c1)).run Tryz.prog V = .ok (.string (strOfNums E)) V) := fun V hV => h1.text V hV
  clear h1 hb1 HEN HRN
  go_wp2_with fail
  refine HRN1.out.mono ?_
  rintro _ w2 ⟨hb2, a2, c2, rfl, h2⟩
  have t1 := HT1.out w2 hb2
  have t2 := h2.text w2 (Below.refl _ _)
  have HB2 := hid (Bn HB1.out hb2)
  clear hb2 h2 HT1 HRN1 HB1
  generalize strOfNums E = st at *
  generalize E.length = pl at *
  have e3 : (st.toList == st.toList) = true := by simp
  go_wp2_with fail
  refine (alive_any _).mono ?_
  rintro _ w3 ⟨rfl, hb3⟩
  have HB3 := hid (Bn HB2.out hb3)
  clear hb3 t1 t2
  go_wp2_with fail
  go_ret
  exact ⟨rfl, HB3.out⟩

set_option maxRecDepth 100000 in
theorem lifted (os : Os) (started : os.Started) (H : Type) (enc : TypeId × Value → H) :
    ReturnsInHanded {} Tryz.checked os 5 .any (Rows.codecEncodesSpec.pre6 enc Tryz.prog Tryz.f5 Rows.codecEncodesRow.domain false) (Rows.codecEncodesSpec.post enc Tryz.prog Tryz.f5 false true false false) := by
  refine returnsInHanded_of_change (C := Tryz.checked) own started (by kernel_rfl) Tryz.func5
    (ChangeSpec.witness6 (enc := enc) (C := Tryz.checked) false ⟨#[], #[.slice none 0 0], []⟩ 8 (by kernel_rfl) (by kernel_rfl) (by kernel_rfl) (by kernel_rfl)) ?_
  intro W base args ds gs before hval0 hW _ _
  have hval : ∀ (j : Nat) t v, Tryz.f5.params[j]? = some t → args[j]? = some v → Value.okWide Tryz.prog W .any base t v := hval0
  have hW' := hW
  obtain ⟨p, q, hA0, hV, rfl, _, _⟩ := hW
  have hA : DataW.TrodAll enc Tryz.prog W 0 (fun _ => true) true Tryz.f5.params.toList args.toList ds p := hA0
  rw [Tryz.params5] at hA hval
  obtain ⟨v0, vs0, d0, ds0, p0, q0, hargs, rfl, rfl, h0, r0⟩ := trodAll_cons hA
  obtain ⟨rfl, rfl, rfl⟩ := trodAll_nil r0
  obtain rfl : args = #[v0] := by cases args; simp_all
  obtain ⟨rfl, rfl⟩ := trodVars_none hV
  clear hA0
  simp only [List.append_nil] at hW'
  have hlt0 : ∀ x ∈ p0, x.block < W.heap.size := fun x hx => hW'.lt x (by simp [hx])
  have hk0 := h0
  obtain ⟨a0, cap0, zs0, rfl, hr0⟩ := open_ri Tryz.underlying24 Tryz.underlying5 Tryz.cells5 (hval 0 24 v0 rfl rfl) h0 hlt0
  clear hval0
  refine (walk a0 cap0 zs0 W hr0).mono fun e W' ⟨he, hb⟩ => ?_
  subst he
  exact ⟨_, rfl, _, _, _, [] ++ [], _, [], hW', trodAll_cons_mk (shut_bool Tryz.underlying4 _) trodAll_mk0, (trodAll_cons_mk (Below.trod Tryz.laidOut (by kernel_rfl) (of_decide_eq_true (by kernel_rfl)) hk0 hb hlt0) trodAll_mk0), rfl, hb.frame _, fun h => by cases h⟩

theorem over : Rows.codecEncodesRow.holds Tryz.pinned (OpenSpec.ofChange Rows.codecEncodesSpec) :=
  OpenClaim.holds_of_wide 5 Tryz.f5 rfl rfl rfl rfl rfl rfl rfl ⟨rfl, rfl, rfl, rfl, rfl⟩ rfl rfl rfl rfl rfl (by kernel_rfl) Tryz.func5 (by kernel_rfl)
    (of_decide_eq_true (by kernel_rfl)) (by unfold Func.isWrapper; first | (rw [if_pos (by decide +kernel)]; kernel_rfl) | (rw [if_neg (by decide +kernel)]; exact ⟨rfl, rfl⟩))
    (fun os started H enc _ => lifted os started H enc)

end Go.Proofs.YtelnefngkdfcoaaGreat.codecEncodes
namespace Go.Proofs.YtelnefngkdfcoaaGreat
theorem codecEncodes_holds : Rows.CodecEncodesSaid := codecEncodes.over
#print axioms codecEncodes_holds
end Go.Proofs.YtelnefngkdfcoaaGreat
