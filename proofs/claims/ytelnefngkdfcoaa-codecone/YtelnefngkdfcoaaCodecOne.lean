/-
  CodecOne is proved for every input: what Unpack tells of any bytes has just these bytes, packed again; no condition.
-/
import Derived.Test.YtelnefngkdfcoaaPart09
import Derived.Test.YtelnefngkdfcoaaPart33
namespace Go.Proofs.Ytelnefngkdfcoaa.codecOne
open Go.ChangeShapes Go.WideShapes Go.ChangeAt Go.RowKit Lz Hf

theorem own : ownKnob Try.prog.godebug = none := by kernel_rfl

set_option maxHeartbeats 3200000 in
set_option maxRecDepth 100000 in
theorem walk (a : Option Addr) (cap : Nat) (zs : List Int) (w : World) (hr : Ri w .u8 a cap zs) :
    Calls Try.prog 4 #[.slice a zs.length cap] w fun e w' => e = .returned (.bool true) ∧ Below w.heap.size w w' := by
  have hnb : (zs.take 700).length ≤ 700 := List.length_take_le _ _
  have C1 := hid (cut7_any a cap zs w hr)
  have r1 := hr.take 700
  generalize zs.take 700 = bs at *
  have HU := hid (unpack_word a cap bs w r1 (by omega))
  have HUO : Hid (∀ l, unpO bs = some l → l.length ≤ 10000 ∧ (sizeO l).2 = 0 ∧ packB l = bs) := fun l hl => by
    unfold unpO at hl
    cases ht : toksR bs with
    | none => rw [ht] at hl; cases hl
    | some p =>
      obtain ⟨l', s'⟩ := p
      rw [ht] at hl
      dsimp only at hl
      split at hl
      · rename_i hc
        cases hl
        exact ⟨by have := (toksR_rng ht).2; omega, hc⟩
      · cases hl
  have HTX : Hid (∀ W, Below w.heap.size w W → (convert 23 9 (.slice a bs.length cap)).run Try.prog W = .ok (.string (strOfNums bs)) W) := fun W hW => r1.text W hW
  unfold UnpPost at HU
  clear hr r1 hnb
  generalize zs.length = L0 at *
  generalize unpO bs = R at *
  obtain ⟨len, hl⟩ : ∃ n, n = bs.length := ⟨_, rfl⟩
  have HL := hid hl
  rw [← hl] at HU C1 HTX
  clear hl
  go_enter Try.func4, Try.ntmps4
  go_wp2_with fail
  refine C1.out.mono ?_
  rintro _ w0 ⟨rfl, hw⟩
  obtain rfl := hw.symm
  clear hw C1
  go_wp2_with fail
  refine HU.out.mono ?_
  rintro _ w1 ⟨hb1, he⟩
  have HB1 := hid hb1
  clear hb1 HU
  cases R with
  | none =>
    dsimp only at he
    subst he
    clear HUO HTX
    go_wp2_with fail
    refine (alive_any _).mono ?_
    rintro _ w2 ⟨rfl, hb2⟩
    have HB2 := hid (Bn HB1.out hb2)
    clear hb2
    go_wp2_with fail
    go_ret
    exact ⟨rfl, HB2.out⟩
  | some l =>
    dsimp only at he
    obtain ⟨a1, c1, rfl, hrt⟩ := he
    obtain ⟨q1, q2, q3⟩ := HUO.out l rfl
    have HPK := hid (pack_any a1 c1 l w1 hrt q1)
    unfold PkPost at HPK
    rw [q2, q3] at HPK
    clear hrt q1 q2 q3 HUO
    generalize l.length = ll at *
    go_wp2_with fail
    refine HPK.out.mono ?_
    rintro _ w2 ⟨hb2, hp⟩
    rw [if_pos trivial] at hp
    obtain ⟨a2, c2, rfl, hri⟩ := hp
    have HB2 := hid (Bn HB1.out hb2)
    have t2 := hri.text w2 (Below.refl _ _)
    have t1 := HTX.out w2 HB2.out
    rw [← HL.out] at t2 ⊢
    clear hb2 hri HPK HTX HB1
    generalize strOfNums bs = st at *
    have e3 : (st.toList == st.toList) = true := by simp
    go_wp2_with fail
    refine (alive_any _).mono ?_
    rintro _ w3 ⟨rfl, hb3⟩
    have HB3 := hid (Bn HB2.out hb3)
    clear hb3 t1 t2
    go_wp2_with fail
    go_ret
    exact ⟨rfl, HB3.out⟩

set_option maxRecDepth 100000 in
theorem lifted (os : Os) (started : os.Started) (H : Type) (enc : TypeId × Value → H) :
    ReturnsInHanded {} Try.checked os 4 .any (Rows.codecOneSpec.pre6 enc Try.prog Try.f4 Rows.codecOneRow.domain false) (Rows.codecOneSpec.post enc Try.prog Try.f4 false true false false) := by
  refine returnsInHanded_of_change (C := Try.checked) own started (by kernel_rfl) Try.func4
    (ChangeSpec.witness6 (enc := enc) (C := Try.checked) false ⟨#[], #[.slice none 0 0], []⟩ 8 (by kernel_rfl) (by kernel_rfl) (by kernel_rfl) (by kernel_rfl)) ?_
  intro W base args ds gs before hval0 hW _ _
  have hval : ∀ (j : Nat) t v, Try.f4.params[j]? = some t → args[j]? = some v → Value.okWide Try.prog W .any base t v := hval0
  have hW' := hW
  obtain ⟨p, q, hA0, hV, rfl, _, _⟩ := hW
  have hA : DataW.TrodAll enc Try.prog W 0 (fun _ => true) true Try.f4.params.toList args.toList ds p := hA0
  rw [Try.params4] at hA hval
  obtain ⟨v0, vs0, d0, ds0, p0, q0, hargs, rfl, rfl, h0, r0⟩ := trodAll_cons hA
  obtain ⟨rfl, rfl, rfl⟩ := trodAll_nil r0
  obtain rfl : args = #[v0] := by cases args; simp_all
  obtain ⟨rfl, rfl⟩ := trodVars_none hV
  clear hA0
  simp only [List.append_nil] at hW'
  have hlt0 : ∀ x ∈ p0, x.block < W.heap.size := fun x hx => hW'.lt x (by simp [hx])
  have hk0 := h0
  obtain ⟨a0, cap0, zs0, rfl, hr0⟩ := open_ri Try.underlying23 Try.underlying5 Try.cells5 (hval 0 23 v0 rfl rfl) h0 hlt0
  clear hval0
  refine (walk a0 cap0 zs0 W hr0).mono fun e W' ⟨he, hb⟩ => ?_
  subst he
  exact ⟨_, rfl, _, _, _, [] ++ [], _, [], hW', trodAll_cons_mk (shut_bool Try.underlying4 _) trodAll_mk0, (trodAll_cons_mk (Below.trod Try.laidOut (by kernel_rfl) (of_decide_eq_true (by kernel_rfl)) hk0 hb hlt0) trodAll_mk0), rfl, hb.frame _, fun h => by cases h⟩

theorem over : Rows.codecOneRow.holds Try.pinned (OpenSpec.ofChange Rows.codecOneSpec) :=
  OpenClaim.holds_of_wide 4 Try.f4 rfl rfl rfl rfl rfl rfl rfl ⟨rfl, rfl, rfl, rfl, rfl⟩ rfl rfl rfl rfl rfl (by kernel_rfl) Try.func4 (by kernel_rfl)
    (of_decide_eq_true (by kernel_rfl)) (by unfold Func.isWrapper; first | (rw [if_pos (by decide +kernel)]; kernel_rfl) | (rw [if_neg (by decide +kernel)]; exact ⟨rfl, rfl⟩))
    (fun os started H enc _ => lifted os started H enc)

end Go.Proofs.Ytelnefngkdfcoaa.codecOne
namespace Go.Proofs.Ytelnefngkdfcoaa
theorem codecOne_holds : Rows.CodecOneSaid := codecOne.over
#print axioms codecOne_holds
end Go.Proofs.Ytelnefngkdfcoaa
