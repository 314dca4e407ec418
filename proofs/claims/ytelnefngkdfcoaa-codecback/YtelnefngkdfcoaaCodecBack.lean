/-
  CodecBack is proved for every input: tokens are unpacked as they were packed, a row is decoded as it was encoded, with at most 4 bytes more; no condition.
-/
import Derived.Test.YtelnefngkdfcoaaPart09
import Derived.Test.YtelnefngkdfcoaaPart33
import Derived.Test.YtelnefngkdfcoaaPart30
namespace Go.Proofs.Ytelnefngkdfcoaa.codecBack
open Go.ChangeShapes Go.WideShapes Go.ChangeAt Go.RowKit Lz Hf

theorem own : ownKnob Try.prog.godebug = none := by kernel_rfl

set_option maxHeartbeats 3200000 in
set_option maxRecDepth 100000 in
theorem walk (at' : Option Addr) (capt : Nat) (ts : List Tkz) (a : Option Addr) (cap : Nat) (zs : List Int) (w : World) (ht : Rt w at' capt ts) (hr : Ri w .u8 a cap zs) :
    Calls Try.prog 3 #[.slice at' ts.length capt, .slice a zs.length cap] w fun e w' => e = .returned (.bool true) ∧ Below w.heap.size w w' := by
  have hnb : (zs.take 700).length ≤ 700 := List.length_take_le _ _
  have hnt : (ts.take 80).length ≤ 80 := List.length_take_le _ _
  have C0 := hid (few7_any at' capt ts w ht)
  have C1 := hid (cut7_any a cap zs w hr)
  have r1 := hr.take 700
  have r0 := ht.take 80
  generalize zs.take 700 = bs at *
  generalize ts.take 80 = l at *
  have h8 : Bytes8 bs := r1.fits
  have HEN := hid (cenc_word a cap bs w r1 (by omega))
  have HDE : Hid (∀ W a c, Ri W .u8 a c (encB bs) → Calls Try.prog 8 #[.slice a (encB bs).length c] W fun e w' => Below W.heap.size W w' ∧ ∃ a c, e = .returned (.tuple #[.slice a bs.length c, .int .i64 0]) ∧ Ri w' .u8 a c bs) := fun W a c hW => dec_enc bs h8 (by omega) W a c hW
  have HEL := hid (enc_len bs (by omega))
  have HPK : Hid (∀ W, Below w.heap.size w W → Calls Try.prog 9 #[.slice at' l.length capt] W (PkPost l W)) := fun W hW => pack_any at' capt l W (r0.later hW) (by omega)
  have HUN : Hid ((sizeO l).2 = 0 → ∀ W a c, Ri W .u8 a c (packB l) → Calls Try.prog 11 #[.slice a (packB l).length c] W fun e w' => Below W.heap.size W w' ∧ ∃ a c, e = .returned (.tuple #[.slice a l.length c, .int .i64 0]) ∧ Rt w' a c l) := fun hz W a c hW => unp_back l hnt hz (fun j hj => wf_u8 (r0.fits j hj).2.2) W a c hW
  have HSM : Hid (∀ W b c, Below w.heap.size w W → Rt W b c l → Calls Try.prog 12 #[.slice at' l.length capt, .slice b l.length c] W fun e w' => e = .returned (.bool true) ∧ Below W.heap.size W w') := fun W b c hW hb => same_ref at' capt l b c W (r0.later hW) hb
  have HTX : Hid (∀ W, Below w.heap.size w W → (convert 23 9 (.slice a bs.length cap)).run Try.prog W = .ok (.string (strOfNums bs)) W) := fun W hW => r1.text W hW
  unfold CncPost at HEN
  unfold PkPost at HPK
  clear hr ht r1 r0 hnt h8
  generalize encB bs = E at *
  obtain ⟨el, hel⟩ : ∃ n, n = E.length := ⟨_, rfl⟩
  have HE := hid hel
  rw [← hel] at HEN HDE HEL
  generalize packB l = p at *
  generalize hz : (sizeO l).2 = z at *
  clear hz hel
  generalize zs.length = L0 at *
  generalize ts.length = T0 at *
  generalize l.length = L1 at *
  obtain ⟨len, hl⟩ : ∃ n, n = bs.length := ⟨_, rfl⟩
  have HL := hid hl
  rw [← hl] at C1 HTX HEL HDE HEN hnb
  have HNB := hid hnb
  clear hl hnb
  go_enter Try.func3, Try.ntmps3
  go_wp2_with fail
  refine C0.out.mono ?_
  rintro _ w0 ⟨rfl, hw⟩
  obtain rfl := hw.symm
  clear hw C0
  go_wp2_with fail
  refine C1.out.mono ?_
  rintro _ w0 ⟨rfl, hw⟩
  obtain rfl := hw.symm
  clear hw C1
  go_wp2_with fail
  refine HEN.out.mono ?_
  rintro _ w1 ⟨hb1, a1, c1, rfl, hr1⟩
  have HB1 := hid hb1
  have HD := hid (HDE.out w1 a1 c1 hr1)
  clear hb1 hr1 HDE HEN
  go_wp2_with fail
  refine HD.out.mono ?_
  rintro _ w2 ⟨hb2, a2, c2, rfl, hr2⟩
  have HB2 := hid (Bn HB1.out hb2)
  have t2 := hr2.text w2 (Below.refl _ _)
  have t1 := HTX.out w2 HB2.out
  rw [← HL.out] at t2
  have HP := hid (HPK.out w2 HB2.out)
  clear hb2 hr2 HD HTX HB1 HPK
  generalize strOfNums bs = st at *
  have e3 : (st.toList == st.toList) = true := by simp
  have e4 : (st.toList != st.toList) = false := by simp
  have hwr : IntKind.i64.wrap ((len : Int) + 4) = (len : Int) + 4 := by have := HNB.out; exact IntWalk.i64_in _ ⟨by omega, by omega⟩
  have hgt : ¬ (len : Int) + 4 < (el : Int) := by have := HEL.out; omega
  have hgd : decide ((len : Int) + 4 < (el : Int)) = false := decide_eq_false hgt
  go_wp2_with fail
  refine HP.out.mono ?_
  rintro _ w3 ⟨hb3, hp⟩
  have HB3 := hid (Bn HB2.out hb3)
  clear hb3 HP t1 t2 hwr hgt hgd e3 e4
  by_cases hz : z = 0
  · subst hz
    rw [if_pos rfl] at hp
    obtain ⟨a3, c3, rfl, hr3⟩ := hp
    have HU := hid (HUN.out rfl w3 a3 c3 hr3)
    clear hr3 HUN
    generalize p.length = pl at *
    go_wp2_with fail
    refine HU.out.mono ?_
    rintro _ w4 ⟨hb4, a4, c4, rfl, hr4⟩
    have HB4 := hid (Bn HB3.out hb4)
    have HS := hid (HSM.out w4 a4 c4 HB4.out hr4)
    clear hb4 hr4 HU HSM
    go_wp2_with fail
    refine HS.out.mono ?_
    rintro _ w5 ⟨rfl, hb5⟩
    have HB5 := hid (Bn HB4.out hb5)
    clear hb5 HS
    go_wp2_with fail
    refine (alive_any _).mono ?_
    rintro _ w6 ⟨rfl, hb6⟩
    have HB6 := hid (Bn HB5.out hb6)
    clear hb6
    go_wp2_with fail
    go_ret
    exact ⟨rfl, HB6.out⟩
  · rw [if_neg hz] at hp
    subst hp
    have hbne : (z != 0) = true := bne_iff_ne.2 hz
    have hbeq : (z == 0) = false := beq_eq_false_iff_ne.2 hz
    clear HUN HSM
    go_wp2_with fail
    refine (alive_any _).mono ?_
    rintro _ w6 ⟨rfl, hb6⟩
    have HB6 := hid (Bn HB3.out hb6)
    clear hb6
    go_wp2_with fail
    go_ret
    exact ⟨rfl, HB6.out⟩

set_option maxRecDepth 100000 in
theorem lifted (os : Os) (started : os.Started) (H : Type) (enc : TypeId × Value → H) :
    ReturnsInHanded {} Try.checked os 3 .any (Rows.codecBackSpec.pre6 enc Try.prog Try.f3 Rows.codecBackRow.domain false) (Rows.codecBackSpec.post enc Try.prog Try.f3 false true false false) := by
  refine returnsInHanded_of_change (C := Try.checked) own started (by kernel_rfl) Try.func3
    (ChangeSpec.witness6 (enc := enc) (C := Try.checked) false ⟨#[], #[.slice none 0 0, .slice none 0 0], []⟩ 8 (by kernel_rfl) (by kernel_rfl) (by kernel_rfl) (by kernel_rfl)) ?_
  intro W base args ds gs before hval0 hW _ _
  have hval : ∀ (j : Nat) t v, Try.f3.params[j]? = some t → args[j]? = some v → Value.okWide Try.prog W .any base t v := hval0
  have hW' := hW
  obtain ⟨p, q, hA0, hV, rfl, _, _⟩ := hW
  have hA : DataW.TrodAll enc Try.prog W 0 (fun _ => true) true Try.f3.params.toList args.toList ds p := hA0
  rw [Try.params3] at hA hval
  obtain ⟨v0, vs0, d0, ds0, p0, q0, hargs, rfl, rfl, h0, r0⟩ := trodAll_cons hA
  obtain ⟨v1, vs1, d1, ds1, p1, q1, rfl, rfl, rfl, h1, r1⟩ := trodAll_cons r0
  obtain ⟨rfl, rfl, rfl⟩ := trodAll_nil r1
  obtain rfl : args = #[v0, v1] := by cases args; simp_all
  obtain ⟨rfl, rfl⟩ := trodVars_none hV
  clear hA0
  simp only [List.append_nil] at hW'
  have hlt0 : ∀ x ∈ p0, x.block < W.heap.size := fun x hx => hW'.lt x (by simp [hx])
  have hk0 := h0
  obtain ⟨a0, cap0, zs0, rfl, hr0⟩ := open_rt (hval 0 22 v0 rfl rfl) h0 hlt0
  have hlt1 : ∀ x ∈ p1, x.block < W.heap.size := fun x hx => hW'.lt x (by simp [hx])
  have hk1 := h1
  obtain ⟨a1, cap1, zs1, rfl, hr1⟩ := open_ri Try.underlying23 Try.underlying5 Try.cells5 (hval 1 23 v1 rfl rfl) h1 hlt1
  clear hval0
  refine (walk a0 cap0 zs0 a1 cap1 zs1 W hr0 hr1).mono fun e W' ⟨he, hb⟩ => ?_
  subst he
  exact ⟨_, rfl, _, _, _, [] ++ [], _, [], hW', trodAll_cons_mk (shut_bool Try.underlying4 _) trodAll_mk0, (trodAll_cons_mk (Below.trod Try.laidOut (by kernel_rfl) (of_decide_eq_true (by kernel_rfl)) hk0 hb hlt0) (trodAll_cons_mk (Below.trod Try.laidOut (by kernel_rfl) (of_decide_eq_true (by kernel_rfl)) hk1 hb hlt1) trodAll_mk0)), rfl, hb.frame _, fun h => by cases h⟩

theorem over : Rows.codecBackRow.holds Try.pinned (OpenSpec.ofChange Rows.codecBackSpec) :=
  OpenClaim.holds_of_wide 3 Try.f3 rfl rfl rfl rfl rfl rfl rfl ⟨rfl, rfl, rfl, rfl, rfl⟩ rfl rfl rfl rfl rfl (by kernel_rfl) Try.func3 (by kernel_rfl)
    (of_decide_eq_true (by kernel_rfl)) (by unfold Func.isWrapper; first | (rw [if_pos (by decide +kernel)]; kernel_rfl) | (rw [if_neg (by decide +kernel)]; exact ⟨rfl, rfl⟩))
    (fun os started H enc _ => lifted os started H enc)

end Go.Proofs.Ytelnefngkdfcoaa.codecBack
namespace Go.Proofs.Ytelnefngkdfcoaa
theorem codecBack_holds : Rows.CodecBackSaid := codecBack.over
#print axioms codecBack_holds
end Go.Proofs.Ytelnefngkdfcoaa
