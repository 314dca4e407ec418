/-
  CodecPacks is proved for every input: any tokens are packed as the document says; no condition.
-/
import Derived.Test.YtelnefngkdfcoaaGreatPart09
import Derived.Test.YtelnefngkdfcoaaGreatPart33
import Derived.Test.YtelnefngkdfcoaaGreatPart41
namespace Go.Proofs.YtelnefngkdfcoaaGreat.codecPacks
open Go.ChangeShapes Go.WideShapes Go.ChangeAt Go.RowKit Lz Hf

theorem own : ownKnob Tryz.prog.godebug = none := by kernel_rfl

set_option maxHeartbeats 3200000 in
set_option maxRecDepth 100000 in
theorem walk (a : Option Addr) (cap : Nat) (ts : List Tkz) (w : World) (hr : Rt w a cap ts) :
    Calls Tryz.prog 3 #[.slice a ts.length cap] w fun e w' => e = .returned (.bool true) ∧ Below w.heap.size w w' := by
  have hnt : (ts.take 80).length ≤ 80 := List.length_take_le _ _
  have C1 := hid (few7_any a cap ts w hr)
  have r1 := hr.take 80
  generalize ts.take 80 = l at *
  have HPK := hid (pack_any a cap l w r1 (by omega))
  have HRK : Hid (∀ W, Below w.heap.size w W → ((sizeO l).2 = 0 → ∀ j, 0 ≤ (packB l).getD j 0 ∧ (packB l).getD j 0 ≤ 255) → Calls Tryz.prog 9 #[.slice a l.length cap] W (PkPost l W)) := fun W hW hu => rpack_any a cap l W (r1.later hW) (by omega) hu
  unfold PkPost at HPK HRK
  clear hr r1 hnt
  generalize ts.length = L0 at *
  generalize l.length = ll at *
  generalize (sizeO l).2 = z at *
  generalize packB l = p at *
  go_enter Tryz.func3, Tryz.ntmps3
  go_wp2_with fail
  refine C1.out.mono ?_
  rintro _ w0 ⟨rfl, hw⟩
  obtain rfl := hw.symm
  clear hw C1
  go_wp2_with fail
  refine HPK.out.mono ?_
  rintro _ w1 ⟨hb1, he⟩
  have HB1 := hid hb1
  clear hb1 HPK
  by_cases hz : z = 0
  · subst hz
    rw [if_pos rfl] at he
    obtain ⟨a1, c1, rfl, h1⟩ := he
    have HRK1 := hid (HRK.out w1 HB1.out (fun _ j => wf_u8 (h1.fits j)))
    have HT1 : Hid (∀ V, Below w1.heap.size w1 V → (convert 24 9 (.slice a1 p.length c1)).run Tryz.prog V = .ok (.string (strOfNums p)) V) := fun V hV => h1.text V hV
    clear h1 HRK
    go_wp2_with fail
    refine HRK1.out.mono ?_
    rintro _ w2 ⟨hb2, he⟩
    rw [if_pos trivial] at he
    obtain ⟨a2, c2, rfl, h2⟩ := he
    have t1 := HT1.out w2 hb2
    have t2 := h2.text w2 (Below.refl _ _)
    have HB2 := hid (Bn HB1.out hb2)
    clear hb2 h2 HT1 HRK1 HB1
    generalize strOfNums p = st at *
    generalize p.length = pl at *
    have e3 : (st.toList == st.toList) = true := by simp
    go_wp2_with fail
    refine (alive_any _).mono ?_
    rintro _ w3 ⟨rfl, hb3⟩
    have HB3 := hid (Bn HB2.out hb3)
    clear hb3 t1 t2
    go_wp2_with fail
    go_ret
    exact ⟨rfl, HB3.out⟩
  · rw [if_neg hz] at he
    subst he
    have HRK1 := hid (HRK.out w1 HB1.out (fun h => absurd h hz))
    have hnil : ∀ V, (convert 24 9 (.slice none 0 0)).run Tryz.prog V = .ok (.string (strOfNums [])) V := fun V => Ri.text (w := V) (a := none) (cap := 0) (zs := []) ⟨Nat.le_refl _, by unfold maxLen; omega, fun h => absurd h (by simp), fun j => rfl⟩ V (Below.refl _ _)
    clear HRK
    have hzz : (z == z) = true := by simp
    generalize strOfNums [] = st at *
    have e3 : (st.toList == st.toList) = true := by simp
    go_wp2_with fail
    refine HRK1.out.mono ?_
    rintro _ w2 ⟨hb2, he⟩
    rw [if_neg hz] at he
    subst he
    have HB2 := hid (Bn HB1.out hb2)
    have t1 := hnil w2
    clear hb2 HRK1 HB1 hnil
    go_wp2_with fail
    refine (alive_any _).mono ?_
    rintro _ w3 ⟨rfl, hb3⟩
    have HB3 := hid (Bn HB2.out hb3)
    clear hb3 t1
    go_wp2_with fail
    go_ret
    exact ⟨rfl, HB3.out⟩

set_option maxRecDepth 100000 in
theorem lifted (os : Os) (started : os.Started) (H : Type) (enc : TypeId × Value → H) :
    ReturnsInHanded {} Tryz.checked os 3 .any (Rows.codecPacksSpec.pre6 enc Tryz.prog Tryz.f3 Rows.codecPacksRow.domain false) (Rows.codecPacksSpec.post enc Tryz.prog Tryz.f3 false true false false) := by
  refine returnsInHanded_of_change (C := Tryz.checked) own started (by kernel_rfl) Tryz.func3
    (ChangeSpec.witness6 (enc := enc) (C := Tryz.checked) false ⟨#[], #[.slice none 0 0], []⟩ 8 (by kernel_rfl) (by kernel_rfl) (by kernel_rfl) (by kernel_rfl)) ?_
  intro W base args ds gs before hval0 hW _ _
  have hval : ∀ (j : Nat) t v, Tryz.f3.params[j]? = some t → args[j]? = some v → Value.okWide Tryz.prog W .any base t v := hval0
  have hW' := hW
  obtain ⟨p, q, hA0, hV, rfl, _, _⟩ := hW
  have hA : DataW.TrodAll enc Tryz.prog W 0 (fun _ => true) true Tryz.f3.params.toList args.toList ds p := hA0
  rw [Tryz.params3] at hA hval
  obtain ⟨v0, vs0, d0, ds0, p0, q0, hargs, rfl, rfl, h0, r0⟩ := trodAll_cons hA
  obtain ⟨rfl, rfl, rfl⟩ := trodAll_nil r0
  obtain rfl : args = #[v0] := by cases args; simp_all
  obtain ⟨rfl, rfl⟩ := trodVars_none hV
  clear hA0
  simp only [List.append_nil] at hW'
  have hlt0 : ∀ x ∈ p0, x.block < W.heap.size := fun x hx => hW'.lt x (by simp [hx])
  have hk0 := h0
  obtain ⟨a0, cap0, zs0, rfl, hr0⟩ := open_rt (hval 0 22 v0 rfl rfl) h0 hlt0
  clear hval0
  refine (walk a0 cap0 zs0 W hr0).mono fun e W' ⟨he, hb⟩ => ?_
  subst he
  exact ⟨_, rfl, _, _, _, [] ++ [], _, [], hW', trodAll_cons_mk (shut_bool Tryz.underlying4 _) trodAll_mk0, (trodAll_cons_mk (Below.trod Tryz.laidOut (by kernel_rfl) (of_decide_eq_true (by kernel_rfl)) hk0 hb hlt0) trodAll_mk0), rfl, hb.frame _, fun h => by cases h⟩

theorem over : Rows.codecPacksRow.holds Tryz.pinned (OpenSpec.ofChange Rows.codecPacksSpec) :=
  OpenClaim.holds_of_wide 3 Tryz.f3 rfl rfl rfl rfl rfl rfl rfl ⟨rfl, rfl, rfl, rfl, rfl⟩ rfl rfl rfl rfl rfl (by kernel_rfl) Tryz.func3 (by kernel_rfl)
    (of_decide_eq_true (by kernel_rfl)) (by unfold Func.isWrapper; first | (rw [if_pos (by decide +kernel)]; kernel_rfl) | (rw [if_neg (by decide +kernel)]; exact ⟨rfl, rfl⟩))
    (fun os started H enc _ => lifted os started H enc)

end Go.Proofs.YtelnefngkdfcoaaGreat.codecPacks
namespace Go.Proofs.YtelnefngkdfcoaaGreat
theorem codecPacks_holds : Rows.CodecPacksSaid := codecPacks.over
#print axioms codecPacks_holds
end Go.Proofs.YtelnefngkdfcoaaGreat
