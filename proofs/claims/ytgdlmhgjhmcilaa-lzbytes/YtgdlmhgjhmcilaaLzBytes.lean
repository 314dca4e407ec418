/-
  LzBytes is proved for every input: Bytes tells the bytes that the document gives of any tokens, or the first with which it cannot go on; no condition.
-/
import Derived.Test.YtgdlmhgjhmcilaaAwake
import Derived.Test.YtgdlmhgjhmcilaaFit
namespace Go.Proofs.Ytgdlmhgjhmcilaa.lzBytes
open Go.ChangeShapes Go.WideShapes Go.ChangeAt Go.RowKit Lz

theorem own : ownKnob Try.prog.godebug = none := by kernel_rfl

set_option maxHeartbeats 1600000 in
set_option maxRecDepth 100000 in
theorem walk (a : Option Addr) (cap : Nat) (zs : List Tkz) (w : World) (hr : Rt w a cap zs) :
    Calls Try.prog 6 #[.slice a zs.length cap] w fun e w' => e = .returned (.bool true) ∧ Below w.heap.size w w' := by
  have C1 := hid (few_any a cap zs w hr)
  have r1 := hr.take 400
  have hn : (zs.take 400).length ≤ 400 := List.length_take_le _ _
  generalize zs.take 400 = l at *
  have HC := hid (bytes_word a cap l w r1 (by omega))
  have HD : Hid (∀ W, Below w.heap.size w W → Calls Try.prog 22 #[.slice a l.length cap] W (BytPost l W)) := fun W hW => bytes_ref a cap l W (r1.later hW) (by omega)
  unfold BytPost at HC HD
  have HFIT := hid (byt_fit l (fun j hj => (r1.fits j hj).2.2))
  clear hr r1 hn
  generalize bytesO l = o at *
  obtain ⟨b, i, f⟩ := o
  dsimp only at *
  have e1 : (f == f) = true := by simp
  have e2 : (i == i) = true := by simp
  generalize zs.length = L0 at *
  generalize l.length = L at *
  go_enter Try.func6, Try.ntmps6
  go_wp2_with fail
  refine C1.out.mono ?_
  rintro _ w0 ⟨rfl, hw⟩
  obtain rfl := hw.symm
  clear hw C1
  go_wp2_with fail
  refine HC.out.mono ?_
  rintro _ w1 ⟨v1, rfl, hown1, hb1⟩
  have HDD := hid (HD.out w1 hb1)
  have HO1 := hid hown1
  have HB1 := hid hb1
  clear hown1 hb1 HC HD
  go_wp2_with fail
  refine HDD.out.mono ?_
  rintro _ w2 ⟨v2, rfl, hown2, hb2⟩
  obtain ⟨a1, c1, rfl, hr1⟩ := Ri.own (own_later HO1.out hb2) HFIT.out
  obtain ⟨a2, c2, rfl, hr2⟩ := Ri.own hown2 HFIT.out
  have t1 := hr1.text w2 (Below.refl _ _)
  have t2 := hr2.text w2 (Below.refl _ _)
  have HB2 := hid (Bn HB1.out hb2)
  clear hown2 hb2 HDD HO1 HB1 hr1 hr2 HFIT
  generalize strOfNums b = st at *
  generalize b.length = n at *
  have e3 : (st.toList == st.toList) = true := by simp
  go_wp2_with fail
  refine (awake_any _).mono ?_
  rintro _ w4 ⟨rfl, hb4⟩
  have HB4 := hid (Bn HB2.out hb4)
  clear hb4 t1 t2
  go_wp2
  go_ret
  exact ⟨rfl, HB4.out⟩

set_option maxRecDepth 100000 in
theorem lifted (os : Os) (started : os.Started) (H : Type) (enc : TypeId × Value → H) :
    ReturnsInHanded {} Try.checked os 6 .any (Rows.lzBytesSpec.pre6 enc Try.prog Try.f6 Rows.lzBytesRow.domain false) (Rows.lzBytesSpec.post enc Try.prog Try.f6 false true false false) := by
  refine returnsInHanded_of_change (C := Try.checked) own started (by kernel_rfl) Try.func6
    (ChangeSpec.witness6 (enc := enc) (C := Try.checked) false ⟨#[], #[.slice none 0 0], []⟩ 8 (by kernel_rfl) (by kernel_rfl) (by kernel_rfl) (by kernel_rfl)) ?_
  intro W base args ds gs before hval0 hW _ _
  have hval : ∀ (j : Nat) t v, Try.f6.params[j]? = some t → args[j]? = some v → Value.okWide Try.prog W .any base t v := hval0
  have hW' := hW
  obtain ⟨p, q, hA0, hV, rfl, _, _⟩ := hW
  have hA : DataW.TrodAll enc Try.prog W 0 (fun _ => true) true Try.f6.params.toList args.toList ds p := hA0
  rw [Try.params6] at hA hval
  obtain ⟨v0, vs0, d0, ds0, p0, q0, hargs, rfl, rfl, h0, r0⟩ := trodAll_cons hA
  obtain ⟨rfl, rfl, rfl⟩ := trodAll_nil r0
  obtain rfl : args = #[v0] := by cases args; simp_all
  obtain ⟨rfl, rfl⟩ := trodVars_none hV
  clear hA0
  simp only [List.append_nil] at hW'
  have hlt0 : ∀ x ∈ p0, x.block < W.heap.size := fun x hx => hW'.lt x (by simp [hx])
  have hk0 := h0
  obtain ⟨a0, cap0, zs0, rfl, hr0⟩ := open_rt (hval 0 24 v0 rfl rfl) h0 hlt0
  clear hval0
  refine (walk a0 cap0 zs0 W hr0).mono fun e W' ⟨he, hb⟩ => ?_
  subst he
  exact ⟨_, rfl, _, _, _, [] ++ [], _, [], hW', trodAll_cons_mk (shut_bool Try.underlying4 _) trodAll_mk0, (trodAll_cons_mk (Below.trod Try.laidOut (by kernel_rfl) (of_decide_eq_true (by kernel_rfl)) hk0 hb hlt0) trodAll_mk0), rfl, hb.frame _, fun h => by cases h⟩

theorem over : Rows.lzBytesRow.holds Try.pinned (OpenSpec.ofChange Rows.lzBytesSpec) :=
  OpenClaim.holds_of_wide 6 Try.f6 rfl rfl rfl rfl rfl rfl rfl ⟨rfl, rfl, rfl, rfl, rfl⟩ rfl rfl rfl rfl rfl (by kernel_rfl) Try.func6 (by kernel_rfl)
    (of_decide_eq_true (by kernel_rfl)) (by unfold Func.isWrapper; first | (rw [if_pos (by decide +kernel)]; kernel_rfl) | (rw [if_neg (by decide +kernel)]; exact ⟨rfl, rfl⟩))
    (fun os started H enc _ => lifted os started H enc)

end Go.Proofs.Ytgdlmhgjhmcilaa.lzBytes
namespace Go.Proofs.Ytgdlmhgjhmcilaa
theorem lzBytes_holds : Rows.LzBytesSaid := lzBytes.over
#print axioms lzBytes_holds
end Go.Proofs.Ytgdlmhgjhmcilaa
