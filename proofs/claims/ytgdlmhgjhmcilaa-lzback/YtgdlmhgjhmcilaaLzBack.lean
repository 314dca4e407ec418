/-
  LzBack is proved for every input: the bytes of the tokens of any bytes are these; no condition.
-/
import Derived.Test.YtgdlmhgjhmcilaaAwake
import Derived.Test.YtgdlmhgjhmcilaaFit
namespace Go.Proofs.Ytgdlmhgjhmcilaa.lzBack
open Go.ChangeShapes Go.WideShapes Go.ChangeAt Go.RowKit Lz

theorem own : ownKnob Try.prog.godebug = none := by kernel_rfl

set_option maxHeartbeats 1600000 in
set_option maxRecDepth 100000 in
theorem walk (a : Option Addr) (cap : Nat) (zs : List Int) (w : World) (hr : Ri w .u8 a cap zs) :
    Calls Try.prog 7 #[.slice a zs.length cap] w fun e w' => e = .returned (.bool true) ∧ Below w.heap.size w w' := by
  have hnb : (zs.take 1500).length ≤ 1500 := List.length_take_le _ _
  have C1 : Hid (∀ W, Below w.heap.size w W → Calls Try.prog 15 #[.slice a zs.length cap] W fun e w' => e = .returned (.slice a (zs.take 1500).length cap) ∧ w' = W) := fun W hW => cut_any a cap zs W (hr.later hW)
  have r1 := hr.take 1500
  generalize zs.take 1500 = bs at *
  have h8 : Bytes8 bs := r1.fits
  have HFIT := hid (tks_fit bs h8)
  have HO : Hid (tksO bs = (toksL bs, 0)) := by show _ = _; unfold tksO; rw [if_neg (by omega)]
  have HBK := hid (back_eq bs h8 (by omega))
  have HLN : Hid ((toksL bs).length ≤ 1500) := by
    show _ ≤ _
    rw [toksL_from]
    have := from_len (bs := bs) _ 0 (Nat.le_refl _)
    omega
  have HC : Hid (∀ W, Below w.heap.size w W → Calls Try.prog 18 #[.slice a bs.length cap] W (TksPost bs W)) := fun W hW => tokens_word a cap bs W (r1.later hW)
  unfold TksPost at HC
  rw [HO.out] at HC HFIT
  dsimp only at HC HFIT
  have HR := hid r1
  have HTX : Hid (∀ W, Below w.heap.size w W → (convert 33 9 (.slice a bs.length cap)).run Try.prog W = .ok (.string (strOfNums bs)) W) := fun W hW => r1.text W hW
  clear hr r1 hnb HR HO
  generalize hl : toksL bs = l at *
  clear hl
  generalize zs.length = L0 at *
  generalize hL : bs.length = L at *
  clear hL
  go_enter Try.func7, Try.ntmps7
  go_wp2_with fail
  refine (awake_any _).mono ?_
  rintro _ w0 ⟨rfl, hb0⟩
  have HB0 := hid hb0
  clear hb0
  go_wp2_with fail
  refine (C1.out w0 HB0.out).mono ?_
  rintro _ w0' ⟨rfl, hw⟩
  obtain rfl := hw.symm
  clear hw C1
  go_wp2_with fail
  refine (HC.out w0 HB0.out).mono ?_
  rintro _ w1 ⟨v1, rfl, hown1, hb1⟩
  obtain ⟨a1, c1, rfl, hr1⟩ := Rt.own hown1 HFIT.out
  have hBW := bytes_word a1 c1 (l.map toZ) w1 hr1 (by have := HLN.out; simp; omega)
  unfold BytPost at hBW
  rw [HBK.out, List.length_map] at hBW
  dsimp only at hBW
  have HBW := hid hBW
  have HB1 := hid (Bn HB0.out hb1)
  clear hown1 hb1 HC hBW hr1 HFIT HBK HLN
  generalize l.length = n at *
  go_wp2_with fail
  refine HBW.out.mono ?_
  rintro _ w2 ⟨v2, rfl, hown2, hb2⟩
  obtain ⟨a2, c2, rfl, hr2⟩ := Ri.own hown2 h8
  have t2 := hr2.text w2 (Below.refl _ _)
  have HB2 := hid (Bn HB1.out hb2)
  have t1 := HTX.out w2 HB2.out
  clear hown2 hb2 HBW HB1 hr2 h8 HTX
  generalize strOfNums bs = st at *
  generalize bs.length = n2 at *
  have e3 : (st.toList == st.toList) = true := by simp
  go_wp2
  go_ret
  exact ⟨rfl, HB2.out⟩

set_option maxRecDepth 100000 in
theorem lifted (os : Os) (started : os.Started) (H : Type) (enc : TypeId × Value → H) :
    ReturnsInHanded {} Try.checked os 7 .any (Rows.lzBackSpec.pre6 enc Try.prog Try.f7 Rows.lzBackRow.domain false) (Rows.lzBackSpec.post enc Try.prog Try.f7 false true false false) := by
  refine returnsInHanded_of_change (C := Try.checked) own started (by kernel_rfl) Try.func7
    (ChangeSpec.witness6 (enc := enc) (C := Try.checked) false ⟨#[], #[.slice none 0 0], []⟩ 8 (by kernel_rfl) (by kernel_rfl) (by kernel_rfl) (by kernel_rfl)) ?_
  intro W base args ds gs before hval0 hW _ _
  have hval : ∀ (j : Nat) t v, Try.f7.params[j]? = some t → args[j]? = some v → Value.okWide Try.prog W .any base t v := hval0
  have hW' := hW
  obtain ⟨p, q, hA0, hV, rfl, _, _⟩ := hW
  have hA : DataW.TrodAll enc Try.prog W 0 (fun _ => true) true Try.f7.params.toList args.toList ds p := hA0
  rw [Try.params7] at hA hval
  obtain ⟨v0, vs0, d0, ds0, p0, q0, hargs, rfl, rfl, h0, r0⟩ := trodAll_cons hA
  obtain ⟨rfl, rfl, rfl⟩ := trodAll_nil r0
  obtain rfl : args = #[v0] := by cases args; simp_all
  obtain ⟨rfl, rfl⟩ := trodVars_none hV
  clear hA0
  simp only [List.append_nil] at hW'
  have hlt0 : ∀ x ∈ p0, x.block < W.heap.size := fun x hx => hW'.lt x (by simp [hx])
  have hk0 := h0
  obtain ⟨a0, cap0, zs0, rfl, hr0⟩ := open_ri Try.underlying33 Try.underlying5 Try.cells5 (hval 0 33 v0 rfl rfl) h0 hlt0
  clear hval0
  refine (walk a0 cap0 zs0 W hr0).mono fun e W' ⟨he, hb⟩ => ?_
  subst he
  exact ⟨_, rfl, _, _, _, [] ++ [], _, [], hW', trodAll_cons_mk (shut_bool Try.underlying4 _) trodAll_mk0, (trodAll_cons_mk (Below.trod Try.laidOut (by kernel_rfl) (of_decide_eq_true (by kernel_rfl)) hk0 hb hlt0) trodAll_mk0), rfl, hb.frame _, fun h => by cases h⟩

theorem over : Rows.lzBackRow.holds Try.pinned (OpenSpec.ofChange Rows.lzBackSpec) :=
  OpenClaim.holds_of_wide 7 Try.f7 rfl rfl rfl rfl rfl rfl rfl ⟨rfl, rfl, rfl, rfl, rfl⟩ rfl rfl rfl rfl rfl (by kernel_rfl) Try.func7 (by kernel_rfl)
    (of_decide_eq_true (by kernel_rfl)) (by unfold Func.isWrapper; first | (rw [if_pos (by decide +kernel)]; kernel_rfl) | (rw [if_neg (by decide +kernel)]; exact ⟨rfl, rfl⟩))
    (fun os started H enc _ => lifted os started H enc)

end Go.Proofs.Ytgdlmhgjhmcilaa.lzBack
namespace Go.Proofs.Ytgdlmhgjhmcilaa
theorem lzBack_holds : Rows.LzBackSaid := lzBack.over
#print axioms lzBack_holds
end Go.Proofs.Ytgdlmhgjhmcilaa
