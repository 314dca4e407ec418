/-
  CrcAdds is proved for every input: Add, Of and Entry answer as the document says, whatever the sum, the rows and the byte; no condition.
-/
import Derived.Test.YtohbghniangknaaZeros
namespace Go.Proofs.Ytohbghniangknaa.crcAdds
open Go.ChangeShapes Go.WideShapes Go.ChangeAt Go.RowKit Crc

theorem own : ownKnob Try.prog.godebug = none := by kernel_rfl

set_option maxHeartbeats 800000 in
theorem walk_rd (s : Nat) (a : Option Addr) (cap : Nat) (zs : List Nat) (b : Option Addr) (cap' : Nat) (ys : List Nat) (c : Nat) (w : World) (hs : s < 2 ^ 32) (hc : c < 256) (hr : Rd w (.slice a zs.length cap) a cap zs) (hr' : Rd w (.slice b ys.length cap') b cap' ys) :
    Calls Try.prog 3 #[.int .u32 (s : Int), .slice a zs.length cap, .slice b ys.length cap', .int .u8 (c : Int)] w fun e w' => e = .returned (.bool true) ∧ Below w.heap.size w w' := by
  have C1 := hid (cut_any a cap zs w hr)
  have C2 := hid (cut_any b cap' ys w hr')
  have r1 := hr.take 8192
  have r2 := hr'.take 8192
  have A1 := hid (add_word s _ _ _ w hs r1)
  have A2 := hid (add_ref s _ _ _ w hs r1)
  have E1 := hid (fun w : World => entry_word c w hc)
  have E2 := hid (fun w : World => entry_ref c w hc)
  have O0 : Hid (∀ w : World, Calls Try.prog 12 #[.slice none 0 0] w fun e w' => e = .returned (.int .u32 0) ∧ w' = w) := by
    intro w
    have := of_word none 0 [] w ⟨Nat.le_refl _, by unfold maxLen; omega, fun h => absurd h (by simp)⟩
    rwa [show sumL [] = 0 from by decide] at this
  generalize zs.take 8192 = z1 at *
  generalize ys.take 8192 = z2 at *
  have O1 := hid (of_word _ _ _ _ (Ps.two r1 r2 _ rfl))
  have B1 := bel_alloc w (.cells #[.slice a z1.length cap, .slice b z2.length cap'] 23)
  have O2 := hid (of_ref _ _ _ _ (Ps.two (r1.later B1) (r2.later B1) (w.heap.size + 1) (by simp)))
  have B2 := hid (Bn B1 (bel_alloc _ (.cells #[.slice a z1.length cap, .slice b z2.length cap'] 23)))
  clear r1 r2 hr hr' B1
  generalize z1.length = n1 at *
  generalize z2.length = n2 at *
  generalize sumL [z1, z2] = q at *
  generalize add s z1 = q1 at *
  generalize zs.length = m1 at *
  generalize ys.length = m2 at *
  go_enter Try.func3, Try.ntmps3
  go_wp2_with fail
  go_at_call 9
  refine C1.out.mono ?_
  rintro _ w1 ⟨rfl, hw⟩
  obtain rfl := hw.symm
  clear hw
  go_wp2_with fail
  go_at_call 9
  refine C2.out.mono ?_
  rintro _ w1 ⟨rfl, hw⟩
  obtain rfl := hw.symm
  clear hw
  go_wp2_with fail
  go_at_call 10
  refine A1.out.mono ?_
  rintro _ w1 ⟨rfl, hw⟩
  obtain rfl := hw.symm
  clear hw
  go_wp2_with fail
  go_at_call 11
  refine A2.out.mono ?_
  rintro _ w1 ⟨rfl, hw⟩
  obtain rfl := hw.symm
  clear hw
  go_wp2_with fail
  go_at_call 12
  refine O1.out.mono ?_
  rintro _ w1 ⟨rfl, hw⟩
  obtain rfl := hw.symm
  clear hw
  go_wp2_with fail
  go_at_call 13
  refine O2.out.mono ?_
  rintro _ w1 ⟨rfl, hw⟩
  obtain rfl := hw.symm
  clear hw
  go_wp2_with fail
  go_at_call 12
  refine (O0.out _).mono ?_
  rintro _ w1 ⟨rfl, hw⟩
  obtain rfl := hw.symm
  clear hw
  go_wp2_with fail
  go_at_call 14
  refine (E1.out _).mono ?_
  rintro _ w1 ⟨rfl, hw⟩
  obtain rfl := hw.symm
  clear hw
  go_wp2_with fail
  go_at_call 15
  refine (E2.out _).mono ?_
  rintro _ w1 ⟨rfl, hw⟩
  obtain rfl := hw.symm
  clear hw
  go_wp2_with fail
  go_at_call 16
  refine (awake_any _).mono ?_
  rintro _ w5 ⟨rfl, hb5⟩
  go_wp2
  go_ret
  exact ⟨rfl, Bn B2.out hb5⟩

theorem walk (a0 : Int) (w0 : (Lit.int .u32 a0).wf = true) (a1 : Option Addr) (cap1 : Nat) (zs1 : List Nat) (a2 : Option Addr) (cap2 : Nat) (zs2 : List Nat) (a3 : Int) (w3 : (Lit.int .u8 a3).wf = true) (w : World) (hr1 : Rd w (.slice a1 zs1.length cap1) a1 cap1 zs1) (hr2 : Rd w (.slice a2 zs2.length cap2) a2 cap2 zs2) :
    Calls Try.prog 3 #[.int .u32 a0, .slice a1 zs1.length cap1, .slice a2 zs2.length cap2, .int .u8 a3] w fun e w' => e = .returned (.bool true) ∧ Below w.heap.size w w' := by
  obtain ⟨h0, h1⟩ := wf_u32 w0
  obtain ⟨h2, h3⟩ := wf_u8 w3
  obtain ⟨a, rfl⟩ := Int.eq_ofNat_of_zero_le h0
  obtain ⟨b, rfl⟩ := Int.eq_ofNat_of_zero_le h2
  exact walk_rd a a1 cap1 zs1 a2 cap2 zs2 b w (by omega) (by omega) hr1 hr2

set_option maxRecDepth 100000 in
theorem lifted (os : Os) (started : os.Started) (H : Type) (enc : TypeId × Value → H) :
    ReturnsInHanded {} Try.checked os 3 .any (Rows.crcAddsSpec.pre6 enc Try.prog Try.f3 Rows.crcAddsRow.domain false) (Rows.crcAddsSpec.post enc Try.prog Try.f3 false true false false) := by
  refine returnsInHanded_of_change (C := Try.checked) own started (by kernel_rfl) Try.func3
    (ChangeSpec.witness6 (enc := enc) (C := Try.checked) false ⟨#[], #[.int .u32 0, .slice none 0 0, .slice none 0 0, .int .u8 0], []⟩ 8 (by kernel_rfl) (by kernel_rfl) (by kernel_rfl) (by kernel_rfl)) ?_
  intro W base args ds gs before hval0 hW _ _
  have hval : ∀ (j : Nat) t v, Try.f3.params[j]? = some t → args[j]? = some v → Value.okWide Try.prog W .any base t v := hval0
  have hW' := hW
  obtain ⟨p, q, hA0, hV, rfl, _, _⟩ := hW
  have hA : DataW.TrodAll enc Try.prog W 0 (fun _ => true) true Try.f3.params.toList args.toList ds p := hA0
  rw [Try.params3] at hA hval
  obtain ⟨v0, vs0, d0, ds0, p0, q0, hargs, rfl, rfl, h0, r0⟩ := trodAll_cons hA
  obtain ⟨v1, vs1, d1, ds1, p1, q1, rfl, rfl, rfl, h1, r1⟩ := trodAll_cons r0
  obtain ⟨v2, vs2, d2, ds2, p2, q2, rfl, rfl, rfl, h2, r2⟩ := trodAll_cons r1
  obtain ⟨v3, vs3, d3, ds3, p3, q3, rfl, rfl, rfl, h3, r3⟩ := trodAll_cons r2
  obtain ⟨rfl, rfl, rfl⟩ := trodAll_nil r3
  obtain rfl : args = #[v0, v1, v2, v3] := by cases args; simp_all
  obtain ⟨rfl, rfl⟩ := trodVars_none hV
  obtain ⟨a0, rfl, rfl, rfl, w0⟩ := open_int Try.underlying22 (hval 0 22 v0 rfl rfl) h0
  obtain ⟨a3, rfl, rfl, rfl, w3⟩ := open_int Try.underlying5 (hval 3 5 v3 rfl rfl) h3
  clear hA0
  simp only [List.append_nil, List.nil_append] at hW'
  have hlt1 : ∀ x ∈ p1, x.block < W.heap.size := fun x hx => hW'.lt x (by simp [hx])
  have hk1 := h1
  obtain ⟨a1, cap1, zs1, rfl, hr1⟩ := open_rd (hval 1 23 v1 rfl rfl) h1 hlt1
  have hlt2 : ∀ x ∈ p2, x.block < W.heap.size := fun x hx => hW'.lt x (by simp [hx])
  have hk2 := h2
  obtain ⟨a2, cap2, zs2, rfl, hr2⟩ := open_rd (hval 2 23 v2 rfl rfl) h2 hlt2
  clear hval0
  refine (walk a0 w0 a1 cap1 zs1 a2 cap2 zs2 a3 w3 W hr1 hr2).mono fun e W' ⟨he, hb⟩ => ?_
  subst he
  exact ⟨_, rfl, _, _, _, [] ++ [], _, [], hW', trodAll_cons_mk (shut_bool Try.underlying4 _) trodAll_mk0, (trodAll_cons_mk (shut_int Try.underlying22 w0) (trodAll_cons_mk (Below.trod Try.laidOut (by kernel_rfl) (of_decide_eq_true (by kernel_rfl)) hk1 hb hlt1) (trodAll_cons_mk (Below.trod Try.laidOut (by kernel_rfl) (of_decide_eq_true (by kernel_rfl)) hk2 hb hlt2) (trodAll_cons_mk (shut_int Try.underlying5 w3) trodAll_mk0)))), rfl, hb.frame _, fun h => by cases h⟩

theorem over : Rows.crcAddsRow.holds Try.pinned (OpenSpec.ofChange Rows.crcAddsSpec) :=
  OpenClaim.holds_of_wide 3 Try.f3 rfl rfl rfl rfl rfl rfl rfl ⟨rfl, rfl, rfl, rfl, rfl⟩ rfl rfl rfl rfl rfl (by kernel_rfl) Try.func3 (by kernel_rfl)
    (of_decide_eq_true (by kernel_rfl)) (by unfold Func.isWrapper; first | (rw [if_pos (by decide +kernel)]; kernel_rfl) | (rw [if_neg (by decide +kernel)]; exact ⟨rfl, rfl⟩))
    (fun os started H enc _ => lifted os started H enc)

end Go.Proofs.Ytohbghniangknaa.crcAdds
namespace Go.Proofs.Ytohbghniangknaa
theorem crcAdds_holds : Rows.CrcAddsSaid := crcAdds.over
#print axioms crcAdds_holds
end Go.Proofs.Ytohbghniangknaa
