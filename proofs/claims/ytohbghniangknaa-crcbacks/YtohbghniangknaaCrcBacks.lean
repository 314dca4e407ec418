/-
  CrcBacks is proved for every input: Back and Forge answer as the document says, whatever the sums and the row; no condition.
-/
import Derived.Test.YtohbghniangknaaEq
namespace Go.Proofs.Ytohbghniangknaa.crcBacks
open Go.ChangeShapes Go.WideShapes Go.ChangeAt Go.RowKit Crc

theorem own : ownKnob Try.prog.godebug = none := by kernel_rfl

set_option maxHeartbeats 800000 in
theorem walk_rd (s t : Nat) (b : Option Addr) (cap : Nat) (ys : List Nat) (w : World) (hs : s < 2 ^ 32) (ht : t < 2 ^ 32) (hr : Rd w (.slice b ys.length cap) b cap ys) :
    Calls Try.prog 5 #[.int .u32 (s : Int), .int .u32 (t : Int), .slice b ys.length cap] w fun e w' => e = .returned (.bool true) ∧ Below w.heap.size w w' := by
  have C1 := hid (cut_any b cap ys w hr)
  have r1 := hr.take 8192
  generalize ys.take 8192 = z1 at *
  have A1 := hid (back_word s _ _ _ w hs r1)
  have A2 : Hid (∀ m, Calls Try.prog 22 #[.int .u32 (s : Int), .slice b z1.length cap] (w.drewN m) fun e w' => e = .returned (.int .u32 ((back s z1 : Nat) : Int)) ∧ w' = w.drewN m) := fun m => back_ref s _ _ _ _ hs (r1.later (bel_drewN (Below.refl _ _) m))
  have F1 := hid (fun w : World => forge_word s t w hs ht)
  have F2 := hid (fun w : World => forge_ref s t w hs ht)
  rw [forge_bytes] at F1 F2
  clear r1 hr
  generalize z1.length = n1 at *
  generalize back s z1 = q at *
  generalize ys.length = m1 at *
  generalize forge s t = x at *
  generalize ((x % 256 : Nat) : Int) = c0 at *
  generalize ((x / 256 % 256 : Nat) : Int) = c1 at *
  generalize ((x / 65536 % 256 : Nat) : Int) = c2 at *
  generalize ((x / 16777216 % 256 : Nat) : Int) = c3 at *
  have eqs := eq37
  go_enter Try.func5, Try.ntmps5
  go_wp2_with fail
  go_at_call 9
  refine C1.out.mono ?_
  rintro _ w1 ⟨rfl, hw⟩
  obtain rfl := hw.symm
  clear hw
  go_wp2_with fail
  go_at_call 21
  refine A1.out.mono ?_
  rintro _ w1 ⟨rfl, m, rfl⟩
  go_wp2_with fail
  go_at_call 22
  refine (A2.out m).mono ?_
  rintro _ w1 ⟨rfl, hw⟩
  obtain rfl := hw.symm
  clear hw
  go_wp2_with fail
  go_at_call 23
  refine (F1.out _).mono ?_
  rintro _ w2 ⟨rfl, hb2⟩
  go_wp2_with fail
  go_at_call 24
  refine (F2.out _).mono ?_
  rintro _ w3 ⟨rfl, hb3⟩
  go_wp2_with fail
  go_at_call 16
  refine (awake_any _).mono ?_
  rintro _ w5 ⟨rfl, hb5⟩
  go_wp2
  go_ret
  exact ⟨rfl, Bn (Bn (Bn (bel_drewN (Below.refl _ _) m) hb2) hb3) hb5⟩

theorem walk (a0 : Int) (w0 : (Lit.int .u32 a0).wf = true) (a1 : Int) (w1 : (Lit.int .u32 a1).wf = true) (a2 : Option Addr) (cap2 : Nat) (zs2 : List Nat) (w : World) (hr2 : Rd w (.slice a2 zs2.length cap2) a2 cap2 zs2) :
    Calls Try.prog 5 #[.int .u32 a0, .int .u32 a1, .slice a2 zs2.length cap2] w fun e w' => e = .returned (.bool true) ∧ Below w.heap.size w w' := by
  obtain ⟨h0, h1⟩ := wf_u32 w0
  obtain ⟨h2, h3⟩ := wf_u32 w1
  obtain ⟨a, rfl⟩ := Int.eq_ofNat_of_zero_le h0
  obtain ⟨b, rfl⟩ := Int.eq_ofNat_of_zero_le h2
  exact walk_rd a b a2 cap2 zs2 w (by omega) (by omega) hr2

set_option maxRecDepth 100000 in
theorem lifted (os : Os) (started : os.Started) (H : Type) (enc : TypeId × Value → H) :
    ReturnsInHanded {} Try.checked os 5 .any (Rows.crcBacksSpec.pre6 enc Try.prog Try.f5 Rows.crcBacksRow.domain false) (Rows.crcBacksSpec.post enc Try.prog Try.f5 false true false false) := by
  refine returnsInHanded_of_change (C := Try.checked) own started (by kernel_rfl) Try.func5
    (ChangeSpec.witness6 (enc := enc) (C := Try.checked) false ⟨#[], #[.int .u32 0, .int .u32 0, .slice none 0 0], []⟩ 8 (by kernel_rfl) (by kernel_rfl) (by kernel_rfl) (by kernel_rfl)) ?_
  intro W base args ds gs before hval0 hW _ _
  have hval : ∀ (j : Nat) t v, Try.f5.params[j]? = some t → args[j]? = some v → Value.okWide Try.prog W .any base t v := hval0
  have hW' := hW
  obtain ⟨p, q, hA0, hV, rfl, _, _⟩ := hW
  have hA : DataW.TrodAll enc Try.prog W 0 (fun _ => true) true Try.f5.params.toList args.toList ds p := hA0
  rw [Try.params5] at hA hval
  obtain ⟨v0, vs0, d0, ds0, p0, q0, hargs, rfl, rfl, h0, r0⟩ := trodAll_cons hA
  obtain ⟨v1, vs1, d1, ds1, p1, q1, rfl, rfl, rfl, h1, r1⟩ := trodAll_cons r0
  obtain ⟨v2, vs2, d2, ds2, p2, q2, rfl, rfl, rfl, h2, r2⟩ := trodAll_cons r1
  obtain ⟨rfl, rfl, rfl⟩ := trodAll_nil r2
  obtain rfl : args = #[v0, v1, v2] := by cases args; simp_all
  obtain ⟨rfl, rfl⟩ := trodVars_none hV
  obtain ⟨a0, rfl, rfl, rfl, w0⟩ := open_int Try.underlying22 (hval 0 22 v0 rfl rfl) h0
  obtain ⟨a1, rfl, rfl, rfl, w1⟩ := open_int Try.underlying22 (hval 1 22 v1 rfl rfl) h1
  clear hA0
  simp only [List.append_nil, List.nil_append] at hW'
  have hlt2 : ∀ x ∈ p2, x.block < W.heap.size := fun x hx => hW'.lt x (by simp [hx])
  have hk2 := h2
  obtain ⟨a2, cap2, zs2, rfl, hr2⟩ := open_rd (hval 2 23 v2 rfl rfl) h2 hlt2
  clear hval0
  refine (walk a0 w0 a1 w1 a2 cap2 zs2 W hr2).mono fun e W' ⟨he, hb⟩ => ?_
  subst he
  exact ⟨_, rfl, _, _, _, [] ++ [], _, [], hW', trodAll_cons_mk (shut_bool Try.underlying4 _) trodAll_mk0, (trodAll_cons_mk (shut_int Try.underlying22 w0) (trodAll_cons_mk (shut_int Try.underlying22 w1) (trodAll_cons_mk (Below.trod Try.laidOut (by kernel_rfl) (of_decide_eq_true (by kernel_rfl)) hk2 hb hlt2) trodAll_mk0))), rfl, hb.frame _, fun h => by cases h⟩

theorem over : Rows.crcBacksRow.holds Try.pinned (OpenSpec.ofChange Rows.crcBacksSpec) :=
  OpenClaim.holds_of_wide 5 Try.f5 rfl rfl rfl rfl rfl rfl rfl ⟨rfl, rfl, rfl, rfl, rfl⟩ rfl rfl rfl rfl rfl (by kernel_rfl) Try.func5 (by kernel_rfl)
    (of_decide_eq_true (by kernel_rfl)) (by unfold Func.isWrapper; first | (rw [if_pos (by decide +kernel)]; kernel_rfl) | (rw [if_neg (by decide +kernel)]; exact ⟨rfl, rfl⟩))
    (fun os started H enc _ => lifted os started H enc)

end Go.Proofs.Ytohbghniangknaa.crcBacks
namespace Go.Proofs.Ytohbghniangknaa
theorem crcBacks_holds : Rows.CrcBacksSaid := crcBacks.over
#print axioms crcBacks_holds
end Go.Proofs.Ytohbghniangknaa
