/-
  CrcZeros is proved for every input: Zeros and Cat answer as the document says, whatever the sums and the count; no condition.
-/
import Derived.Test.YtohbghniangknaaZeros
namespace Go.Proofs.Ytohbghniangknaa.crcZeros
open Go.ChangeShapes Go.WideShapes Go.ChangeAt Go.RowKit Crc

theorem own : ownKnob Try.prog.godebug = none := by kernel_rfl

theorem zerosF_tuple (s : Nat) (n : Int) : ∃ x e, zerosF s n = .tuple #[.int .u32 x, .int .i64 e] := by
  unfold zerosF
  split
  · exact ⟨_, _, rfl⟩
  · exact ⟨_, _, rfl⟩
theorem catF_tuple (a b : Nat) (n : Int) : ∃ x e, catF a b n = .tuple #[.int .u32 x, .int .i64 e] := by
  unfold catF
  split
  · exact ⟨_, _, rfl⟩
  · exact ⟨_, _, rfl⟩

set_option maxHeartbeats 800000 in
theorem walk_nat (a b : Nat) (n : Int) (w : World) (ha : a < 2 ^ 32) (hb : b < 2 ^ 32) :
    Calls Try.prog 4 #[.int .u32 (a : Int), .int .u32 (b : Int), .int .i64 n] w fun e w' => e = .returned (.bool true) ∧ Below w.heap.size w w' := by
  by_cases h1 : 8192 < n
  · by_cases h2 : n ≤ 65536
    · have H1 := hid (fun w : World => zeros_word a 8192 w ha)
      have H2 := hid (fun w : World => zeros_ref a 8192 w ha)
      have H3 := hid (fun w : World => cat_word a b 8192 w ha hb)
      have H4 := hid (fun w : World => cat_ref a b 8192 w ha hb)
      obtain ⟨x, e, hx⟩ := zerosF_tuple a 8192
      obtain ⟨y, f, hy⟩ := catF_tuple a b 8192
      rw [hx] at H1 H2
      rw [hy] at H3 H4
      clear hx hy
      go_enter Try.func4, Try.ntmps4
      go_wp2_with fail
      go_at_call 17
      refine (H1.out _).mono ?_
      rintro _ w1 ⟨rfl, m1, rfl⟩
      go_wp2_with fail
      go_at_call 18
      refine (H2.out _).mono ?_
      rintro _ w2 ⟨rfl, hb2⟩
      go_wp2_with fail
      go_at_call 19
      refine (H3.out _).mono ?_
      rintro _ w3 ⟨rfl, m3, rfl⟩
      go_wp2_with fail
      go_at_call 20
      refine (H4.out _).mono ?_
      rintro _ w4 ⟨rfl, hw⟩
      obtain rfl := hw.symm
      clear hw
      go_wp2_with fail
      go_at_call 16
      refine (awake_any _).mono ?_
      rintro _ w5 ⟨rfl, hb5⟩
      go_wp2
      go_ret
      exact ⟨rfl, Bn (bel_drewN (Bn (bel_drewN (Below.refl _ _) m1) hb2) m3) hb5⟩
    · have H1 := hid (fun w : World => zeros_word a n w ha)
      have H2 := hid (fun w : World => zeros_ref a n w ha)
      have H3 := hid (fun w : World => cat_word a b n w ha hb)
      have H4 := hid (fun w : World => cat_ref a b n w ha hb)
      obtain ⟨x, e, hx⟩ := zerosF_tuple a n
      obtain ⟨y, f, hy⟩ := catF_tuple a b n
      rw [hx] at H1 H2
      rw [hy] at H3 H4
      clear hx hy
      go_enter Try.func4, Try.ntmps4
      go_wp2_with fail
      go_at_call 17
      refine (H1.out _).mono ?_
      rintro _ w1 ⟨rfl, m1, rfl⟩
      go_wp2_with fail
      go_at_call 18
      refine (H2.out _).mono ?_
      rintro _ w2 ⟨rfl, hb2⟩
      go_wp2_with fail
      go_at_call 19
      refine (H3.out _).mono ?_
      rintro _ w3 ⟨rfl, m3, rfl⟩
      go_wp2_with fail
      go_at_call 20
      refine (H4.out _).mono ?_
      rintro _ w4 ⟨rfl, hw⟩
      obtain rfl := hw.symm
      clear hw
      go_wp2_with fail
      go_at_call 16
      refine (awake_any _).mono ?_
      rintro _ w5 ⟨rfl, hb5⟩
      go_wp2
      go_ret
      exact ⟨rfl, Bn (bel_drewN (Bn (bel_drewN (Below.refl _ _) m1) hb2) m3) hb5⟩
  · have H1 := hid (fun w : World => zeros_word a n w ha)
    have H2 := hid (fun w : World => zeros_ref a n w ha)
    have H3 := hid (fun w : World => cat_word a b n w ha hb)
    have H4 := hid (fun w : World => cat_ref a b n w ha hb)
    obtain ⟨x, e, hx⟩ := zerosF_tuple a n
    obtain ⟨y, f, hy⟩ := catF_tuple a b n
    rw [hx] at H1 H2
    rw [hy] at H3 H4
    clear hx hy
    go_enter Try.func4, Try.ntmps4
    go_wp2_with fail
    go_at_call 17
    refine (H1.out _).mono ?_
    rintro _ w1 ⟨rfl, m1, rfl⟩
    go_wp2_with fail
    go_at_call 18
    refine (H2.out _).mono ?_
    rintro _ w2 ⟨rfl, hb2⟩
    go_wp2_with fail
    go_at_call 19
    refine (H3.out _).mono ?_
    rintro _ w3 ⟨rfl, m3, rfl⟩
    go_wp2_with fail
    go_at_call 20
    refine (H4.out _).mono ?_
    rintro _ w4 ⟨rfl, hw⟩
    obtain rfl := hw.symm
    clear hw
    go_wp2_with fail
    go_at_call 16
    refine (awake_any _).mono ?_
    rintro _ w5 ⟨rfl, hb5⟩
    go_wp2
    go_ret
    exact ⟨rfl, Bn (bel_drewN (Bn (bel_drewN (Below.refl _ _) m1) hb2) m3) hb5⟩

theorem walk (a0 : Int) (a1 : Int) (a2 : Int) (w0 : (Lit.int .u32 a0).wf = true) (w1 : (Lit.int .u32 a1).wf = true) (_w2 : (Lit.int .i64 a2).wf = true) (w : World) :
    Calls Try.prog 4 #[.int .u32 a0, .int .u32 a1, .int .i64 a2] w fun e w' => e = .returned (.bool true) ∧ Below w.heap.size w w' := by
  obtain ⟨h0, h1⟩ := wf_u32 w0
  obtain ⟨h2, h3⟩ := wf_u32 w1
  obtain ⟨a, rfl⟩ := Int.eq_ofNat_of_zero_le h0
  obtain ⟨b, rfl⟩ := Int.eq_ofNat_of_zero_le h2
  exact walk_nat a b a2 w (by omega) (by omega)

set_option maxRecDepth 100000 in
theorem lifted (os : Os) (started : os.Started) (H : Type) (enc : TypeId × Value → H) :
    ReturnsInHanded {} Try.checked os 4 .any (Rows.crcZerosSpec.pre6 enc Try.prog Try.f4 Rows.crcZerosRow.domain false) (Rows.crcZerosSpec.post enc Try.prog Try.f4 false true false false) := by
  refine returnsInHanded_of_change (C := Try.checked) own started (by kernel_rfl) Try.func4
    (ChangeSpec.witness6 (enc := enc) (C := Try.checked) false ⟨#[], #[.int .u32 0, .int .u32 0, .int .i64 0], []⟩ 8 (by kernel_rfl) (by kernel_rfl) (by kernel_rfl) (by kernel_rfl)) ?_
  intro W base args ds gs before hval0 hW _ _
  have hval : ∀ (j : Nat) t v, Try.f4.params[j]? = some t → args[j]? = some v → Value.okWide Try.prog W .any base t v := hval0
  have hW' := hW
  obtain ⟨p, q, hA0, hV, rfl, _, _⟩ := hW
  have hA : DataW.TrodAll enc Try.prog W 0 (fun _ => true) true Try.f4.params.toList args.toList ds p := hA0
  rw [Try.params4] at hA hval
  obtain ⟨v0, vs0, d0, ds0, p0, q0, hargs, rfl, rfl, h0, r0⟩ := trodAll_cons hA
  obtain ⟨v1, vs1, d1, ds1, p1, q1, rfl, rfl, rfl, h1, r1⟩ := trodAll_cons r0
  obtain ⟨v2, vs2, d2, ds2, p2, q2, rfl, rfl, rfl, h2, r2⟩ := trodAll_cons r1
  obtain ⟨rfl, rfl, rfl⟩ := trodAll_nil r2
  obtain rfl : args = #[v0, v1, v2] := by cases args; simp_all
  obtain ⟨rfl, rfl⟩ := trodVars_none hV
  obtain ⟨a0, rfl, rfl, rfl, w0⟩ := open_int Try.underlying22 (hval 0 22 v0 rfl rfl) h0
  obtain ⟨a1, rfl, rfl, rfl, w1⟩ := open_int Try.underlying22 (hval 1 22 v1 rfl rfl) h1
  obtain ⟨a2, rfl, rfl, rfl, w2⟩ := open_int Try.underlying3 (hval 2 3 v2 rfl rfl) h2
  clear hA0 hval0
  simp only [List.append_nil] at hW'
  refine (walk a0 a1 a2 w0 w1 w2 W).mono fun e W' ⟨he, hb⟩ => ?_
  subst he
  exact ⟨_, rfl, _, _, _, [] ++ [], _, [], hW', trodAll_cons_mk (shut_bool Try.underlying4 _) trodAll_mk0, (trodAll_cons_mk (shut_int Try.underlying22 w0) (trodAll_cons_mk (shut_int Try.underlying22 w1) (trodAll_cons_mk (shut_int Try.underlying3 w2) trodAll_mk0))), rfl, hb.frame _, fun h => by cases h⟩

theorem over : Rows.crcZerosRow.holds Try.pinned (OpenSpec.ofChange Rows.crcZerosSpec) :=
  OpenClaim.holds_of_wide 4 Try.f4 rfl rfl rfl rfl rfl rfl rfl ⟨rfl, rfl, rfl, rfl, rfl⟩ rfl rfl rfl rfl rfl (by kernel_rfl) Try.func4 (by kernel_rfl)
    (of_decide_eq_true (by kernel_rfl)) (by unfold Func.isWrapper; first | (rw [if_pos (by decide +kernel)]; kernel_rfl) | (rw [if_neg (by decide +kernel)]; exact ⟨rfl, rfl⟩))
    (fun os started H enc _ => lifted os started H enc)

end Go.Proofs.Ytohbghniangknaa.crcZeros
namespace Go.Proofs.Ytohbghniangknaa
theorem crcZeros_holds : Rows.CrcZerosSaid := crcZeros.over
#print axioms crcZeros_holds
end Go.Proofs.Ytohbghniangknaa
