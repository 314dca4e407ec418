/-
  HuffLengths is proved for every input: Lengths answers as the document says, whatever the counts; no condition.
-/
import Derived.Test.YtgecoiakhmnilaaLenR
import Derived.Test.YtgecoiakhmnilaaAlive
namespace Go.Proofs.Ytgecoiakhmnilaa.huffLengths
open Go.ChangeShapes Go.WideShapes Go.ChangeAt Go.RowKit Hf

theorem own : ownKnob Try.prog.godebug = none := by kernel_rfl

theorem lenr_any (a : Option Addr) (cap : Nat) (cs : List Int) (w : World) (hr : Ri w .i64 a cap cs) (h60 : cs.length ≤ 60) : Calls Try.prog 11 #[.slice a cs.length cap] w (LenPost cs w) := by
  cases hc : areC cs with
  | false =>
    refine (lenr_no a cap cs w hr hc).mono ?_
    rintro e w' ⟨he, rfl⟩
    exact Or.inl ⟨hc, he, Below.refl _ _⟩
  | true =>
    refine (lenr_yes a cap cs w hr hc h60).mono ?_
    rintro e w' ⟨k, a2, c2, h⟩
    exact Or.inr ⟨hc, k, a2, c2, h⟩
theorem same_k {cs : List Int} {k l : Nat} (h1 : ∀ j, j < k → (depthsL (flats cs j)).any deepC = true) (h2 : (depthsL (flats cs k)).any deepC = false) (h3 : ∀ j, j < l → (depthsL (flats cs j)).any deepC = true) (h4 : (depthsL (flats cs l)).any deepC = false) : k = l := by
  by_cases c1 : k < l
  · have := h3 k c1; rw [h2] at this; exact Bool.noConfusion this
  · by_cases c2 : l < k
    · have := h1 l c2; rw [h4] at this; exact Bool.noConfusion this
    · omega

set_option maxHeartbeats 3200000 in
set_option maxRecDepth 100000 in
theorem walk_rd (a : Option Addr) (cap : Nat) (zs : List Int) (w : World) (hr : Ri w .i64 a cap zs) :
    Calls Try.prog 3 #[.slice a zs.length cap] w fun e w' => e = .returned (.bool true) ∧ Below w.heap.size w w' := by
  have C1 := hid (few_any a cap zs w hr)
  have r1 := hr.take 60
  have hl1 : (zs.take 60).length ≤ 60 := List.length_take_le _ _
  generalize zs.take 60 = z1 at *
  have E1 := hid (lengths_any a cap z1 w r1 hl1)
  have E2 : Hid (∀ W, Below w.heap.size w W → Calls Try.prog 11 #[.slice a z1.length cap] W (LenPost z1 W)) := fun W hW => lenr_any a cap z1 W (r1.later hW) hl1
  have HDL : Hid (∀ k, (depthsL (flats z1 k)).length = z1.length) := fun k => by rw [dep_long, flats_length]
  clear r1 hr
  obtain ⟨n1, hn1⟩ : ∃ n, n = z1.length := ⟨_, rfl⟩
  have HN1 := hid hn1
  rw [← hn1] at C1 E1 E2 HDL hl1
  clear hn1
  generalize zs.length = m1 at *
  go_enter Try.func3, Try.ntmps3
  go_wp2_with fail
  go_at_call 9
  refine C1.out.mono ?_
  rintro _ w1 ⟨rfl, hw⟩
  obtain rfl := hw.symm
  clear hw
  go_wp2_with fail
  go_at_call 10
  refine E1.out.mono ?_
  rintro _ w1 (⟨hc, rfl, hb1⟩ | ⟨hc, k, a2, c2, rfl, hk1, hk2, hr2, hb1⟩)
  · have HE2 := hid (E2.out w1 hb1)
    have HB1 := hid hb1
    have HC := hid hc
    clear hb1 hc E1 E2 C1
    go_wp2_with fail
    go_at_call 11
    refine HE2.out.mono ?_
    rintro _ w2 (⟨_, rfl, hb2⟩ | ⟨hc2, _⟩)
    · have HB2 := hid (Bn HB1.out hb2)
      have HS : Hid (Calls Try.prog 12 #[.slice none 0 0, .slice none 0 0] w2 fun e w' => e = .returned (.bool true) ∧ Below w2.heap.size w2 w') := same_any none 0 [] none 0 [] w2 (ri_nil w2 0 (Nat.zero_le _)) (ri_nil w2 0 (Nat.zero_le _))
      clear hb2 HE2 HB1
      go_wp2_with fail
      go_at_call 12
      refine HS.out.mono ?_
      rintro _ w3 ⟨rfl, hb3⟩
      have HB3 := hid (Bn HB2.out hb3)
      clear hb3 HS HB2
      go_wp2_with fail
      go_at_call 13
      refine (alive_any _).mono ?_
      rintro _ w4 ⟨rfl, hb4⟩
      have HB4 := hid (Bn HB3.out hb4)
      clear hb4
      go_wp2
      go_ret
      exact ⟨rfl, HB4.out⟩
    · rw [HC.out] at hc2
      exact Bool.noConfusion hc2
  · have HE2 := hid (E2.out w1 hb1)
    have HB1 := hid hb1
    have HC := hid hc
    have HK1 := hid hk1
    have HK2 := hid hk2
    have HR2 := hid hr2
    clear hb1 hc hk1 hk2 hr2 E1 E2 C1
    rw [← HN1.out]
    go_wp2_with fail
    go_at_call 11
    refine HE2.out.mono ?_
    rintro _ w2 (⟨hc2, _⟩ | ⟨_, l, a3, c3, rfl, hl1, hl2, hr3, hb2⟩)
    · rw [HC.out] at hc2
      exact Bool.noConfusion hc2
    · have e := same_k HK1.out HK2.out hl1 hl2
      subst e
      have HB2 := hid (Bn HB1.out hb2)
      have HS : Hid (Calls Try.prog 12 #[.slice a2 n1 c2, .slice a3 n1 c3] w2 fun e w' => e = .returned (.bool true) ∧ Below w2.heap.size w2 w') := by
        have h := same_any a2 c2 (depthsL (flats z1 k)) a3 c3 (depthsL (flats z1 k)) w2 (HR2.out.later hb2) hr3
        rw [HDL.out k, show (depthsL (flats z1 k) == depthsL (flats z1 k)) = true from by simp] at h
        exact h
      clear hl1 hl2 hr3 hb2 HE2 HB1 HR2 HK1 HK2
      rw [← HN1.out]
      go_wp2_with fail
      go_at_call 12
      refine HS.out.mono ?_
      rintro _ w3 ⟨rfl, hb3⟩
      have HB3 := hid (Bn HB2.out hb3)
      clear hb3 HS HB2
      go_wp2_with fail
      go_at_call 13
      refine (alive_any _).mono ?_
      rintro _ w4 ⟨rfl, hb4⟩
      have HB4 := hid (Bn HB3.out hb4)
      clear hb4
      go_wp2
      go_ret
      exact ⟨rfl, HB4.out⟩

set_option maxRecDepth 100000 in
theorem lifted (os : Os) (started : os.Started) (H : Type) (enc : TypeId × Value → H) :
    ReturnsInHanded {} Try.checked os 3 .any (Rows.huffLengthsSpec.pre6 enc Try.prog Try.f3 Rows.huffLengthsRow.domain false) (Rows.huffLengthsSpec.post enc Try.prog Try.f3 false true false false) := by
  refine returnsInHanded_of_change (C := Try.checked) own started (by kernel_rfl) Try.func3
    (ChangeSpec.witness6 (enc := enc) (C := Try.checked) false ⟨#[], #[.slice none 0 0], []⟩ 8 (by kernel_rfl) (by kernel_rfl) (by kernel_rfl) (by kernel_rfl)) ?_
  intro W base args ds gs before hval0 hW _ _
  have hval : ∀ (j : Nat) t v, Try.f3.params[j]? = some t → args[j]? = some v → Value.okWide Try.prog W .any base t v := hval0
  have hW' := hW
  obtain ⟨p, q, hA0, hV, rfl, _, _⟩ := hW
  have hA : DataW.TrodAll enc Try.prog W 0 (fun _ => true) true Try.f3.params.toList args.toList ds p := hA0
  rw [Try.params3] at hA hval
  obtain ⟨v0, vs0, d0, ds0, p0, q0, hargs, rfl, rfl, h0, r0⟩ := trodAll_cons hA
  obtain ⟨rfl, rfl, rfl⟩ := trodAll_nil r0
  obtain rfl : args = #[v0] := by cases args; simp_all
  obtain ⟨rfl, rfl⟩ := trodVars_none hV
  clear hA0
  simp only [List.append_nil] at hW'
  have hlt0 : ∀ x ∈ p0, x.block < W.heap.size := fun x hx => hW'.lt x (by simp [hx])
  have hk0 := h0
  obtain ⟨a0, cap0, zs0, rfl, hr0⟩ := open_ri Try.underlying22 Try.underlying3 Try.cells3 (hval 0 22 v0 rfl rfl) h0 hlt0
  clear hval0
  refine (walk_rd a0 cap0 zs0 W hr0).mono fun e W' ⟨he, hb⟩ => ?_
  subst he
  exact ⟨_, rfl, _, _, _, [] ++ [], _, [], hW', trodAll_cons_mk (shut_bool Try.underlying4 _) trodAll_mk0, (trodAll_cons_mk (Below.trod Try.laidOut (by kernel_rfl) (of_decide_eq_true (by kernel_rfl)) hk0 hb hlt0) trodAll_mk0), rfl, hb.frame _, fun h => by cases h⟩

theorem over : Rows.huffLengthsRow.holds Try.pinned (OpenSpec.ofChange Rows.huffLengthsSpec) :=
  OpenClaim.holds_of_wide 3 Try.f3 rfl rfl rfl rfl rfl rfl rfl ⟨rfl, rfl, rfl, rfl, rfl⟩ rfl rfl rfl rfl rfl (by kernel_rfl) Try.func3 (by kernel_rfl)
    (of_decide_eq_true (by kernel_rfl)) (by unfold Func.isWrapper; first | (rw [if_pos (by decide +kernel)]; kernel_rfl) | (rw [if_neg (by decide +kernel)]; exact ⟨rfl, rfl⟩))
    (fun os started H enc _ => lifted os started H enc)

end Go.Proofs.Ytgecoiakhmnilaa.huffLengths
namespace Go.Proofs.Ytgecoiakhmnilaa
theorem huffLengths_holds : Rows.HuffLengthsSaid := huffLengths.over
#print axioms huffLengths_holds
end Go.Proofs.Ytgecoiakhmnilaa
