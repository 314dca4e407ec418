/-
  The contract of huff.Lengths at any counts of at most 60 symbols, nil among them.
-/
import Derived.Test.YtgecoiakhmnilaaHalve
namespace Go.Proofs.Ytgecoiakhmnilaa
open Go.RowKit Hf

theorem clone_nil (cap : Nat) (w : World) : Calls Try.prog 26 #[.slice none 0 cap] w fun e w' => (∃ c, e = .returned (.slice none 0 c) ∧ c ≤ cap) ∧ w' = w := by
  have q22 : ∀ (w : World) (a : Option Addr) (n c n' c' : Nat), (binOp .eql 22 (.slice a n c) (.slice none n' c')).run Try.prog w = .ok (.bool a.isNone) w := fun w a n c n' c' => Lib.run_eql_slice_nil w _ _ a n c n' c' Try.underlying22
  go_enter Try.func26, Try.ntmps26
  go_wp2
  go_ret
  exact ⟨⟨_, rfl, by omega⟩, rfl⟩

theorem ri_nil (W : World) (c : Nat) (h : c ≤ maxLen) : Ri W .i64 none c [] := ⟨Nat.zero_le _, h, fun h => absurd h (by simp), fun j => by simp; exact wf_zero .i64⟩
theorem dep_nil : depthsL [] = [] := by decide

set_option maxHeartbeats 800000 in
theorem lengths_nil (cap : Nat) (w : World) (hm : cap ≤ maxLen) :
    Calls Try.prog 10 #[.slice none 0 cap] w fun e w' => ∃ a2 c2, e = .returned (.tuple #[.slice a2 0 c2, .int .i64 0]) ∧ c2 ≤ maxLen ∧ Below w.heap.size w w' := by
  have HA := hid (are_word none cap [] w (ri_nil w cap hm))
  rw [show areC [] = true from by decide] at HA
  have HC := hid (clone_nil cap w)
  have HD : Hid (∀ c, c ≤ maxLen → Calls Try.prog 27 #[.slice none 0 c] w fun e w' => ∃ v, e = .returned v ∧ w'.ownsRow w.heap.size 3 1 v 0 [] ∧ Below w.heap.size w w') := fun c hcm => by
    have h := depths_word none c [] w (ri_nil w c hcm) (by simp) (fun k => by simp) (by unfold mostS; simp [nz])
    rw [dep_nil] at h
    exact h
  have HX : Hid (∀ W c a2, Ri W .i64 a2 c [] → Calls Try.prog 28 #[.slice a2 0 c, .func (.func 29) #[] #[]] W fun e w' => e = .returned (.bool false) ∧ w' = W) := fun W c a2 h2 => contains_29 a2 c [] W h2
  have HM := hid hm
  clear hm
  go_enter Try.func10, Try.ntmps10
  go_wp2_with fail
  refine HA.out.mono ?_
  rintro _ w1 ⟨rfl, hw⟩
  obtain rfl := hw.symm
  clear hw
  go_wp2_with fail
  refine HC.out.mono ?_
  rintro _ w1 ⟨⟨c1, rfl, hc1⟩, hw⟩
  obtain rfl := hw.symm
  have HD1 := hid (HD.out c1 (Nat.le_trans hc1 HM.out))
  clear hw hc1 HD HA HC
  go_wp2_with fail
  refine HD1.out.mono ?_
  rintro _ w2 ⟨v2, rfl, ho2, hb2⟩
  obtain ⟨a2, c2, rfl, hr2⟩ := Ri.own (zs := []) (kd := .i64) ho2 (fun j => by simp; exact wf_zero .i64)
  have HX2 := hid (HX.out w2 c2 a2 hr2)
  have HB2 := hid hb2
  have HC2 := hid hr2.most
  clear ho2 hb2 hr2 HD1 HX
  go_wp2
  refine wp_loop_rounds 1 ?_
  rw [rounds_succ]
  go_wp2_with fail
  refine HX2.out.mono ?_
  rintro _ w3 ⟨rfl, hw⟩
  obtain rfl := hw.symm
  clear hw
  go_wp2
  go_ret2
  exact ⟨_, _, rfl, HC2.out, HB2.out⟩

/-- What huff.Lengths leaves. -/
def LenPost (cs : List Int) (w : World) (e : Ending) (w' : World) : Prop :=
  (areC cs = false ∧ e = .returned (.tuple #[.slice none 0 0, .int .i64 50]) ∧ Below w.heap.size w w') ∨
  (areC cs = true ∧ ∃ k a2 c2, e = .returned (.tuple #[.slice a2 cs.length c2, .int .i64 0]) ∧ (∀ j, j < k → (depthsL (flats cs j)).any deepC = true) ∧ (depthsL (flats cs k)).any deepC = false ∧ Ri w' .i64 a2 c2 (depthsL (flats cs k)) ∧ Below w.heap.size w w')

theorem lengths_any (a : Option Addr) (cap : Nat) (cs : List Int) (w : World) (hr : Ri w .i64 a cap cs) (h60 : cs.length ≤ 60) :
    Calls Try.prog 10 #[.slice a cs.length cap] w (LenPost cs w) := by
  cases hc : areC cs with
  | false =>
    refine (lengths_no a cap cs w hr hc).mono ?_
    rintro e w' ⟨he, rfl⟩
    exact Or.inl ⟨hc, he, Below.refl _ _⟩
  | true =>
    have hcr := areC_rng hc
    by_cases h0 : 0 < cs.length
    · obtain ⟨b, off, rfl, _, _⟩ := hr.cells h0
      refine (lengths_all _ cap cs w hr hc h60 h0).mono ?_
      rintro e w' ⟨v, k, he, h1, h2, ho, hb⟩
      have hdl : (depthsL (flats cs k)).length = cs.length := by rw [dep_long, flats_length]
      rw [← hdl] at ho
      obtain ⟨a2, c2, rfl, hr2⟩ := Ri.own ho (fun j => by have := dep_top (flats cs k) (by rw [flats_length]; omega) (flats_rng hcr.2 k) j; exact wf_mk_i64 (by omega) (by omega))
      rw [hdl] at he
      exact Or.inr ⟨hc, k, a2, c2, he, h1, h2, hr2, hb⟩
    · have hnil : cs = [] := List.length_eq_zero_iff.1 (by omega)
      subst hnil
      have hd0 : (depthsL ([] : List Int)).any deepC = false := by rw [dep_nil]; rfl
      cases a with
      | none =>
        refine (lengths_nil cap w hr.most).mono ?_
        rintro e w' ⟨a2, c2, he, hm2, hb⟩
        refine Or.inr ⟨hc, 0, a2, c2, he, fun j hj => by omega, hd0, ?_, hb⟩
        show Ri w' .i64 a2 c2 (depthsL [])
        rw [dep_nil]
        exact ⟨Nat.zero_le _, hm2, fun h => absurd h (by simp), fun j => by simp; exact wf_zero .i64⟩
      | some ad =>
        refine (lengths_flat ad cap [] w hr hc (by unfold mostS; simp [nz]) hd0 (fun j => by rw [dep_nil]; simp; exact wf_zero .i64)).mono ?_
        rintro e w' ⟨v, he, ho, hb⟩
        obtain ⟨a2, c2, rfl, hr2⟩ := Ri.own ho (fun j => by rw [dep_nil]; simp; exact wf_zero .i64)
        exact Or.inr ⟨hc, 0, a2, c2, he, fun j hj => by omega, hd0, hr2, hb⟩
end Go.Proofs.Ytgecoiakhmnilaa
