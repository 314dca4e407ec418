/-
  HuffBest is proved for every input: no code for the same symbols costs less than the lengths of counts, where their tree is not too deep; no condition.
-/
import Derived.Test.YtgecoiakhmnilabPart17
import Derived.Test.YtgecoiakhmnilabPart21
namespace Go.Proofs.Ytgecoiakhmnilab.huffBest
open Go.ChangeShapes Go.WideShapes Go.ChangeAt Go.RowKit Hf

theorem own : ownKnob Try.prog.godebug = none := by kernel_rfl

theorem best_pair (cs zs : List Int) (hc : areC cs = true) : (¬ (costV zs cs).2 = 0) ∨ ((costV zs cs).2 = 0 ∧ costS (depthsL cs) cs cs.length ≤ (costV zs cs).1) := by
  cases h1 : checkB zs with
  | false => left; rw [costV_51 h1]; decide
  | true =>
    by_cases h2 : cs.length = zs.length
    · cases h3 : noCode zs cs with
      | true => left; rw [costV_go h1 hc h2, h3, if_pos rfl]; show ¬ (53 : Int) = 0; decide
      | false =>
        right
        rw [costV_go h1 hc h2, h3]
        exact ⟨rfl, best_cost cs zs (areC_rng hc).2 h1 h2 h3⟩
    · left; rw [costV_50 h1 (Or.inr h2)]; decide

set_option maxHeartbeats 3200000 in
set_option maxRecDepth 100000 in
theorem walk_rd (a : Option Addr) (cap : Nat) (zs : List Int) (b : Option Addr) (cap2 : Nat) (ys : List Int) (w : World) (hr : Ri w .i64 a cap zs) (hr2 : Ri w .i64 b cap2 ys) :
    Calls Try.prog 3 #[.slice a zs.length cap, .slice b ys.length cap2] w fun e w' => e = .returned (.bool true) ∧ Below w.heap.size w w' := by
  have C1 := hid (few_any a cap zs w hr)
  have r1 := hr.take 60
  have hl1 : (zs.take 60).length ≤ 60 := List.length_take_le _ _
  generalize zs.take 60 = z1 at *
  have E0 := hid (counted_ref a cap z1 w r1)
  have E1 : Hid (areC z1 = true → Calls Try.prog 8 #[.slice a z1.length cap] w fun e w' => ∃ a2 c2, e = .returned (.slice a2 z1.length c2) ∧ Ri w' .i64 a2 c2 (depthsL z1) ∧ Below w.heap.size w w') := fun hc => by
    have hcr := areC_rng hc
    refine (depths_ref a cap z1 w r1 hcr.1 hcr.2).mono ?_
    rintro e w' ⟨v, rfl, ho, hb⟩
    rw [doc_eq z1 hcr.2, ← dep_long z1] at ho
    obtain ⟨a2, c2, rfl, h2⟩ := Ri.own ho (fun j => by have := dep_top z1 (by omega) hcr.2 j; exact wf_mk_i64 (by omega) (by omega))
    exact ⟨a2, c2, by rw [dep_long], h2, hb⟩
  have E2 : Hid (∀ W, Below w.heap.size w W → Calls Try.prog 10 #[.slice a z1.length cap] W (LenPost z1 W)) := fun W hW => lengths_any a cap z1 W (r1.later hW) hl1
  have HR1 := hid r1
  have HR2 := hid hr2
  have HP := hid (best_pair z1 ys)
  have HDL := hid (dep_long z1)
  have HDC := hid (dep_costV z1)
  clear r1 hr hr2
  obtain ⟨n1, hn1⟩ : ∃ n, n = z1.length := ⟨_, rfl⟩
  have HN1 := hid hn1
  rw [← hn1] at C1 E0 E1 E2 HDL hl1 HP HDC
  clear hn1
  generalize zs.length = m1 at *
  obtain ⟨n2, hn2⟩ : ∃ n, n = ys.length := ⟨_, rfl⟩
  have HN2 := hid hn2
  rw [← hn2]
  clear hn2
  go_enter Try.func3, Try.ntmps3
  go_wp2_with fail
  go_at_call 5
  refine C1.out.mono ?_
  rintro _ w1 ⟨rfl, hw⟩
  obtain rfl := hw.symm
  clear hw
  cases hc : areC z1 with
  | false =>
    rw [hc] at E0
    clear E1 E2 HP
    go_wp2_with fail
    go_at_call 6
    refine E0.out.mono ?_
    rintro _ w1 ⟨rfl, hw⟩
    obtain rfl := hw.symm
    clear hw
    go_wp2_with fail
    go_at_call 9
    refine (alive_any _).mono ?_
    rintro _ w3 ⟨rfl, hb3⟩
    have HB3 := hid hb3
    clear hb3
    go_wp2
    go_ret
    exact ⟨rfl, HB3.out⟩
  | true =>
    rw [hc] at E0
    have E3 := hid (E1.out hc)
    have HP2 := hid (HP.out hc)
    have HDC2 := hid (HDC.out hc)
    have HC := hid hc
    clear E1 HP HDC hc
    go_wp2_with fail
    go_at_call 6
    refine E0.out.mono ?_
    rintro _ w1 ⟨rfl, hw⟩
    obtain rfl := hw.symm
    clear hw E0
    go_wp2_with fail
    go_at_call 8
    refine E3.out.mono ?_
    rintro _ w2 ⟨a2, c2, rfl, hr3, hb2⟩
    have E4 : Hid (Calls Try.prog 7 #[.slice a2 n1 c2] w2 fun e w' => e = .returned (.bool ((depthsL z1).any deepC)) ∧ w' = w2) := by
      have h := deep_ref a2 c2 (depthsL z1) w2 hr3
      rw [HDL.out] at h
      exact h
    have HB2 := hid hb2
    clear hr3 hb2 E3
    cases hd : (depthsL z1).any deepC with
    | true =>
      rw [hd] at E4
      go_wp2_with fail
      go_at_call 7
      refine E4.out.mono ?_
      rintro _ w3 ⟨rfl, hw⟩
      obtain rfl := hw.symm
      clear hw
      go_wp2_with fail
      go_at_call 9
      refine (alive_any _).mono ?_
      rintro _ w3 ⟨rfl, hb3⟩
      have HB3 := hid (Bn HB2.out hb3)
      clear hb3
      go_wp2
      go_ret
      exact ⟨rfl, HB3.out⟩
    | false =>
      rw [hd] at E4
      have HD := hid hd
      have HV := hid (HDC2.out hd)
      have E5 := hid (E2.out w2 HB2.out)
      clear E2 hd HDC2
      go_wp2_with fail
      go_at_call 7
      refine E4.out.mono ?_
      rintro _ w3 ⟨rfl, hw⟩
      obtain rfl := hw.symm
      clear hw E4
      go_wp2_with fail
      go_at_call 10
      refine E5.out.mono ?_
      rintro _ w3 (⟨hc2, _⟩ | ⟨_, k, a3, c3, rfl, hk1, _, hr4, hb3⟩)
      · rw [HC.out] at hc2
        exact Bool.noConfusion hc2
      · have hk0 : k = 0 := by
          by_cases c : 0 < k
          · have := hk1 0 c
            rw [flats, HD.out] at this
            exact Bool.noConfusion this
          · omega
        subst hk0
        rw [flats] at hr4
        have HB3 := hid (Bn HB2.out hb3)
        have E6 : Hid (Calls Try.prog 11 #[.slice a3 n1 c3, .slice a n1 cap] w3 fun e w' => e = .returned (.tuple #[.int .i64 (costS (depthsL z1) z1 n1), .int .i64 0]) ∧ Below w3.heap.size w3 w') := by
          have h := cost_word a3 c3 (depthsL z1) a cap z1 w3 hr4 (HR1.out.later HB3.out)
          rw [HDL.out, HV.out, ← HN1.out] at h
          exact h
        have E7 : Hid (∀ W, Below w3.heap.size w3 W → Calls Try.prog 12 #[.slice b n2 cap2, .slice a n1 cap] W fun e w' => e = .returned (.tuple #[.int .i64 (costV ys z1).1, .int .i64 (costV ys z1).2]) ∧ Below W.heap.size W w') := fun W hW => by
          have h := cost_ref b cap2 ys a cap z1 W (HR2.out.later (Bn HB3.out hW)) (HR1.out.later (Bn HB3.out hW))
          rw [← HN1.out, ← HN2.out] at h
          exact h
        clear hb3 hr4 hk1 E5 HB2 HV HD
        rw [← HN1.out]
        generalize costS (depthsL z1) z1 n1 = x at *
        generalize (costV ys z1).1 = y at *
        generalize (costV ys z1).2 = z at *
        go_wp2_with fail
        go_at_call 11
        refine E6.out.mono ?_
        rintro _ w4 ⟨rfl, hb4⟩
        have E8 := hid (E7.out w4 hb4)
        have HB4 := hid (Bn HB3.out hb4)
        clear hb4 E6 E7 HB3
        go_wp2_with fail
        go_at_call 12
        refine E8.out.mono ?_
        rintro _ w5 ⟨rfl, hb5⟩
        have HB5 := hid (Bn HB4.out hb5)
        clear hb5 E8 HB4
        rcases HP2.out with hz | ⟨rfl, hle⟩
        · clear HP2
          go_wp2_with fail
          go_at_call 9
          refine (alive_any _).mono ?_
          rintro _ w6 ⟨rfl, hb6⟩
          have HB6 := hid (Bn HB5.out hb6)
          clear hb6
          go_wp2
          go_ret
          exact ⟨rfl, HB6.out⟩
        · clear HP2
          go_wp2_with fail
          go_at_call 9
          refine (alive_any _).mono ?_
          rintro _ w6 ⟨rfl, hb6⟩
          have HB6 := hid (Bn HB5.out hb6)
          clear hb6
          go_wp2
          go_ret
          exact ⟨rfl, HB6.out⟩

set_option maxRecDepth 100000 in
theorem lifted (os : Os) (started : os.Started) (H : Type) (enc : TypeId × Value → H) :
    ReturnsInHanded {} Try.checked os 3 .any (Rows.huffBestSpec.pre6 enc Try.prog Try.f3 Rows.huffBestRow.domain false) (Rows.huffBestSpec.post enc Try.prog Try.f3 false true false false) := by
  refine returnsInHanded_of_change (C := Try.checked) own started (by kernel_rfl) Try.func3
    (ChangeSpec.witness6 (enc := enc) (C := Try.checked) false ⟨#[], #[.slice none 0 0, .slice none 0 0], []⟩ 8 (by kernel_rfl) (by kernel_rfl) (by kernel_rfl) (by kernel_rfl)) ?_
  intro W base args ds gs before hval0 hW _ _
  have hval : ∀ (j : Nat) t v, Try.f3.params[j]? = some t → args[j]? = some v → Value.okWide Try.prog W .any base t v := hval0
  have hW' := hW
  obtain ⟨p, q, hA0, hV, rfl, _, _⟩ := hW
  have hA : DataW.TrodAll enc Try.prog W 0 (fun _ => true) true Try.f3.params.toList args.toList ds p := hA0
  rw [Try.params3] at hA hval
  obtain ⟨v0, vs0, d0, ds0, p0, q0, hargs, rfl, rfl, h0, r0⟩ := trodAll_cons hA
  obtain ⟨v1, vs1, d1, ds1, p1, q1, rfl, rfl, rfl, h1, r1⟩ := trodAll_cons r0
  obtain ⟨rfl, rfl, rfl⟩ := trodAll_nil r1
  obtain rfl : args = #[v0, v1] := by cases args; simp_all
  obtain ⟨rfl, rfl⟩ := trodVars_none hV
  clear hA0
  simp only [List.append_nil] at hW'
  have hlt0 : ∀ x ∈ p0, x.block < W.heap.size := fun x hx => hW'.lt x (by simp [hx])
  have hk0 := h0
  obtain ⟨a0, cap0, zs0, rfl, hr0⟩ := open_ri Try.underlying22 Try.underlying3 Try.cells3 (hval 0 22 v0 rfl rfl) h0 hlt0
  have hlt1 : ∀ x ∈ p1, x.block < W.heap.size := fun x hx => hW'.lt x (by simp [hx])
  have hk1 := h1
  obtain ⟨a1, cap1, zs1, rfl, hr1⟩ := open_ri Try.underlying22 Try.underlying3 Try.cells3 (hval 1 22 v1 rfl rfl) h1 hlt1
  clear hval0
  refine (walk_rd a0 cap0 zs0 a1 cap1 zs1 W hr0 hr1).mono fun e W' ⟨he, hb⟩ => ?_
  subst he
  exact ⟨_, rfl, _, _, _, [] ++ [], _, [], hW', trodAll_cons_mk (shut_bool Try.underlying4 _) trodAll_mk0, (trodAll_cons_mk (Below.trod Try.laidOut (by kernel_rfl) (of_decide_eq_true (by kernel_rfl)) hk0 hb hlt0) (trodAll_cons_mk (Below.trod Try.laidOut (by kernel_rfl) (of_decide_eq_true (by kernel_rfl)) hk1 hb hlt1) trodAll_mk0)), rfl, hb.frame _, fun h => by cases h⟩

theorem over : Rows.huffBestRow.holds Try.pinned (OpenSpec.ofChange Rows.huffBestSpec) :=
  OpenClaim.holds_of_wide 3 Try.f3 rfl rfl rfl rfl rfl rfl rfl ⟨rfl, rfl, rfl, rfl, rfl⟩ rfl rfl rfl rfl rfl (by kernel_rfl) Try.func3 (by kernel_rfl)
    (of_decide_eq_true (by kernel_rfl)) (by unfold Func.isWrapper; first | (rw [if_pos (by decide +kernel)]; kernel_rfl) | (rw [if_neg (by decide +kernel)]; exact ⟨rfl, rfl⟩))
    (fun os started H enc _ => lifted os started H enc)

end Go.Proofs.Ytgecoiakhmnilab.huffBest
namespace Go.Proofs.Ytgecoiakhmnilab
theorem huffBest_holds : Rows.HuffBestSaid := huffBest.over
#print axioms huffBest_holds
end Go.Proofs.Ytgecoiakhmnilab
