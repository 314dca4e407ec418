/-
  RollSizes is proved for every input: the chunks of any bytes are all of them, each but the last one from Least to Most; no condition.
-/
import Derived.Test.YtcapkkldjgmhfaaPart03
namespace Go.Proofs.Ytcapkkldjgmhfaa.rollSizes
open Go.ChangeShapes Go.WideShapes Go.ChangeAt Go.RowKit

theorem own : ownKnob Try.prog.godebug = none := by kernel_rfl

set_option maxHeartbeats 6400000 in
set_option maxRecDepth 100000 in
theorem walk (l m b : Int) (a : Option Addr) (cap : Nat) (zs : List Int) (w : World) (hr : Ri w .u8 a cap zs) :
    Calls Try.prog 7 #[.agg #[.int .i64 l, .int .i64 m, .int .i64 b], .slice a zs.length cap] w fun e w' => e = .returned (.bool true) ∧ Below w.heap.size w w' := by
  have C1 : Hid (∀ W, Below w.heap.size w W → Calls Try.prog 9 #[.slice a zs.length cap] W fun e w' => e = .returned (.slice a (zs.take 8192).length cap) ∧ w' = W) := fun W hW => cut_any a cap zs W (hr.later hW)
  have r1 := hr.take 8192
  have hbl : (zs.take 8192).length ≤ 8192 := List.length_take_le _ _
  generalize zs.take 8192 = bs at *
  have HC1 : Hid (∀ W, Below w.heap.size w W → Calls Try.prog 19 #[.agg #[.int .i64 l, .int .i64 m, .int .i64 b], .slice a bs.length cap] W (CutPost l m b bs W)) := fun W hW => cuts_word l m b a cap bs W (r1.later hW)
  unfold CutPost at HC1
  have HFT := hid (cutO_fits l m b bs (by omega))
  have HCR := hid (fun W => check_ref l m b W)
  have HE0 := hid (heap_new w (.cells #[.int .i64 l, .int .i64 m, .int .i64 b] 23))
  have HB0 := hid (bel_alloc w (.cells #[.int .i64 l, .int .i64 m, .int .i64 b] 23))
  clear hr r1
  generalize zs.length = L0 at *
  by_cases hc : chkC l m b = 0
  · have hO : cutO l m b bs = (cutsL l m b bs, 0) := by unfold cutO; rw [if_neg (by simp [hc]), if_neg (by omega)]
    rw [hO] at HC1 HFT
    have HCF := hid (cuts_facts hc bs)
    generalize cutsL l m b bs = X at *
    obtain ⟨L, hL⟩ : ∃ L, L = bs.length := ⟨_, rfl⟩
    have HL := hid hL
    rw [← hL] at C1 HC1 HCF hbl
    clear hL hO
    dsimp only at *
    go_enter Try.func7, Try.ntmps7
    go_wp2_with fail
    refine (awake_any _).mono ?_
    rintro _ w1 ⟨rfl, hb1⟩
    have HB1 := hid (Bn HB0.out hb1)
    have HE1 := hid ((hb1.block w.heap.size (Array.getElem?_eq_some_iff.1 HE0.out).1).trans HE0.out)
    clear hb1 HE0 HB0
    go_wp2_with fail
    refine (C1.out _ HB1.out).mono ?_
    rintro _ w0 ⟨rfl, hw⟩
    obtain rfl := hw.symm
    clear hw C1
    have cb0 := Joins.cell_of_block HE1.out 0
    have cb1 := Joins.cell_of_block HE1.out 1
    have cb2 := Joins.cell_of_block HE1.out 2
    simp only [List.getElem?_toArray, List.getElem?_cons_zero, List.getElem?_cons_succ] at cb0 cb1 cb2
    go_wp2_with fail
    refine (HC1.out _ HB1.out).mono ?_
    rintro _ w2 ⟨v2, rfl, hown2, hb2⟩
    have HB2 := hid (Bn HB1.out hb2)
    have HE2 := hid ((hb2.block w.heap.size (Array.getElem?_eq_some_iff.1 HE1.out).1).trans HE1.out)
    obtain ⟨a2, c2, rfl, h2⟩ := Ri.own hown2 HFT.out
    have HR2 := hid h2
    clear h2 hown2 hb2 HC1 HB1 HE1 cb0 cb1 cb2
    obtain ⟨n, hn⟩ : ∃ n, n = X.length := ⟨_, rfl⟩
    have HN := hid hn
    rw [← hn] at HCF ⊢
    have hnL := HCF.out.2.2.2
    clear hn
    go_wp2_with fail
    go_loopw [7, 8] (fun x y wr => ∃ k : Nat, k ≤ n ∧ y = .int .i64 (k : Int) ∧ x = .int .i64 ((X.take k).foldl (· + ·) 0) ∧ Hid (Below w2.heap.size w2 wr)) (fun _ y _ => n - (intOf y).toNat)
    case atStart => exact ⟨0, Nat.zero_le _, rfl, rfl, Below.refl _ _⟩
    case round =>
      obtain ⟨k, hk, rfl, rfl, HBK⟩ := hrel
      by_cases hlt : k < n
      · have hkx : k < X.length := by rw [← HN.out]; exact hlt
        obtain ⟨g3, o3, ha3, _, hc3⟩ := (HR2.out.later HBK.out).cells (by omega)
        have q3 := hc3 k hkx
        have q2 := (HBK.out.block w.heap.size (Array.getElem?_eq_some_iff.1 HE2.out).1).trans HE2.out
        have cb0 := Joins.cell_of_block q2 0
        have cb1 := Joins.cell_of_block q2 1
        simp only [List.getElem?_toArray, List.getElem?_cons_zero, List.getElem?_cons_succ] at cb0 cb1
        have hki : (k : Int) < (n : Int) := by omega
        have hw1 : IntKind.i64.wrap ((k : Int) + 1) = (k : Int) + 1 := IntWalk.i64_in _ ⟨by omega, by omega⟩
        have hz := HCF.out.1 (X.getD k 0) (by simp [List.getD, List.getElem?_eq_getElem hkx])
        have hle := HCF.out.2.2.1 k
        have hsm := fold_take X k hkx
        have hfb := fold_rng X (fun z h => (HCF.out.1 z h).1) k
        rw [HCF.out.2.1] at hfb
        have hfb2 := fold_rng X (fun z h => (HCF.out.1 z h).1) (k + 1)
        rw [HCF.out.2.1] at hfb2
        rw [hsm] at hfb2
        have HSM := hid hsm
        generalize X.getD k 0 = z at *
        generalize (X.take k).foldl (· + ·) 0 = sk at *
        have hw2 : IntKind.i64.wrap (sk + z) = sk + z := IntWalk.i64_in _ ⟨by omega, by omega⟩
        have t1 : decide (z < 1) = false := decide_eq_false (by omega)
        have t2 : decide (m < z) = false := decide_eq_false (by omega)
        have u1 : ¬ z < 1 := by omega
        have u2 : ¬ m < z := by omega
        subst ha3
        have HQ3 := hid q3
        clear hc3 hsm
        by_cases hl2 : k + 1 < n
        · have t3 : decide (z < l) = false := decide_eq_false (by have := hle (by omega); omega)
          have u3 : ¬ z < l := by have := hle (by omega); omega
          have u4 : (k : Int) + 1 < (n : Int) := by omega
          have t4 : decide ((k : Int) + 1 < (n : Int)) = true := decide_eq_true u4
          clear hz hle hfb hfb2
          go_wp2_with fail
          refine wp_region_quiet_lit (by kernel_rfl) (by kernel_rfl) ?_
          repeat (go_big_quiet_step (fail))
          refine wpQuiet_nil ?_
          intro _ hw'
          obtain ⟨nq, hw''⟩ := hw'
          subst hw''
          have HBQ := hid (bel_drewN HBK.out nq)
          have q3' : (wr.drewN nq).cell? ⟨g3, o3 + k, none⟩ = some (.int .i64 z) := HQ3.out
          clear q3 q2 cb0 cb1 HBK HQ3
          generalize wr.drewN nq = wq at *
          go_wp2_with fail
          exact ⟨⟨k + 1, hlt, by go_num, by rw [HSM.out], HBQ.out⟩, by simp only [intOf]; omega⟩
        · have u4 : ¬ (k : Int) + 1 < (n : Int) := by omega
          have t4 : decide ((k : Int) + 1 < (n : Int)) = false := decide_eq_false u4
          clear hz hle hfb hfb2
          go_wp2_with fail
          refine wp_region_quiet_lit (by kernel_rfl) (by kernel_rfl) ?_
          repeat (go_big_quiet_step (fail))
          refine wpQuiet_nil ?_
          intro _ hw'
          obtain ⟨nq, hw''⟩ := hw'
          subst hw''
          have HBQ := hid (bel_drewN HBK.out nq)
          have q3' : (wr.drewN nq).cell? ⟨g3, o3 + k, none⟩ = some (.int .i64 z) := HQ3.out
          clear q3 q2 cb0 cb1 HBK HQ3
          generalize wr.drewN nq = wq at *
          go_wp2_with fail
          exact ⟨⟨k + 1, hlt, by go_num, by rw [HSM.out], HBQ.out⟩, by simp only [intOf]; omega⟩
      · have hkn : k = n := by omega
        have hki : ¬ (k : Int) < (n : Int) := by omega
        subst hkn
        have hsum : (X.take k).foldl (· + ·) 0 = (L : Int) := by rw [HN.out, List.take_length]; exact HCF.out.2.1
        rw [hsum]
        have hLL : ((L : Int) == (L : Int)) = true := by simp
        go_wp2_with fail
        go_ret
        exact ⟨rfl, Bn HB2.out HBK.out⟩
  · have hO : cutO l m b bs = ([], 80) := by unfold cutO; rw [if_pos hc]
    have h80 : chkC l m b = 80 := by rcases chkC_or l m b with h | h; exact absurd h hc; exact h
    rw [hO] at HC1
    rw [h80] at HCR
    generalize bs.length = L at *
    dsimp only at *
    clear hc h80 hO HFT
    go_enter Try.func7, Try.ntmps7
    go_wp2_with fail
    refine (awake_any _).mono ?_
    rintro _ w1 ⟨rfl, hb1⟩
    have HB1 := hid (Bn HB0.out hb1)
    have HE1 := hid ((hb1.block w.heap.size (Array.getElem?_eq_some_iff.1 HE0.out).1).trans HE0.out)
    clear hb1 HE0 HB0
    go_wp2_with fail
    refine (C1.out _ HB1.out).mono ?_
    rintro _ w0 ⟨rfl, hw⟩
    obtain rfl := hw.symm
    clear hw C1
    have cb0 := Joins.cell_of_block HE1.out 0
    have cb1 := Joins.cell_of_block HE1.out 1
    have cb2 := Joins.cell_of_block HE1.out 2
    simp only [List.getElem?_toArray, List.getElem?_cons_zero, List.getElem?_cons_succ] at cb0 cb1 cb2
    go_wp2_with fail
    refine (HC1.out _ HB1.out).mono ?_
    rintro _ w2 ⟨v2, rfl, hown2, hb2⟩
    have HB2 := hid (Bn HB1.out hb2)
    have HE2 := hid ((hb2.block w.heap.size (Array.getElem?_eq_some_iff.1 HE1.out).1).trans HE1.out)
    obtain ⟨a2, c2, rfl, _⟩ := Ri.own (kd := .i64) (zs := []) hown2 (fun j => by simp; exact wf_zero _)
    clear hown2 hb2 HC1 HB1 HE1 cb0 cb1 cb2
    have cb0 := Joins.cell_of_block HE2.out 0
    have cb1 := Joins.cell_of_block HE2.out 1
    have cb2 := Joins.cell_of_block HE2.out 2
    simp only [List.getElem?_toArray, List.getElem?_cons_zero, List.getElem?_cons_succ] at cb0 cb1 cb2
    go_wp2_with fail
    refine (HCR.out w2).mono ?_
    rintro _ w3 ⟨rfl, hb3⟩
    have HB3 := hid (Bn HB2.out hb3)
    clear hb3 cb0 cb1 cb2
    go_wp2_with fail
    go_ret
    exact ⟨rfl, HB3.out⟩

set_option maxRecDepth 100000 in
theorem lifted (os : Os) (started : os.Started) (H : Type) (enc : TypeId × Value → H) :
    ReturnsInHanded {} Try.checked os 7 .any (Rows.rollSizesSpec.pre6 enc Try.prog Try.f7 Rows.rollSizesRow.domain false) (Rows.rollSizesSpec.post enc Try.prog Try.f7 false true false false) := by
  refine returnsInHanded_of_change (C := Try.checked) own started (by kernel_rfl) Try.func7
    (ChangeSpec.witness6 (enc := enc) (C := Try.checked) false ⟨#[], #[.agg #[.int .i64 0, .int .i64 0, .int .i64 0], .slice none 0 0], []⟩ 8 (by kernel_rfl) (by kernel_rfl) (by kernel_rfl) (by kernel_rfl)) ?_
  intro W base args ds gs before hval0 hW _ _
  have hval : ∀ (j : Nat) t v, Try.f7.params[j]? = some t → args[j]? = some v → Value.okWide Try.prog W .any base t v := hval0
  have hW' := hW
  obtain ⟨p, q, hA0, hV, rfl, _, _⟩ := hW
  have hA : DataW.TrodAll enc Try.prog W 0 (fun _ => true) true Try.f7.params.toList args.toList ds p := hA0
  rw [Try.params7] at hA hval
  obtain ⟨v0, vs0, d0, ds0, p0, q0, hargs, rfl, rfl, h0, r0⟩ := trodAll_cons hA
  obtain ⟨v1, vs1, d1, ds1, p1, q1, rfl, rfl, rfl, h1, r1⟩ := trodAll_cons r0
  obtain ⟨rfl, rfl, rfl⟩ := trodAll_nil r1
  obtain rfl : args = #[v0, v1] := by cases args; simp_all
  obtain ⟨rfl, rfl⟩ := trodVars_none hV
  clear hA0
  simp only [List.append_nil] at hW'
  have hlt0 : ∀ x ∈ p0, x.block < W.heap.size := fun x hx => hW'.lt x (by simp [hx])
  have hk0 := h0
  obtain ⟨l0, m0, b0, rfl⟩ := open_conf (hval 0 23 v0 rfl rfl) h0
  have hlt1 : ∀ x ∈ p1, x.block < W.heap.size := fun x hx => hW'.lt x (by simp [hx])
  have hk1 := h1
  obtain ⟨a1, cap1, zs1, rfl, hr1⟩ := open_ri Try.underlying25 Try.underlying5 Try.cells5 (hval 1 25 v1 rfl rfl) h1 hlt1
  clear hval0
  refine (walk l0 m0 b0 a1 cap1 zs1 W hr1).mono fun e W' ⟨he, hb⟩ => ?_
  subst he
  exact ⟨_, rfl, _, _, _, [] ++ [], _, [], hW', trodAll_cons_mk (shut_bool Try.underlying4 _) trodAll_mk0, (trodAll_cons_mk (Below.trod Try.laidOut (by kernel_rfl) (of_decide_eq_true (by kernel_rfl)) hk0 hb hlt0) (trodAll_cons_mk (Below.trod Try.laidOut (by kernel_rfl) (of_decide_eq_true (by kernel_rfl)) hk1 hb hlt1) trodAll_mk0)), rfl, hb.frame _, fun h => by cases h⟩

theorem over : Rows.rollSizesRow.holds Try.pinned (OpenSpec.ofChange Rows.rollSizesSpec) :=
  OpenClaim.holds_of_wide 7 Try.f7 rfl rfl rfl rfl rfl rfl rfl ⟨rfl, rfl, rfl, rfl, rfl⟩ rfl rfl rfl rfl rfl (by kernel_rfl) Try.func7 (by kernel_rfl)
    (of_decide_eq_true (by kernel_rfl)) (by unfold Func.isWrapper; first | (rw [if_pos (by decide +kernel)]; kernel_rfl) | (rw [if_neg (by decide +kernel)]; exact ⟨rfl, rfl⟩))
    (fun os started H enc _ => lifted os started H enc)

end Go.Proofs.Ytcapkkldjgmhfaa.rollSizes
namespace Go.Proofs.Ytcapkkldjgmhfaa
theorem rollSizes_holds : Rows.RollSizesSaid := rollSizes.over
#print axioms rollSizes_holds
end Go.Proofs.Ytcapkkldjgmhfaa
