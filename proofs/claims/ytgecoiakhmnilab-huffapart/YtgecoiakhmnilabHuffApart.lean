/-
  HuffApart is proved for every input: no symbol's code is the beginning of another one's; no condition.
-/
import Derived.Test.YtgecoiakhmnilabApartMath
import Derived.Deep.QuietTactic
import Derived.BigQuiet
namespace Go.Proofs.Ytgecoiakhmnilab.huffApart
open Go.ChangeShapes Go.WideShapes Go.ChangeAt Go.RowKit Hf

theorem bel_drewN {B : Nat} {a w : World} (h : Below B a w) (n : Nat) : Below B a (w.drewN n) := h.trans ⟨rfl, rfl, rfl, Nat.le_refl _, fun _ _ => rfl⟩
theorem own : ownKnob Try.prog.godebug = none := by kernel_rfl

set_option maxHeartbeats 6400000 in
set_option maxRecDepth 100000 in
theorem walk_rd (a : Option Addr) (cap : Nat) (zs : List Int) (x y : Int) (w : World) (hr : Ri w .i64 a cap zs) :
    Calls Try.prog 4 #[.slice a zs.length cap, .int .i64 x, .int .i64 y] w fun e w' => e = .returned (.bool true) ∧ Below w.heap.size w w' := by
  have C1 := hid (few_any a cap zs w hr)
  have r1 := hr.take 60
  generalize zs.take 60 = z1 at *
  have E1 := hid (codes_w a cap z1 w r1)
  have R1 := hid r1
  obtain ⟨n1, hn1⟩ : ∃ n, n = z1.length := ⟨_, rfl⟩
  have HN1 := hid hn1
  rw [← hn1] at C1 E1
  clear hr r1 hn1
  generalize zs.length = m1 at *
  go_enter Try.func4, Try.ntmps4
  go_wp2_with fail
  go_at_call 5
  refine C1.out.mono ?_
  rintro _ w1 ⟨rfl, hw⟩
  obtain rfl := hw.symm
  clear hw C1
  go_wp2_with fail
  go_at_call 13
  refine E1.out.mono ?_
  rintro _ w1 ⟨ac, cc, rfl, hrc, hb1⟩
  have HB1 := hid hb1
  have RC := hid hrc
  clear hb1 hrc E1
  cases hc : checkB z1 with
  | false =>
    have e2 : checkF z1 = 51 := by unfold checkF; rw [hc]; rfl
    rw [e2]
    clear e2 hc RC R1
    generalize (codesO z1).length = lc at *
    go_wp2_with fail
    go_big_quiet (fail)
    have HBD := hid (bel_drewN HB1.out nq)
    clear HB1
    generalize w1.drewN nq = wD at *
    go_wp2_with fail
    go_at_call 9
    refine (alive_any _).mono ?_
    rintro _ w9 ⟨rfl, hb9⟩
    have HB9 := hid (Bn HBD.out hb9)
    clear hb9
    go_wp2
    go_ret
    exact ⟨rfl, HB9.out⟩
  | true =>
    have e2 : checkF z1 = 0 := by unfold checkF; rw [hc]; rfl
    have e3 : codesO z1 = codesL z1 := by unfold codesO; rw [hc]; rfl
    rw [e2, e3, codesL_length, ← HN1.out]
    rw [e3] at RC
    have HC := hid hc
    clear e2 e3 hc
    by_cases hx0 : x < 0
    · clear RC R1 HC
      go_wp2_with fail
      go_big_quiet (fail)
      have HBD := hid (bel_drewN HB1.out nq)
      clear HB1
      generalize w1.drewN nq = wD at *
      go_wp2_with fail
      go_at_call 9
      refine (alive_any _).mono ?_
      rintro _ w9 ⟨rfl, hb9⟩
      have HB9 := hid (Bn HBD.out hb9)
      clear hb9
      go_wp2
      go_ret
      exact ⟨rfl, HB9.out⟩
    have ix0 : decide (x < 0) = false := decide_eq_false hx0
    by_cases hy0 : y < 0
    · clear RC R1 HC
      go_wp2_with fail
      go_big_quiet (fail)
      have HBD := hid (bel_drewN HB1.out nq)
      clear HB1
      generalize w1.drewN nq = wD at *
      go_wp2_with fail
      go_at_call 9
      refine (alive_any _).mono ?_
      rintro _ w9 ⟨rfl, hb9⟩
      have HB9 := hid (Bn HBD.out hb9)
      clear hb9
      go_wp2
      go_ret
      exact ⟨rfl, HB9.out⟩
    have iy0 : decide (y < 0) = false := decide_eq_false hy0
    by_cases hx1 : (n1 : Int) ≤ x
    · clear RC R1 HC
      go_wp2_with fail
      go_big_quiet (fail)
      have HBD := hid (bel_drewN HB1.out nq)
      clear HB1
      generalize w1.drewN nq = wD at *
      go_wp2_with fail
      go_at_call 9
      refine (alive_any _).mono ?_
      rintro _ w9 ⟨rfl, hb9⟩
      have HB9 := hid (Bn HBD.out hb9)
      clear hb9
      go_wp2
      go_ret
      exact ⟨rfl, HB9.out⟩
    have ix1 : decide ((n1 : Int) ≤ x) = false := decide_eq_false hx1
    by_cases hy1 : (n1 : Int) ≤ y
    · clear RC R1 HC
      go_wp2_with fail
      go_big_quiet (fail)
      have HBD := hid (bel_drewN HB1.out nq)
      clear HB1
      generalize w1.drewN nq = wD at *
      go_wp2_with fail
      go_at_call 9
      refine (alive_any _).mono ?_
      rintro _ w9 ⟨rfl, hb9⟩
      have HB9 := hid (Bn HBD.out hb9)
      clear hb9
      go_wp2
      go_ret
      exact ⟨rfl, HB9.out⟩
    have iy1 : decide ((n1 : Int) ≤ y) = false := decide_eq_false hy1
    by_cases hxy : x = y
    · have hxb : (x == y) = true := by simp [hxy]
      clear hxy RC R1 HC
      go_wp2_with fail
      go_big_quiet (fail)
      have HBD := hid (bel_drewN HB1.out nq)
      clear HB1
      generalize w1.drewN nq = wD at *
      go_wp2_with fail
      go_at_call 9
      refine (alive_any _).mono ?_
      rintro _ w9 ⟨rfl, hb9⟩
      have HB9 := hid (Bn HBD.out hb9)
      clear hb9
      go_wp2
      go_ret
      exact ⟨rfl, HB9.out⟩
    have hxb : (x == y) = false := by simpa using hxy
    obtain ⟨s, hs⟩ : ∃ s : Nat, x = (s : Int) := ⟨x.toNat, by omega⟩
    obtain ⟨t, ht⟩ : ∃ t : Nat, y = (t : Int) := ⟨y.toNat, by omega⟩
    subst hs ht
    have hsn : s < n1 := by omega
    have htn : t < n1 := by omega
    have HST : Hid (s ≠ t) := by show _ ≠ _; omega
    have ixn : decide (n1 ≤ s) = false := decide_eq_false (by omega)
    have iyn : decide (n1 ≤ t) = false := decide_eq_false (by omega)
    have ixy : (s == t) = false := by simpa using HST.out
    have HSL : Hid (s < z1.length ∧ t < z1.length) := by rw [← HN1.out]; exact ⟨hsn, htn⟩
    obtain ⟨b1, o1, hab, hb1, hcl⟩ := (R1.out).cells (by have := HSL.out; omega)
    subst hab
    have hrs := (len_rng HC.out).2 s
    have hrt := (len_rng HC.out).2 t
    obtain ⟨l, hl⟩ : ∃ l : Nat, z1.getD s 0 = (l : Int) := ⟨(z1.getD s 0).toNat, by omega⟩
    obtain ⟨m, hm⟩ : ∃ m : Nat, z1.getD t 0 = (m : Int) := ⟨(z1.getD t 0).toNat, by omega⟩
    have c1 : w1.cell? ⟨b1, o1 + s, none⟩ = some (.int .i64 (l : Int)) := by
      rw [(HB1.out.cell (p := ⟨b1, o1 + s, none⟩) hb1).trans (hcl s HSL.out.1), hl]
    have c2 : w1.cell? ⟨b1, o1 + t, none⟩ = some (.int .i64 (m : Int)) := by
      rw [(HB1.out.cell (p := ⟨b1, o1 + t, none⟩) hb1).trans (hcl t HSL.out.2), hm]
    rw [hl] at hrs
    rw [hm] at hrt
    have HLZ := hid hl
    have HMZ := hid hm
    clear hl hm hcl hxy
    by_cases hl0 : l = 0
    · have c0 : w1.cell? ⟨b1, o1 + s, none⟩ = some (.int .i64 0) := by rw [c1, hl0]; rfl
      clear hl0 RC R1 HC c1 c2 hrs hrt HLZ HMZ
      go_wp2_with fail
      go_big_quiet (fail)
      have HBD := hid (bel_drewN HB1.out nq)
      clear c0
      clear HB1
      generalize w1.drewN nq = wD at *
      go_wp2_with fail
      go_at_call 9
      refine (alive_any _).mono ?_
      rintro _ w9 ⟨rfl, hb9⟩
      have HB9 := hid (Bn HBD.out hb9)
      clear hb9
      go_wp2
      go_ret
      exact ⟨rfl, HB9.out⟩
    have hlb : ((l : Int) == 0) = false := by simp; omega
    by_cases hlm : m < l
    · have hlm2 : (m : Int) < (l : Int) := by omega
      clear RC R1 HC
      go_wp2_with fail
      go_big_quiet (fail)
      have HBD := hid (bel_drewN HB1.out nq)
      clear c1 c2
      clear HB1
      generalize w1.drewN nq = wD at *
      go_wp2_with fail
      go_at_call 9
      refine (alive_any _).mono ?_
      rintro _ w9 ⟨rfl, hb9⟩
      have HB9 := hid (Bn HBD.out hb9)
      clear hb9
      go_wp2
      go_ret
      exact ⟨rfl, HB9.out⟩
    have hlm2 : ¬ (m : Int) < (l : Int) := by omega
    have iln : decide (m < l) = false := decide_eq_false (by omega)
    have ilm : decide ((m : Int) < (l : Int)) = false := decide_eq_false hlm2
    have hl15 : l ≤ 15 := by omega
    have hm15 : m ≤ 15 := by omega
    obtain ⟨b3, o3, hab, hb3, hcc⟩ := (RC.out).cells (by rw [codesL_length]; have := HSL.out; omega)
    subst hab
    have hv1 : (codesL z1).getD s 0 = ((codeN z1 s : Nat) : Int) := by rw [codesL_getD z1 s HSL.out.1, codeF_lt HC.out s l HSL.out.1 HLZ.out (by omega) hl15]
    have hv2 : (codesL z1).getD t 0 = ((codeN z1 t : Nat) : Int) := by rw [codesL_getD z1 t HSL.out.2, codeF_lt HC.out t m HSL.out.2 HMZ.out (by omega) hm15]
    have c3 := hcc s (by rw [codesL_length]; exact HSL.out.1)
    have c4 := hcc t (by rw [codesL_length]; exact HSL.out.2)
    rw [hv1] at c3
    rw [hv2] at c4
    have HAP := hid (apart HC.out s t l m HSL.out.1 HSL.out.2 HST.out HLZ.out HMZ.out (by omega) (by omega) hm15)
    have hk1 := codeN_lt HC.out s l HSL.out.1 HLZ.out (by omega) hl15
    have hk2 := codeN_lt HC.out t m HSL.out.2 HMZ.out (by omega) hm15
    have hp1 : 2 ^ l ≤ 2 ^ 15 := Nat.pow_le_pow_right (by decide) hl15
    have hp2 : 2 ^ m ≤ 2 ^ 15 := Nat.pow_le_pow_right (by decide) hm15
    generalize codeN z1 s = cs at *
    generalize codeN z1 t = ct at *
    have BS : Hid (∀ W : World, Calls Try.prog 14 #[.int .u16 (cs : Int), .int .i64 (l : Int)] W fun e w' => ∃ v, e = .returned v ∧ w'.ownsRow W.heap.size 4 1 v (bitsL cs l).length ((bitsL cs l).map Value.bool) ∧ Below W.heap.size W w') := fun W => bits_ref cs l W (by omega) (by omega)
    have BT : Hid (∀ W : World, Calls Try.prog 14 #[.int .u16 (ct : Int), .int .i64 (m : Int)] W fun e w' => ∃ v, e = .returned v ∧ w'.ownsRow W.heap.size 4 1 v (bitsL ct m).length ((bitsL ct m).map Value.bool) ∧ Below W.heap.size W w') := fun W => bits_ref ct m W (by omega) (by omega)
    have hn0 : ((n1 : Int) != (n1 : Int)) = false := by simp
    have hb1' : b1 < w1.heap.size := Nat.lt_of_lt_of_le hb1 HB1.out.size
    clear hv1 hv2 hcc hk1 hk2 hp1 hp2 HC R1 RC HLZ HMZ HSL HST hb1
    go_wp2_with fail
    go_big_quiet (fail)
    have d1 : (w1.drewN nq).cell? ⟨b1, o1 + s, none⟩ = some (.int .i64 (l : Int)) := c1
    have d2 : (w1.drewN nq).cell? ⟨b1, o1 + t, none⟩ = some (.int .i64 (m : Int)) := c2
    have d3 : (w1.drewN nq).cell? ⟨b3, o3 + s, none⟩ = some (.int .u16 (cs : Int)) := c3
    have d4 : (w1.drewN nq).cell? ⟨b3, o3 + t, none⟩ = some (.int .u16 (ct : Int)) := c4
    have hs1 : b1 < (w1.drewN nq).heap.size := hb1'
    have hs3 : b3 < (w1.drewN nq).heap.size := hb3
    have HBD := hid (bel_drewN HB1.out nq)
    clear c1 c2 c3 c4 hb1' hb3 HB1
    generalize w1.drewN nq = wD at *
    go_wp2_with fail
    refine wp_region_held_drew (S := fun W => W.cell? ⟨b1, o1 + s, none⟩ = some (.int .i64 (l : Int)) ∧ W.cell? ⟨b1, o1 + t, none⟩ = some (.int .i64 (m : Int)) ∧ W.cell? ⟨b3, o3 + s, none⟩ = some (.int .u16 (cs : Int)) ∧ W.cell? ⟨b3, o3 + t, none⟩ = some (.int .u16 (ct : Int))) (by kernel_rfl) ⟨d1, d2, d3, d4⟩ (fun hS2 => ?_)
    have HBE := hid HBD.out.drew
    have HC1 := hid hS2
    have hs1' : b1 < wD.drew.heap.size := hs1
    have hs3' : b3 < wD.drew.heap.size := hs3
    clear d1 d2 d3 d4 HBD hs1 hs3
    generalize wD.drew = wE at *
    refine Ord.take (i := 0) (d := 70) (v := ?v0) rfl rfl (by as_aux_lemma => kernel_rfl) (by as_aux_lemma => kernel_rfl) (by as_aux_lemma => kernel_rfl) (fun _ _ _ h => h) (by rfl) ?h0 (by assumption) ?_
    case h0 => intro w hSw; go_simp; try with_reducible rfl
    simp only [List.setIfInBounds_toArray, List.set_cons_zero, List.set_cons_succ]
    refine Ord.take (i := 1) (d := 71) (v := ?v1) rfl rfl (by as_aux_lemma => kernel_rfl) (by as_aux_lemma => kernel_rfl) (by as_aux_lemma => kernel_rfl) (fun _ _ _ h => h) (by rfl) ?h1 (by assumption) ?_
    case h1 => intro w hSw; go_simp; try with_reducible rfl
    simp only [List.setIfInBounds_toArray, List.set_cons_zero, List.set_cons_succ]
    refine Ord.take (i := 2) (d := 72) (v := ?v2) rfl rfl (by as_aux_lemma => kernel_rfl) (by as_aux_lemma => kernel_rfl) (by as_aux_lemma => kernel_rfl) (fun _ _ _ h => h) (by rfl) ?h2 (by assumption) ?_
    case h2 => intro w hSw; go_simp; try with_reducible rfl
    simp only [List.setIfInBounds_toArray, List.set_cons_zero, List.set_cons_succ]
    refine Ord.take (i := 3) (d := 73) (v := .int .u16 (cs : Int)) rfl rfl (by as_aux_lemma => kernel_rfl) (by as_aux_lemma => kernel_rfl) (by as_aux_lemma => kernel_rfl) (fun _ _ _ h => h) (by rfl) ?h3 (by assumption) ?_
    case h3 => intro w hSw; have e := hSw.2.2.1; go_simp; try with_reducible rfl
    simp only [List.setIfInBounds_toArray, List.set_cons_zero, List.set_cons_succ]
    refine Ord.take (i := 4) (d := 74) (v := ?v4) rfl rfl (by as_aux_lemma => kernel_rfl) (by as_aux_lemma => kernel_rfl) (by as_aux_lemma => kernel_rfl) (fun _ _ _ h => h) (by rfl) ?h4 (by assumption) ?_
    case h4 => intro w hSw; go_simp; try with_reducible rfl
    simp only [List.setIfInBounds_toArray, List.set_cons_zero, List.set_cons_succ]
    refine Ord.take (i := 5) (d := 75) (v := ?v5) rfl rfl (by as_aux_lemma => kernel_rfl) (by as_aux_lemma => kernel_rfl) (by as_aux_lemma => kernel_rfl) (fun _ _ _ h => h) (by rfl) ?h5 (by assumption) ?_
    case h5 => intro w hSw; go_simp; try with_reducible rfl
    simp only [List.setIfInBounds_toArray, List.set_cons_zero, List.set_cons_succ]
    refine Ord.take (i := 6) (d := 76) (v := ?v6) rfl rfl (by as_aux_lemma => kernel_rfl) (by as_aux_lemma => kernel_rfl) (by as_aux_lemma => kernel_rfl) (fun _ _ _ h => h) (by rfl) ?h6 (by assumption) ?_
    case h6 => intro w hSw; go_simp; try with_reducible rfl
    simp only [List.setIfInBounds_toArray, List.set_cons_zero, List.set_cons_succ]
    refine Ord.take (i := 7) (d := 77) (v := .int .i64 (l : Int)) rfl rfl (by as_aux_lemma => kernel_rfl) (by as_aux_lemma => kernel_rfl) (by as_aux_lemma => kernel_rfl) (fun _ _ _ h => h) (by rfl) ?h7 (by assumption) ?_
    case h7 => intro w hSw; have e := hSw.1; go_simp; try with_reducible rfl
    simp only [List.setIfInBounds_toArray, List.set_cons_zero, List.set_cons_succ]
    refine Ord.take (i := 9) (d := 79) (v := ?v9) rfl rfl (by as_aux_lemma => kernel_rfl) (by as_aux_lemma => kernel_rfl) (by as_aux_lemma => kernel_rfl) (fun _ _ _ h => h) (by rfl) ?h9 (by assumption) ?_
    case h9 => intro w hSw; go_simp; try with_reducible rfl
    simp only [List.setIfInBounds_toArray, List.set_cons_zero, List.set_cons_succ]
    refine Ord.take (i := 10) (d := 80) (v := ?v10) rfl rfl (by as_aux_lemma => kernel_rfl) (by as_aux_lemma => kernel_rfl) (by as_aux_lemma => kernel_rfl) (fun _ _ _ h => h) (by rfl) ?h10 (by assumption) ?_
    case h10 => intro w hSw; go_simp; try with_reducible rfl
    simp only [List.setIfInBounds_toArray, List.set_cons_zero, List.set_cons_succ]
    refine Ord.take (i := 11) (d := 81) (v := ?v11) rfl rfl (by as_aux_lemma => kernel_rfl) (by as_aux_lemma => kernel_rfl) (by as_aux_lemma => kernel_rfl) (fun _ _ _ h => h) (by rfl) ?h11 (by assumption) ?_
    case h11 => intro w hSw; go_simp; try with_reducible rfl
    simp only [List.setIfInBounds_toArray, List.set_cons_zero, List.set_cons_succ]
    refine Ord.take (i := 12) (d := 82) (v := .int .u16 (ct : Int)) rfl rfl (by as_aux_lemma => kernel_rfl) (by as_aux_lemma => kernel_rfl) (by as_aux_lemma => kernel_rfl) (fun _ _ _ h => h) (by rfl) ?h12 (by assumption) ?_
    case h12 => intro w hSw; have e := hSw.2.2.2; go_simp; try with_reducible rfl
    simp only [List.setIfInBounds_toArray, List.set_cons_zero, List.set_cons_succ]
    refine Ord.take (i := 13) (d := 83) (v := ?v13) rfl rfl (by as_aux_lemma => kernel_rfl) (by as_aux_lemma => kernel_rfl) (by as_aux_lemma => kernel_rfl) (fun _ _ _ h => h) (by rfl) ?h13 (by assumption) ?_
    case h13 => intro w hSw; go_simp; try with_reducible rfl
    simp only [List.setIfInBounds_toArray, List.set_cons_zero, List.set_cons_succ]
    refine Ord.take (i := 14) (d := 84) (v := ?v14) rfl rfl (by as_aux_lemma => kernel_rfl) (by as_aux_lemma => kernel_rfl) (by as_aux_lemma => kernel_rfl) (fun _ _ _ h => h) (by rfl) ?h14 (by assumption) ?_
    case h14 => intro w hSw; go_simp; try with_reducible rfl
    simp only [List.setIfInBounds_toArray, List.set_cons_zero, List.set_cons_succ]
    refine Ord.take (i := 15) (d := 85) (v := ?v15) rfl rfl (by as_aux_lemma => kernel_rfl) (by as_aux_lemma => kernel_rfl) (by as_aux_lemma => kernel_rfl) (fun _ _ _ h => h) (by rfl) ?h15 (by assumption) ?_
    case h15 => intro w hSw; go_simp; try with_reducible rfl
    simp only [List.setIfInBounds_toArray, List.set_cons_zero, List.set_cons_succ]
    refine Ord.take (i := 16) (d := 86) (v := .int .i64 (m : Int)) rfl rfl (by as_aux_lemma => kernel_rfl) (by as_aux_lemma => kernel_rfl) (by as_aux_lemma => kernel_rfl) (fun _ _ _ h => h) (by rfl) ?h16 (by assumption) ?_
    case h16 => intro w hSw; have e := hSw.2.1; go_simp; try with_reducible rfl
    simp only [List.setIfInBounds_toArray, List.set_cons_zero, List.set_cons_succ]
    refine wpAnyH_ready (rs := [8]) (by as_aux_lemma => kernel_rfl) (by simp) (AllReadyH.cons rfl (fun K hK => ?_) AllReadyH.nil)
    go_simp
    refine (BS.out wE).mono ?_
    rintro _ w3 ⟨v3, rfl, hown3, hb3⟩
    have hS3 : w3.cell? ⟨b1, o1 + s, none⟩ = some (.int .i64 (l : Int)) ∧ w3.cell? ⟨b1, o1 + t, none⟩ = some (.int .i64 (m : Int)) ∧ w3.cell? ⟨b3, o3 + s, none⟩ = some (.int .u16 (cs : Int)) ∧ w3.cell? ⟨b3, o3 + t, none⟩ = some (.int .u16 (ct : Int)) :=
      ⟨(hb3.cell (p := ⟨b1, o1 + s, none⟩) hs1').trans HC1.out.1, (hb3.cell (p := ⟨b1, o1 + t, none⟩) hs1').trans HC1.out.2.1, (hb3.cell (p := ⟨b3, o3 + s, none⟩) hs3').trans HC1.out.2.2.1, (hb3.cell (p := ⟨b3, o3 + t, none⟩) hs3').trans HC1.out.2.2.2⟩
    refine hK.out _ _ hS3 (fun _ => ?_)
    clear hK K
    obtain ⟨a5, c5, hv5, hr5⟩ := Rb.own hown3
    subst hv5
    have HB3 := hid (Bn HBE.out hb3)
    have HS3 := hid hS3
    have hg3 := hb3.size
    have HR5 := hid hr5
    clear hown3 hr5 hb3
    rw [bitsL_length]
    refine wpAnyH_ready (rs := [17]) (by as_aux_lemma => kernel_rfl) (by simp) (AllReadyH.cons rfl (fun K hK => ?_) AllReadyH.nil)
    go_simp
    refine (BT.out w3).mono ?_
    rintro _ w4 ⟨v4, rfl, hown4, hb4⟩
    have hS4 : w4.cell? ⟨b1, o1 + s, none⟩ = some (.int .i64 (l : Int)) ∧ w4.cell? ⟨b1, o1 + t, none⟩ = some (.int .i64 (m : Int)) ∧ w4.cell? ⟨b3, o3 + s, none⟩ = some (.int .u16 (cs : Int)) ∧ w4.cell? ⟨b3, o3 + t, none⟩ = some (.int .u16 (ct : Int)) :=
      ⟨(hb4.cell (p := ⟨b1, o1 + s, none⟩) (by show b1 < _; omega)).trans HS3.out.1, (hb4.cell (p := ⟨b1, o1 + t, none⟩) (by show b1 < _; omega)).trans HS3.out.2.1, (hb4.cell (p := ⟨b3, o3 + s, none⟩) (by show b3 < _; omega)).trans HS3.out.2.2.1, (hb4.cell (p := ⟨b3, o3 + t, none⟩) (by show b3 < _; omega)).trans HS3.out.2.2.2⟩
    refine hK.out _ _ hS4 (fun _ => ?_)
    clear hK K
    obtain ⟨a6, c6, hv6, hr6⟩ := Rb.own hown4
    subst hv6
    have HB4 := hid (Bn HB3.out hb4)
    have HR5' := hid (HR5.out.later hb4)
    have HR6 := hid hr6
    clear hown4 hr6 hb4 HR5 HS3 hS3 HB3
    rw [bitsL_length]
    refine Ord.take (i := 18) (d := 9) (v := ?v18) rfl rfl (by as_aux_lemma => kernel_rfl) (by as_aux_lemma => kernel_rfl) (by as_aux_lemma => kernel_rfl) (fun _ _ _ h => h) (by rfl) ?h18 (by assumption) ?_
    case h18 => intro w hSw; go_simp; try with_reducible rfl
    simp only [List.setIfInBounds_toArray, List.set_cons_zero, List.set_cons_succ]
    refine Ord.take (i := 19) (d := 10) (v := ?v19) rfl rfl (by as_aux_lemma => kernel_rfl) (by as_aux_lemma => kernel_rfl) (by as_aux_lemma => kernel_rfl) (fun _ _ _ h => h) (by rfl) ?h19 (by assumption) ?_
    case h19 => intro w hSw; go_simp; try with_reducible rfl
    simp only [List.setIfInBounds_toArray, List.set_cons_zero, List.set_cons_succ]
    refine wpAnyH_done (by as_aux_lemma => kernel_rfl) ?_ _
    clear hS4 HC1 hS2 HBE BS BT
    go_wp2_with fail
    go_loopw [11] (fun i wr => ∃ k : Nat, k ≤ l ∧ i = .int .i64 k ∧ Below w4.heap.size w4 wr ∧ Hid (∀ j, j < k → (bitsL cs l).getD j false = (bitsL ct m).getD j false)) (fun i _ => l - (intOf i).toNat)
    case atStart => exact ⟨0, by omega, rfl, Below.refl _ _, fun j hj => absurd hj (by omega)⟩
    case round =>
      obtain ⟨k, hk, rfl, hbel, HA⟩ := hrel
      by_cases hlt : k < l
      · have hkl : (k : Int) < (l : Int) := by omega
        have hkm : (k : Int) < (m : Int) := by omega
        obtain ⟨g5, o5, ha5, hg5, hc5⟩ := (HR5'.out).cells (by rw [bitsL_length]; omega)
        obtain ⟨g6, o6, ha6, hg6, hc6⟩ := (HR6.out).cells (by rw [bitsL_length]; omega)
        subst ha5 ha6
        have k5 := (hbel.cell (p := ⟨g5, o5 + k, none⟩) hg5).trans (hc5 k (by rw [bitsL_length]; exact hlt))
        have k6 := (hbel.cell (p := ⟨g6, o6 + k, none⟩) hg6).trans (hc6 k (by rw [bitsL_length]; omega))
        have HB5 := hid hbel.drew
        have HBD : Hid (Below w.heap.size w wr.drew) := HB4.out.trans (hbel.drew.mono HB4.out.size)
        clear hc5 hc6 hbel
        by_cases he : (bitsL cs l).getD k false = (bitsL ct m).getD k false
        · have HA2 : Hid (∀ j, j < k + 1 → (bitsL cs l).getD j false = (bitsL ct m).getD j false) := fun j hj => by
            by_cases e : j = k
            · subst e; exact he
            · exact HA.out j (by omega)
          rw [← he] at k6
          clear he
          generalize (bitsL cs l).getD k false = z at *
          cases z
          all_goals
            go_wp2_with fail
            go_region
            clear k5 k6
            generalize wr.drew = W at *
            go_wp2
            exact ⟨⟨k + 1, by omega, by go_num, HB5.out, HA2⟩, by simp [intOf]; omega⟩
        · generalize (bitsL cs l).getD k false = z at *
          generalize (bitsL ct m).getD k false = z2 at *
          have hz2 : z2 = !z := by cases z <;> cases z2 <;> first | rfl | exact absurd rfl he
          subst hz2
          clear he
          cases z
          all_goals
            simp only [Bool.not_true, Bool.not_false] at k6
            go_wp2_with fail
            go_region
            clear k5 k6
            generalize wr.drew = W at *
            go_wp2_with fail
            go_at_call 9
            refine (alive_any _).mono ?_
            rintro _ w9 ⟨rfl, hb9⟩
            have HB9 := hid (Bn HBD.out hb9)
            clear hb9
            go_wp2
            go_ret
            exact ⟨rfl, HB9.out⟩
      · exact absurd (HAP.out (fun i hi => HA.out i (by omega))) (fun h => h)

set_option maxRecDepth 100000 in
theorem lifted (os : Os) (started : os.Started) (H : Type) (enc : TypeId × Value → H) :
    ReturnsInHanded {} Try.checked os 4 .any (Rows.huffApartSpec.pre6 enc Try.prog Try.f4 Rows.huffApartRow.domain false) (Rows.huffApartSpec.post enc Try.prog Try.f4 false true false false) := by
  refine returnsInHanded_of_change (C := Try.checked) own started (by kernel_rfl) Try.func4
    (ChangeSpec.witness6 (enc := enc) (C := Try.checked) false ⟨#[], #[.slice none 0 0, .int .i64 0, .int .i64 0], []⟩ 8 (by kernel_rfl) (by kernel_rfl) (by kernel_rfl) (by kernel_rfl)) ?_
  intro W base args ds gs before hval0 hW _ _
  have hval : ∀ (j : Nat) t v, Try.f4.params[j]? = some t → args[j]? = some v → Value.okWide Try.prog W .any base t v := hval0
  have hW' := hW
  obtain ⟨p, q, hA0, hV, rfl, _, _⟩ := hW
  have hA : DataW.TrodAll enc Try.prog W 0 (fun _ => true) true Try.f4.params.toList args.toList ds p := hA0
  rw [Try.params4] at hA hval
  obtain ⟨v0, vs0, d0, ds0, p0, q0, hargs, rfl, rfl, h0, r0⟩ := trodAll_cons hA
  obtain ⟨v1, vs1, d1, ds1, p1, q1, rfl, rfl, rfl, h1, r1⟩ := trodAll_cons r0
  obtain ⟨v2, vs2, d2, ds2, p2, q2, rfl, rfl, rfl, h2, r2⟩ := trodAll_cons r1
  obtain ⟨rfl, rfl, rfl⟩ := trodAll_nil r2
  obtain rfl : args = #[v0, v1, v2] := by cases args; simp_all
  obtain ⟨rfl, rfl⟩ := trodVars_none hV
  obtain ⟨a1, rfl, rfl, rfl, w1⟩ := open_int Try.underlying3 (hval 1 3 v1 rfl rfl) h1
  obtain ⟨a2, rfl, rfl, rfl, w2⟩ := open_int Try.underlying3 (hval 2 3 v2 rfl rfl) h2
  clear hA0
  simp only [List.append_nil] at hW'
  have hlt0 : ∀ x ∈ p0, x.block < W.heap.size := fun x hx => hW'.lt x (by simp [hx])
  have hk0 := h0
  obtain ⟨a0, cap0, zs0, rfl, hr0⟩ := open_ri Try.underlying22 Try.underlying3 Try.cells3 (hval 0 22 v0 rfl rfl) h0 hlt0
  clear hval0
  refine (walk_rd a0 cap0 zs0 a1 a2 W hr0).mono fun e W' ⟨he, hb⟩ => ?_
  subst he
  exact ⟨_, rfl, _, _, _, [] ++ [], _, [], hW', trodAll_cons_mk (shut_bool Try.underlying4 _) trodAll_mk0, (trodAll_cons_mk (Below.trod Try.laidOut (by kernel_rfl) (of_decide_eq_true (by kernel_rfl)) hk0 hb hlt0) (trodAll_cons_mk (shut_int Try.underlying3 w1) (trodAll_cons_mk (shut_int Try.underlying3 w2) trodAll_mk0))), rfl, hb.frame _, fun h => by cases h⟩

theorem over : Rows.huffApartRow.holds Try.pinned (OpenSpec.ofChange Rows.huffApartSpec) :=
  OpenClaim.holds_of_wide 4 Try.f4 rfl rfl rfl rfl rfl rfl rfl ⟨rfl, rfl, rfl, rfl, rfl⟩ rfl rfl rfl rfl rfl (by kernel_rfl) Try.func4 (by kernel_rfl)
    (of_decide_eq_true (by kernel_rfl)) (by unfold Func.isWrapper; first | (rw [if_pos (by decide +kernel)]; kernel_rfl) | (rw [if_neg (by decide +kernel)]; exact ⟨rfl, rfl⟩))
    (fun os started H enc _ => lifted os started H enc)

end Go.Proofs.Ytgecoiakhmnilab.huffApart
namespace Go.Proofs.Ytgecoiakhmnilab
theorem huffApart_holds : Rows.HuffApartSaid := huffApart.over
#print axioms huffApart_holds
end Go.Proofs.Ytgecoiakhmnilab
