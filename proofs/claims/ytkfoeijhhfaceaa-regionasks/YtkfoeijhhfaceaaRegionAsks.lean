/-
  RegionAsks is proved for every input: which rows may be, the row of all blocks, how many a row has, what is in it and its greatest extent are as the document says; no condition.
-/
import Derived.Test.YtkfoeijhhfaceaaPart14
namespace Go.Proofs.Ytkfoeijhhfaceaa.regionAsks
open Go.ChangeShapes Go.WideShapes Go.ChangeAt Go.RowKit

theorem own : ownKnob Try.prog.godebug = none := by kernel_rfl

set_option maxHeartbeats 6400000 in
set_option maxRecDepth 100000 in
theorem walk (b : Int) (_ : (Lit.int .i64 b).wf = true) (a : Option Addr) (cap : Nat) (l0 : List Ext) (e0 e1 : Int) (hf0 : (Lit.int .i64 e0).wf = true) (_ : (Lit.int .i64 e1).wf = true) (w : World) (hr : Rx w a cap l0) :
    Calls Try.prog 3 #[.int .i64 b, .slice a l0.length cap, .agg #[.int .i64 e0, .int .i64 e1]] w fun e w' => e = .returned (.bool true) ∧ Below w.heap.size w w' := by
  have hB0 := bel_alloc w (.cells #[.int .i64 e0, .int .i64 e1] 24)
  have HXE : Hid (Xb (w.alloc (.cells #[.int .i64 e0, .int .i64 e1] 24)) w.heap.size (e0, e1)) := heap_new w _
  have HC1 := hid (few_any a cap l0 (w.alloc (.cells #[.int .i64 e0, .int .i64 e1] 24)) (hr.later hB0))
  have hr1 := hr.take 5000
  have HB0 := hid hB0
  generalize l0.take 5000 = l at *
  have HR := hid hr1
  generalize l0.length = L0 at *
  have HA : Hid (∀ W, Calls Try.prog 10 #[.int .i64 b] W (RwPost (otherO b []) W)) := fun W => all_word b W
  have HA2 : Hid (∀ W, Calls Try.prog 11 #[.int .i64 b] W (RwPost (otherO b []) W)) := fun W => rall_word b W
  unfold RwPost at HA HA2
  have HSM : Hid (∀ W, Below w.heap.size w W → Calls Try.prog 12 #[.slice a l.length cap] W fun e w' => e = .returned (.tuple #[.int .i64 (sumO l).1, .int .i64 (sumO l).2]) ∧ Below W.heap.size W w') := fun W hW => sum_word a cap l W (HR.out.later hW)
  have HSR : Hid (∀ W, Below w.heap.size w W → Calls Try.prog 13 #[.slice a l.length cap] W fun e w' => e = .returned (.tuple #[.int .i64 (sumO l).1, .int .i64 (sumO l).2]) ∧ Below W.heap.size W w') := fun W hW => rsum_word a cap l W (HR.out.later hW)
  have HCK : Hid (∀ W, Below w.heap.size w W → Calls Try.prog 14 #[.int .i64 b, .slice a l.length cap] W fun e w' => e = .returned (.int .i64 (chkO b l)) ∧ Below W.heap.size W w') := fun W hW => check_any b a cap l W (HR.out.later hW)
  have HCR : Hid (∀ W, Below w.heap.size w W → Calls Try.prog 15 #[.int .i64 b, .slice a l.length cap] W fun e w' => e = .returned (.int .i64 (chkO b l)) ∧ Below W.heap.size W w') := fun W hW => rcheck_any b a cap l W (HR.out.later hW)
  have HH : Hid (∀ W, Below w.heap.size w W → Calls Try.prog 17 #[.slice a l.length cap, .agg #[.int .i64 e0, .int .i64 e1]] W fun e w' => e = .returned (.bool (hasO l (e0, e1))) ∧ Below W.heap.size W w') := fun W hW => has_word a cap l e0 e1 W (HR.out.later hW) hf0
  have HHR : Hid (∀ W, Below w.heap.size w W → Calls Try.prog 18 #[.slice a l.length cap, .agg #[.int .i64 e0, .int .i64 e1]] W fun e w' => e = .returned (.bool (hasO l (e0, e1))) ∧ Below W.heap.size W w') := fun W hW => rhas_word a cap l e0 e1 W (HR.out.later hW) hf0
  have HGT : Hid (∀ W, Below w.heap.size w W → Calls Try.prog 19 #[.slice a l.length cap] W fun e w' => e = .returned (.agg (extV (grt l))) ∧ Below W.heap.size W w') := fun W hW => greatest_word a cap l W (HR.out.later hW)
  have HGR : Hid (∀ W, Below w.heap.size w W → Calls Try.prog 20 #[.slice a l.length cap] W fun e w' => e = .returned (.agg (extV (grt l))) ∧ Below W.heap.size W w') := fun W hW => rgreatest_word a cap l W (HR.out.later hW)
  have HFT : Hid (Fit (otherO b []).1) := by
    show Fit _
    unfold otherO
    by_cases h : chkO b [] ≠ 0
    · rw [if_pos h]; exact fun x hx => by cases hx
    · rw [if_neg h]; exact row_fit (btw_ok (chk_row (Decidable.not_not.1 h))).1
  have HAW : Hid (∀ W, Calls Try.prog 21 #[] W fun e w' => e = .returned (.bool true) ∧ Below W.heap.size W w') := awake_any
  clear hr hr1 hB0 hf0 HR
  generalize otherO b [] = o at *
  obtain ⟨ol, oe⟩ := o
  generalize sumO l = q at *
  obtain ⟨q1, q2⟩ := q
  generalize chkO b l = c at *
  generalize hasO l (e0, e1) = ho at *
  generalize grt l = gt at *
  obtain ⟨g1, g2⟩ := gt
  unfold extV at HGT HGR
  dsimp only at *
  generalize l.length = L at *
  have e1' : (c == c) = true := by simp
  have e2' : (oe == oe) = true := by simp
  have e3' : (q1 == q1) = true := by simp
  have e4' : (q2 == q2) = true := by simp
  have e5' : (ho == ho) = true := by simp
  have heq : ∀ W, (binOp .eql 24 (.agg #[.int .i64 g1, .int .i64 g2]) (.agg #[.int .i64 g1, .int .i64 g2])).run Try.prog W = .ok (.bool true) W := fun W => by rw [run_eql24]; simp
  go_enter Try.func3, Try.ntmps3
  go_wp2_with fail
  refine HC1.out.mono ?_
  rintro _ w0 ⟨rfl, hw⟩
  obtain rfl := hw.symm
  clear hw HC1
  go_wp2_with fail
  refine (HA.out _).mono ?_
  rintro _ w1 ⟨va, rfl, hown1, hb1⟩
  have HB1 := hid (Bn HB0.out hb1)
  have HO1 := hid hown1
  have HX1 := hid (HXE.out.later hb1)
  clear hb1 hown1 HXE HB0 HA
  go_wp2_with fail
  refine (HA2.out _).mono ?_
  rintro _ w2 ⟨vb, rfl, hown2, hb2⟩
  have HB2 := hid (Bn HB1.out hb2)
  have HO2 := hid hown2
  have HO1b := hid (own_later HO1.out hb2)
  have HX2 := hid (HX1.out.later hb2)
  have HS1 := hid (HSM.out w2 HB2.out)
  clear hb2 hown2 HX1 HO1 HA2 HSM
  go_wp2_with fail
  refine HS1.out.mono ?_
  rintro _ w3 ⟨rfl, hb3⟩
  have HB3 := hid (Bn HB2.out hb3)
  have HO13 := hid (own_later HO1b.out hb3)
  have HO23 := hid (own_later HO2.out hb3)
  have HX3 := hid (HX2.out.later hb3)
  have HS2 := hid (HSR.out w3 HB3.out)
  clear hb3 HB1 HB2 HX2 HO1b HO2 HS1 HSR
  go_wp2_with fail
  refine HS2.out.mono ?_
  rintro _ w4 ⟨rfl, hb4⟩
  have HB4 := hid (Bn HB3.out hb4)
  obtain ⟨a1, c1, rfl, hx1⟩ := Rx.own (own_later HO13.out hb4) HFT.out
  obtain ⟨a2, c2, rfl, hx2⟩ := Rx.own (own_later HO23.out hb4) HFT.out
  have HX4 := hid (HX3.out.later hb4)
  have HSE : Hid (∀ V, Below w4.heap.size w4 V → Calls Try.prog 16 #[.slice a1 ol.length c1, .slice a2 ol.length c2] V fun e w' => e = .returned (.bool true) ∧ Below V.heap.size V w') := fun V hV => same_eq a1 c1 ol a2 c2 V (hx1.later hV) (hx2.later hV)
  have HXV : Hid (∀ V, Below w4.heap.size w4 V → V.cell? ⟨w.heap.size, 0, none⟩ = some (.int .i64 e0) ∧ V.cell? ⟨w.heap.size, 1, none⟩ = some (.int .i64 e1)) := fun V hV => (HX4.out.later hV).cells
  have HCK4 : Hid (∀ V, Below w4.heap.size w4 V → _) := fun V hV => HCK.out V (Bn HB4.out hV)
  have HCR4 : Hid (∀ V, Below w4.heap.size w4 V → _) := fun V hV => HCR.out V (Bn HB4.out hV)
  have HH4 : Hid (∀ V, Below w4.heap.size w4 V → _) := fun V hV => HH.out V (Bn HB4.out hV)
  have HHR4 : Hid (∀ V, Below w4.heap.size w4 V → _) := fun V hV => HHR.out V (Bn HB4.out hV)
  have HGT4 : Hid (∀ V, Below w4.heap.size w4 V → _) := fun V hV => HGT.out V (Bn HB4.out hV)
  have HGR4 : Hid (∀ V, Below w4.heap.size w4 V → _) := fun V hV => HGR.out V (Bn HB4.out hV)
  have HAW4 : Hid (∀ V, Below w4.heap.size w4 V → _) := fun V hV => HAW.out V
  clear hb4 HB3 HX3 HO13 HO23 HS2 hx1 hx2 HX4 HFT HCK HCR HH HHR HGT HGR HAW
  generalize ol.length = OL at *
  obtain ⟨s, hs⟩ : ∃ s, s = w.heap.size := ⟨_, rfl⟩
  rw [← hs] at HXV ⊢
  have HSS := hid hs
  clear hs
  go_wp2_with fail
  refine wp_region_held_drew (S := fun V => Below w4.heap.size w4 V) (by kernel_rfl) (Below.refl _ _).drew (fun hS0 => ?_)
  generalize w4.drew = v0 at *
  refine Ord.take (i := 0) (d := 37) (v := ?vA0) rfl rfl (by as_aux_lemma => kernel_rfl) (by as_aux_lemma => kernel_rfl) (by as_aux_lemma => kernel_rfl) (fun _ _ _ h => h) (by rfl) ?hA0 (by assumption) ?_
  case hA0 => intro w hSw; go_simp; try with_reducible rfl
  simp only [List.setIfInBounds_toArray, List.set_cons_zero, List.set_cons_succ]
  refine Ord.take (i := 1) (d := 38) (v := ?vA1) rfl rfl (by as_aux_lemma => kernel_rfl) (by as_aux_lemma => kernel_rfl) (by as_aux_lemma => kernel_rfl) (fun _ _ _ h => h) (by rfl) ?hA1 (by assumption) ?_
  case hA1 => intro w hSw; go_simp; try with_reducible rfl
  simp only [List.setIfInBounds_toArray, List.set_cons_zero, List.set_cons_succ]
  refine Ord.take (i := 3) (d := 40) (v := ?vA3) rfl rfl (by as_aux_lemma => kernel_rfl) (by as_aux_lemma => kernel_rfl) (by as_aux_lemma => kernel_rfl) (fun _ _ _ h => h) (by rfl) ?hA3 (by assumption) ?_
  case hA3 => intro w hSw; go_simp; try with_reducible rfl
  simp only [List.setIfInBounds_toArray, List.set_cons_zero, List.set_cons_succ]
  refine Ord.take (i := 4) (d := 41) (v := ?vA4) rfl rfl (by as_aux_lemma => kernel_rfl) (by as_aux_lemma => kernel_rfl) (by as_aux_lemma => kernel_rfl) (fun _ _ _ h => h) (by rfl) ?hA4 (by assumption) ?_
  case hA4 => intro w hSw; go_simp; try with_reducible rfl
  simp only [List.setIfInBounds_toArray, List.set_cons_zero, List.set_cons_succ]
  refine wpAnyH_ready (rs := [2]) (by as_aux_lemma => kernel_rfl) (by simp) (AllReadyH.cons rfl (fun K hK => ?_) AllReadyH.nil)
  go_simp
  refine (HCK4.out v0 hS0).mono ?_
  rintro _ v1 ⟨rfl, hb1⟩
  have hS1 := Bn hS0 hb1
  refine hK.out _ _ hS1 (fun _ => ?_)
  clear hK K hb1
  try simp only [List.setIfInBounds_toArray, List.set_cons_zero, List.set_cons_succ]
  refine wpAnyH_ready (rs := [5]) (by as_aux_lemma => kernel_rfl) (by simp) (AllReadyH.cons rfl (fun K hK => ?_) AllReadyH.nil)
  go_simp
  refine (HCR4.out v1 hS1).mono ?_
  rintro _ v2 ⟨rfl, hb2⟩
  have hS2 := Bn hS1 hb2
  refine hK.out _ _ hS2 (fun _ => ?_)
  clear hK K hb2
  try simp only [List.setIfInBounds_toArray, List.set_cons_zero, List.set_cons_succ]
  refine Ord.take (i := 6) (d := 43) (v := .bool true) rfl rfl (by as_aux_lemma => kernel_rfl) (by as_aux_lemma => kernel_rfl) (by as_aux_lemma => kernel_rfl) (fun _ _ _ h => h) (by rfl) ?hA6 (by assumption) ?_
  case hA6 => intro w hSw; go_simp; try with_reducible rfl
  simp only [List.setIfInBounds_toArray, List.set_cons_zero, List.set_cons_succ]
  refine Ord.take (i := 7) (d := 44) (v := ?vA7) rfl rfl (by as_aux_lemma => kernel_rfl) (by as_aux_lemma => kernel_rfl) (by as_aux_lemma => kernel_rfl) (fun _ _ _ h => h) (by rfl) ?hA7 (by assumption) ?_
  case hA7 => intro w hSw; go_simp; try with_reducible rfl
  simp only [List.setIfInBounds_toArray, List.set_cons_zero, List.set_cons_succ]
  refine Ord.take (i := 8) (d := 45) (v := ?vA8) rfl rfl (by as_aux_lemma => kernel_rfl) (by as_aux_lemma => kernel_rfl) (by as_aux_lemma => kernel_rfl) (fun _ _ _ h => h) (by rfl) ?hA8 (by assumption) ?_
  case hA8 => intro w hSw; go_simp; try with_reducible rfl
  simp only [List.setIfInBounds_toArray, List.set_cons_zero, List.set_cons_succ]
  refine Ord.take (i := 9) (d := 46) (v := ?vA9) rfl rfl (by as_aux_lemma => kernel_rfl) (by as_aux_lemma => kernel_rfl) (by as_aux_lemma => kernel_rfl) (fun _ _ _ h => h) (by rfl) ?hA9 (by assumption) ?_
  case hA9 => intro w hSw; go_simp; try with_reducible rfl
  simp only [List.setIfInBounds_toArray, List.set_cons_zero, List.set_cons_succ]
  refine wpAnyH_ready (rs := [10]) (by as_aux_lemma => kernel_rfl) (by simp) (AllReadyH.cons rfl (fun K hK => ?_) AllReadyH.nil)
  go_simp
  refine (HSE.out v2 hS2).mono ?_
  rintro _ v3 ⟨rfl, hb3⟩
  have hS3 := Bn hS2 hb3
  refine hK.out _ _ hS3 (fun _ => ?_)
  clear hK K hb3
  try simp only [List.setIfInBounds_toArray, List.set_cons_zero, List.set_cons_succ]
  refine Ord.take (i := 11) (d := 48) (v := ?vA11) rfl rfl (by as_aux_lemma => kernel_rfl) (by as_aux_lemma => kernel_rfl) (by as_aux_lemma => kernel_rfl) (fun _ _ _ h => h) (by rfl) ?hA11 (by assumption) ?_
  case hA11 => intro w hSw; go_simp; try with_reducible rfl
  simp only [List.setIfInBounds_toArray, List.set_cons_zero, List.set_cons_succ]
  refine Ord.take (i := 12) (d := 49) (v := ?vA12) rfl rfl (by as_aux_lemma => kernel_rfl) (by as_aux_lemma => kernel_rfl) (by as_aux_lemma => kernel_rfl) (fun _ _ _ h => h) (by rfl) ?hA12 (by assumption) ?_
  case hA12 => intro w hSw; go_simp; try with_reducible rfl
  simp only [List.setIfInBounds_toArray, List.set_cons_zero, List.set_cons_succ]
  refine Ord.take (i := 13) (d := 50) (v := ?vA13) rfl rfl (by as_aux_lemma => kernel_rfl) (by as_aux_lemma => kernel_rfl) (by as_aux_lemma => kernel_rfl) (fun _ _ _ h => h) (by rfl) ?hA13 (by assumption) ?_
  case hA13 => intro w hSw; go_simp; try with_reducible rfl
  simp only [List.setIfInBounds_toArray, List.set_cons_zero, List.set_cons_succ]
  refine Ord.take (i := 14) (d := 51) (v := ?vA14) rfl rfl (by as_aux_lemma => kernel_rfl) (by as_aux_lemma => kernel_rfl) (by as_aux_lemma => kernel_rfl) (fun _ _ _ h => h) (by rfl) ?hA14 (by assumption) ?_
  case hA14 => intro w hSw; go_simp; try with_reducible rfl
  simp only [List.setIfInBounds_toArray, List.set_cons_zero, List.set_cons_succ]
  refine Ord.take (i := 15) (d := 52) (v := .bool true) rfl rfl (by as_aux_lemma => kernel_rfl) (by as_aux_lemma => kernel_rfl) (by as_aux_lemma => kernel_rfl) (fun _ _ _ h => h) (by rfl) ?hA15 (by assumption) ?_
  case hA15 => intro w hSw; go_simp; try with_reducible rfl
  simp only [List.setIfInBounds_toArray, List.set_cons_zero, List.set_cons_succ]
  refine Ord.take (i := 16) (d := 53) (v := ?vA16) rfl rfl (by as_aux_lemma => kernel_rfl) (by as_aux_lemma => kernel_rfl) (by as_aux_lemma => kernel_rfl) (fun _ _ _ h => h) (by rfl) ?hA16 (by assumption) ?_
  case hA16 => intro w hSw; go_simp; try with_reducible rfl
  simp only [List.setIfInBounds_toArray, List.set_cons_zero, List.set_cons_succ]
  refine Ord.take (i := 17) (d := 54) (v := ?vA17) rfl rfl (by as_aux_lemma => kernel_rfl) (by as_aux_lemma => kernel_rfl) (by as_aux_lemma => kernel_rfl) (fun _ _ _ h => h) (by rfl) ?hA17 (by assumption) ?_
  case hA17 => intro w hSw; go_simp; try with_reducible rfl
  simp only [List.setIfInBounds_toArray, List.set_cons_zero, List.set_cons_succ]
  refine Ord.take (i := 18) (d := 55) (v := ?vA18) rfl rfl (by as_aux_lemma => kernel_rfl) (by as_aux_lemma => kernel_rfl) (by as_aux_lemma => kernel_rfl) (fun _ _ _ h => h) (by rfl) ?hA18 (by assumption) ?_
  case hA18 => intro w hSw; go_simp; try with_reducible rfl
  simp only [List.setIfInBounds_toArray, List.set_cons_zero, List.set_cons_succ]
  refine Ord.take (i := 19) (d := 56) (v := ?vA19) rfl rfl (by as_aux_lemma => kernel_rfl) (by as_aux_lemma => kernel_rfl) (by as_aux_lemma => kernel_rfl) (fun _ _ _ h => h) (by rfl) ?hA19 (by assumption) ?_
  case hA19 => intro w hSw; go_simp; try with_reducible rfl
  simp only [List.setIfInBounds_toArray, List.set_cons_zero, List.set_cons_succ]
  refine Ord.take (i := 20) (d := 57) (v := .bool true) rfl rfl (by as_aux_lemma => kernel_rfl) (by as_aux_lemma => kernel_rfl) (by as_aux_lemma => kernel_rfl) (fun _ _ _ h => h) (by rfl) ?hA20 (by assumption) ?_
  case hA20 => intro w hSw; go_simp; try with_reducible rfl
  simp only [List.setIfInBounds_toArray, List.set_cons_zero, List.set_cons_succ]
  refine Ord.take (i := 21) (d := 58) (v := ?vA21) rfl rfl (by as_aux_lemma => kernel_rfl) (by as_aux_lemma => kernel_rfl) (by as_aux_lemma => kernel_rfl) (fun _ _ _ h => h) (by rfl) ?hA21 (by assumption) ?_
  case hA21 => intro w hSw; go_simp; try with_reducible rfl
  simp only [List.setIfInBounds_toArray, List.set_cons_zero, List.set_cons_succ]
  refine Ord.take (i := 22) (d := 59) (v := ?vA22) rfl rfl (by as_aux_lemma => kernel_rfl) (by as_aux_lemma => kernel_rfl) (by as_aux_lemma => kernel_rfl) (fun _ _ _ h => h) (by rfl) ?hA22 (by assumption) ?_
  case hA22 => intro w hSw; go_simp; try with_reducible rfl
  simp only [List.setIfInBounds_toArray, List.set_cons_zero, List.set_cons_succ]
  refine Ord.take (i := 23) (d := 60) (v := ?vA23) rfl rfl (by as_aux_lemma => kernel_rfl) (by as_aux_lemma => kernel_rfl) (by as_aux_lemma => kernel_rfl) (fun _ _ _ h => h) (by rfl) ?hA23 (by assumption) ?_
  case hA23 => intro w hSw; go_simp; try with_reducible rfl
  simp only [List.setIfInBounds_toArray, List.set_cons_zero, List.set_cons_succ]
  refine Ord.take (i := 24) (d := 61) (v := ?vA24) rfl rfl (by as_aux_lemma => kernel_rfl) (by as_aux_lemma => kernel_rfl) (by as_aux_lemma => kernel_rfl) (fun _ _ _ h => h) (by rfl) ?hA24 (by assumption) ?_
  case hA24 => intro w hSw; go_simp; try with_reducible rfl
  simp only [List.setIfInBounds_toArray, List.set_cons_zero, List.set_cons_succ]
  refine Ord.take (i := 25) (d := 62) (v := .bool true) rfl rfl (by as_aux_lemma => kernel_rfl) (by as_aux_lemma => kernel_rfl) (by as_aux_lemma => kernel_rfl) (fun _ _ _ h => h) (by rfl) ?hA25 (by assumption) ?_
  case hA25 => intro w hSw; go_simp; try with_reducible rfl
  simp only [List.setIfInBounds_toArray, List.set_cons_zero, List.set_cons_succ]
  refine Ord.take (i := 26) (d := 63) (v := ?vA26) rfl rfl (by as_aux_lemma => kernel_rfl) (by as_aux_lemma => kernel_rfl) (by as_aux_lemma => kernel_rfl) (fun _ _ _ h => h) (by rfl) ?hA26 (by assumption) ?_
  case hA26 => intro w hSw; go_simp; try with_reducible rfl
  simp only [List.setIfInBounds_toArray, List.set_cons_zero, List.set_cons_succ]
  refine Ord.take (i := 27) (d := 64) (v := ?vA27) rfl rfl (by as_aux_lemma => kernel_rfl) (by as_aux_lemma => kernel_rfl) (by as_aux_lemma => kernel_rfl) (fun _ _ _ h => h) (by rfl) ?hA27 (by assumption) ?_
  case hA27 => intro w hSw; go_simp; try with_reducible rfl
  simp only [List.setIfInBounds_toArray, List.set_cons_zero, List.set_cons_succ]
  refine Ord.take (i := 28) (d := 65) (v := ?vA28) rfl rfl (by as_aux_lemma => kernel_rfl) (by as_aux_lemma => kernel_rfl) (by as_aux_lemma => kernel_rfl) (fun _ _ _ h => h) (by rfl) ?hA28 (by assumption) ?_
  case hA28 => intro w hSw; go_simp; try with_reducible rfl
  simp only [List.setIfInBounds_toArray, List.set_cons_zero, List.set_cons_succ]
  refine Ord.take (i := 29) (d := 66) (v := .agg #[.int .i64 e0, .int .i64 e1]) rfl rfl (by as_aux_lemma => kernel_rfl) (by as_aux_lemma => kernel_rfl) (by as_aux_lemma => kernel_rfl) (fun _ _ _ h => h) (by rfl) ?hA29 (by assumption) ?_
  case hA29 => intro w hSw; obtain ⟨e, e'⟩ := HXV.out w hSw; go_simp; try with_reducible rfl
  simp only [List.setIfInBounds_toArray, List.set_cons_zero, List.set_cons_succ]
  refine Ord.take (i := 31) (d := 68) (v := ?vA31) rfl rfl (by as_aux_lemma => kernel_rfl) (by as_aux_lemma => kernel_rfl) (by as_aux_lemma => kernel_rfl) (fun _ _ _ h => h) (by rfl) ?hA31 (by assumption) ?_
  case hA31 => intro w hSw; go_simp; try with_reducible rfl
  simp only [List.setIfInBounds_toArray, List.set_cons_zero, List.set_cons_succ]
  refine Ord.take (i := 32) (d := 69) (v := .agg #[.int .i64 e0, .int .i64 e1]) rfl rfl (by as_aux_lemma => kernel_rfl) (by as_aux_lemma => kernel_rfl) (by as_aux_lemma => kernel_rfl) (fun _ _ _ h => h) (by rfl) ?hA32 (by assumption) ?_
  case hA32 => intro w hSw; obtain ⟨e, e'⟩ := HXV.out w hSw; go_simp; try with_reducible rfl
  simp only [List.setIfInBounds_toArray, List.set_cons_zero, List.set_cons_succ]
  refine wpAnyH_ready (rs := [30]) (by as_aux_lemma => kernel_rfl) (by simp) (AllReadyH.cons rfl (fun K hK => ?_) AllReadyH.nil)
  go_simp
  refine (HH4.out v3 hS3).mono ?_
  rintro _ v4 ⟨rfl, hb4⟩
  have hS4 := Bn hS3 hb4
  refine hK.out _ _ hS4 (fun _ => ?_)
  clear hK K hb4
  try simp only [List.setIfInBounds_toArray, List.set_cons_zero, List.set_cons_succ]
  refine wpAnyH_ready (rs := [33]) (by as_aux_lemma => kernel_rfl) (by simp) (AllReadyH.cons rfl (fun K hK => ?_) AllReadyH.nil)
  go_simp
  refine (HHR4.out v4 hS4).mono ?_
  rintro _ v5 ⟨rfl, hb5⟩
  have hS5 := Bn hS4 hb5
  refine hK.out _ _ hS5 (fun _ => ?_)
  clear hK K hb5
  try simp only [List.setIfInBounds_toArray, List.set_cons_zero, List.set_cons_succ]
  refine Ord.take (i := 34) (d := 71) (v := .bool true) rfl rfl (by as_aux_lemma => kernel_rfl) (by as_aux_lemma => kernel_rfl) (by as_aux_lemma => kernel_rfl) (fun _ _ _ h => h) (by rfl) ?hA34 (by assumption) ?_
  case hA34 => intro w hSw; go_simp; try with_reducible rfl
  simp only [List.setIfInBounds_toArray, List.set_cons_zero, List.set_cons_succ]
  refine Ord.take (i := 35) (d := 72) (v := ?vA35) rfl rfl (by as_aux_lemma => kernel_rfl) (by as_aux_lemma => kernel_rfl) (by as_aux_lemma => kernel_rfl) (fun _ _ _ h => h) (by rfl) ?hA35 (by assumption) ?_
  case hA35 => intro w hSw; go_simp; try with_reducible rfl
  simp only [List.setIfInBounds_toArray, List.set_cons_zero, List.set_cons_succ]
  refine Ord.take (i := 36) (d := 73) (v := ?vA36) rfl rfl (by as_aux_lemma => kernel_rfl) (by as_aux_lemma => kernel_rfl) (by as_aux_lemma => kernel_rfl) (fun _ _ _ h => h) (by rfl) ?hA36 (by assumption) ?_
  case hA36 => intro w hSw; go_simp; try with_reducible rfl
  simp only [List.setIfInBounds_toArray, List.set_cons_zero, List.set_cons_succ]
  refine Ord.take (i := 37) (d := 74) (v := ?vA37) rfl rfl (by as_aux_lemma => kernel_rfl) (by as_aux_lemma => kernel_rfl) (by as_aux_lemma => kernel_rfl) (fun _ _ _ h => h) (by rfl) ?hA37 (by assumption) ?_
  case hA37 => intro w hSw; go_simp; try with_reducible rfl
  simp only [List.setIfInBounds_toArray, List.set_cons_zero, List.set_cons_succ]
  refine Ord.take (i := 39) (d := 76) (v := ?vA39) rfl rfl (by as_aux_lemma => kernel_rfl) (by as_aux_lemma => kernel_rfl) (by as_aux_lemma => kernel_rfl) (fun _ _ _ h => h) (by rfl) ?hA39 (by assumption) ?_
  case hA39 => intro w hSw; go_simp; try with_reducible rfl
  simp only [List.setIfInBounds_toArray, List.set_cons_zero, List.set_cons_succ]
  refine wpAnyH_ready (rs := [38]) (by as_aux_lemma => kernel_rfl) (by simp) (AllReadyH.cons rfl (fun K hK => ?_) AllReadyH.nil)
  go_simp
  refine (HGT4.out v5 hS5).mono ?_
  rintro _ v6 ⟨rfl, hb6⟩
  have hS6 := Bn hS5 hb6
  refine hK.out _ _ hS6 (fun _ => ?_)
  clear hK K hb6
  try simp only [List.setIfInBounds_toArray, List.set_cons_zero, List.set_cons_succ]
  refine wpAnyH_ready (rs := [40]) (by as_aux_lemma => kernel_rfl) (by simp) (AllReadyH.cons rfl (fun K hK => ?_) AllReadyH.nil)
  go_simp
  refine (HGR4.out v6 hS6).mono ?_
  rintro _ v7 ⟨rfl, hb7⟩
  have hS7 := Bn hS6 hb7
  refine hK.out _ _ hS7 (fun _ => ?_)
  clear hK K hb7
  try simp only [List.setIfInBounds_toArray, List.set_cons_zero, List.set_cons_succ]
  refine Ord.take (i := 41) (d := 78) (v := .bool true) rfl rfl (by as_aux_lemma => kernel_rfl) (by as_aux_lemma => kernel_rfl) (by as_aux_lemma => kernel_rfl) (fun _ _ _ h => h) (by rfl) ?hA41 (by assumption) ?_
  case hA41 => intro w hSw; go_simp; try with_reducible rfl
  simp only [List.setIfInBounds_toArray, List.set_cons_zero, List.set_cons_succ]
  refine Ord.take (i := 42) (d := 79) (v := ?vA42) rfl rfl (by as_aux_lemma => kernel_rfl) (by as_aux_lemma => kernel_rfl) (by as_aux_lemma => kernel_rfl) (fun _ _ _ h => h) (by rfl) ?hA42 (by assumption) ?_
  case hA42 => intro w hSw; go_simp; try with_reducible rfl
  simp only [List.setIfInBounds_toArray, List.set_cons_zero, List.set_cons_succ]
  refine Ord.take (i := 43) (d := 80) (v := ?vA43) rfl rfl (by as_aux_lemma => kernel_rfl) (by as_aux_lemma => kernel_rfl) (by as_aux_lemma => kernel_rfl) (fun _ _ _ h => h) (by rfl) ?hA43 (by assumption) ?_
  case hA43 => intro w hSw; go_simp; try with_reducible rfl
  simp only [List.setIfInBounds_toArray, List.set_cons_zero, List.set_cons_succ]
  refine wpAnyH_ready (rs := [44]) (by as_aux_lemma => kernel_rfl) (by simp) (AllReadyH.cons rfl (fun K hK => ?_) AllReadyH.nil)
  go_simp
  refine (HAW4.out v7 hS7).mono ?_
  rintro _ v8 ⟨rfl, hb8⟩
  have hS8 := Bn hS7 hb8
  refine hK.out _ _ hS8 (fun _ => ?_)
  clear hK K hb8
  try simp only [List.setIfInBounds_toArray, List.set_cons_zero, List.set_cons_succ]
  refine Ord.take (i := 45) (d := 82) (v := ?vA45) rfl rfl (by as_aux_lemma => kernel_rfl) (by as_aux_lemma => kernel_rfl) (by as_aux_lemma => kernel_rfl) (fun _ _ _ h => h) (by rfl) ?hA45 (by assumption) ?_
  case hA45 => intro w hSw; go_simp; try with_reducible rfl
  simp only [List.setIfInBounds_toArray, List.set_cons_zero, List.set_cons_succ]
  refine Ord.take (i := 46) (d := 6) (v := ?vA46) rfl rfl (by as_aux_lemma => kernel_rfl) (by as_aux_lemma => kernel_rfl) (by as_aux_lemma => kernel_rfl) (fun _ _ _ h => h) (by rfl) ?hA46 (by assumption) ?_
  case hA46 => intro w hSw; go_simp; try with_reducible rfl
  simp only [List.setIfInBounds_toArray, List.set_cons_zero, List.set_cons_succ]
  refine wpAnyH_done (by as_aux_lemma => kernel_rfl) ?_ _
  have HB9 := hid (Bn HB4.out hS8)
  go_wp2_with fail
  go_ret
  exact ⟨rfl, HB9.out⟩

set_option maxRecDepth 100000 in
theorem lifted (os : Os) (started : os.Started) (H : Type) (enc : TypeId × Value → H) :
    ReturnsInHanded {} Try.checked os 3 .any (Rows.regionAsksSpec.pre6 enc Try.prog Try.f3 Rows.regionAsksRow.domain false) (Rows.regionAsksSpec.post enc Try.prog Try.f3 false true false false) := by
  refine returnsInHanded_of_change (C := Try.checked) own started (by kernel_rfl) Try.func3
    (ChangeSpec.witness6 (enc := enc) (C := Try.checked) false ⟨#[], #[.int .i64 0, .slice none 0 0, .agg #[.int .i64 0, .int .i64 0]], []⟩ 8 (by kernel_rfl) (by kernel_rfl) (by kernel_rfl) (by kernel_rfl)) ?_
  intro W base args ds gs before hval0 hW _ _
  have hval : ∀ (j : Nat) t v, Try.f3.params[j]? = some t → args[j]? = some v → Value.okWide Try.prog W .any base t v := hval0
  have hW' := hW
  obtain ⟨p, q, hA0, hV, rfl, _, _⟩ := hW
  have hA : DataW.TrodAll enc Try.prog W 0 (fun _ => true) true Try.f3.params.toList args.toList ds p := hA0
  rw [Try.params3] at hA hval
  obtain ⟨v0, vs0, d0, ds0, p0, q0, hargs, rfl, rfl, h0, r0⟩ := trodAll_cons hA
  obtain ⟨v1, vs1, d1, ds1, p1, q1, rfl, rfl, rfl, h1, r1⟩ := trodAll_cons r0
  obtain ⟨v2, vs2, d2, ds2, p2, q2, rfl, rfl, rfl, h2, r2⟩ := trodAll_cons r1
  obtain ⟨rfl, rfl, rfl⟩ := trodAll_nil r2
  obtain rfl : args = #[v0, v1, v2] := by cases args; simp_all
  obtain ⟨rfl, rfl⟩ := trodVars_none hV
  obtain ⟨a0, rfl, rfl, rfl, w0⟩ := open_int Try.underlying3 (hval 0 3 v0 rfl rfl) h0
  clear hA0
  simp only [List.append_nil, List.nil_append] at hW'
  have hlt1 : ∀ x ∈ p1, x.block < W.heap.size := fun x hx => hW'.lt x (by simp [hx])
  have hk1 := h1
  obtain ⟨a1, cap1, l1, rfl, hr1⟩ := open_rx (hval 1 22 v1 rfl rfl) h1 hlt1
  have hlt2 : ∀ x ∈ p2, x.block < W.heap.size := fun x hx => hW'.lt x (by simp [hx])
  have hk2 := h2
  obtain ⟨⟨x2, y2⟩, rfl, f2, g2⟩ := open_ex (hval 2 24 v2 rfl rfl) h2
  clear hval0
  refine (walk a0 w0 a1 cap1 l1 x2 y2 f2 g2 W hr1).mono fun e W' ⟨he, hb⟩ => ?_
  subst he
  exact ⟨_, rfl, _, _, _, [] ++ [], _, [], hW', trodAll_cons_mk (shut_bool Try.underlying4 _) trodAll_mk0, (trodAll_cons_mk (shut_int Try.underlying3 w0) (trodAll_cons_mk (Below.trod Try.laidOut (by kernel_rfl) (of_decide_eq_true (by kernel_rfl)) hk1 hb hlt1) (trodAll_cons_mk (Below.trod Try.laidOut (by kernel_rfl) (of_decide_eq_true (by kernel_rfl)) hk2 hb hlt2) trodAll_mk0))), rfl, hb.frame _, fun h => by cases h⟩

theorem over : Rows.regionAsksRow.holds Try.pinned (OpenSpec.ofChange Rows.regionAsksSpec) :=
  OpenClaim.holds_of_wide 3 Try.f3 rfl rfl rfl rfl rfl rfl rfl ⟨rfl, rfl, rfl, rfl, rfl⟩ rfl rfl rfl rfl rfl (by kernel_rfl) Try.func3 (by kernel_rfl)
    (of_decide_eq_true (by kernel_rfl)) (by unfold Func.isWrapper; first | (rw [if_pos (by decide +kernel)]; kernel_rfl) | (rw [if_neg (by decide +kernel)]; exact ⟨rfl, rfl⟩))
    (fun os started H enc _ => lifted os started H enc)

end Go.Proofs.Ytkfoeijhhfaceaa.regionAsks
namespace Go.Proofs.Ytkfoeijhhfaceaa
theorem regionAsks_holds : Rows.RegionAsksSaid := regionAsks.over
#print axioms regionAsks_holds
end Go.Proofs.Ytkfoeijhhfaceaa
