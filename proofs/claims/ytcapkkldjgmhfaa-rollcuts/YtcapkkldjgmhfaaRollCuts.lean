/-
  RollCuts is proved for every input: the chunk that begins any bytes and all chunks of them are as the document says; no condition.
-/
import Derived.Test.YtcapkkldjgmhfaaPart03
namespace Go.Proofs.Ytcapkkldjgmhfaa.rollCuts
open Go.ChangeShapes Go.WideShapes Go.ChangeAt Go.RowKit

theorem own : ownKnob Try.prog.godebug = none := by kernel_rfl

set_option maxHeartbeats 6400000 in
set_option maxRecDepth 100000 in
theorem walk_cut (l m b : Int) (a : Option Addr) (cap : Nat) (zs : List Int) (w : World) (hr : Ri w .u8 a cap zs) (hl : zs.length ≤ 1048576) :
    Calls Try.prog 4 #[.agg #[.int .i64 l, .int .i64 m, .int .i64 b], .slice a zs.length cap] w fun e w' => e = .returned (.bool true) ∧ Below w.heap.size w w' := by
  have hlz : (zs.length : Int) ≤ 1048576 := by omega
  have C1 : Hid (∀ W, Below w.heap.size w W → Calls Try.prog 9 #[.slice a zs.length cap] W fun e w' => e = .returned (.slice a (zs.take 8192).length cap) ∧ w' = W) := fun W hW => cut_any a cap zs W (hr.later hW)
  have r1 := hr.take 8192
  have hbl : (zs.take 8192).length ≤ 8192 := List.length_take_le _ _
  generalize zs.take 8192 = bs at *
  clear hr
  have HN1 : Hid (∀ W, Below w.heap.size w W → Calls Try.prog 17 #[.agg #[.int .i64 l, .int .i64 m, .int .i64 b], .slice a bs.length cap] W (NxtPost l m b bs W)) := fun W hW => nextO_word l m b a cap bs W (r1.later hW)
  have HN2 : Hid (∀ W, Below w.heap.size w W → Calls Try.prog 18 #[.agg #[.int .i64 l, .int .i64 m, .int .i64 b], .slice a bs.length cap] W (NxtPost l m b bs W)) := fun W hW => nextO_ref l m b a cap bs W (r1.later hW)
  have HC1 : Hid (∀ W, Below w.heap.size w W → Calls Try.prog 19 #[.agg #[.int .i64 l, .int .i64 m, .int .i64 b], .slice a bs.length cap] W (CutPost l m b bs W)) := fun W hW => cuts_word l m b a cap bs W (r1.later hW)
  have HC2 : Hid (∀ W, Below w.heap.size w W → Calls Try.prog 20 #[.agg #[.int .i64 l, .int .i64 m, .int .i64 b], .slice a bs.length cap] W (CutPost l m b bs W)) := fun W hW => cuts_ref l m b a cap bs W (r1.later hW)
  unfold NxtPost at HN1 HN2
  unfold CutPost at HC1 HC2
  have HFT := hid (cutO_fits l m b bs (by have := r1.room; have := r1.most; omega))
  have HXL : Hid ((cutO l m b bs).1.length ≤ 9223372036854775806) := by
    show _ ≤ _
    unfold cutO
    split
    · simp
    · split
      · simp
      · have := parts_len l m b bs.length 0 bs; dsimp only; rw [cutsL, List.length_map]; omega
  generalize nxtO l m b bs = o at *
  obtain ⟨o1, o2, o3⟩ := o
  generalize cutO l m b bs = q at *
  obtain ⟨X, q2⟩ := q
  dsimp only at *
  have e1 : (o1 != o1) = false := by simp
  have e2 : (o2 != o2) = false := by simp
  have e3 : (o3 != o3) = false := by simp
  have e4 : (q2 != q2) = false := by simp
  have hb0 := bel_alloc w (.cells #[.int .i64 l, .int .i64 m, .int .i64 b] 23)
  have HE0 := hid (heap_new w (.cells #[.int .i64 l, .int .i64 m, .int .i64 b] 23))
  clear r1 hbl
  generalize zs.length = L0 at *
  generalize bs.length = L at *
  have HB0 := hid hb0
  have cb0 := Joins.cell_of_block HE0.out 0
  have cb1 := Joins.cell_of_block HE0.out 1
  have cb2 := Joins.cell_of_block HE0.out 2
  simp only [List.getElem?_toArray, List.getElem?_cons_zero, List.getElem?_cons_succ] at cb0 cb1 cb2
  clear hb0
  go_enter Try.func4, Try.ntmps4
  go_wp2_with fail
  refine (C1.out _ HB0.out).mono ?_
  rintro _ w0 ⟨rfl, hw⟩
  obtain rfl := hw.symm
  clear hw C1
  go_wp2_with fail
  refine (HN1.out _ HB0.out).mono ?_
  rintro _ w1 ⟨rfl, hb1⟩
  have HB1 := hid (Bn HB0.out hb1)
  have HE1 := hid ((hb1.block w.heap.size (Array.getElem?_eq_some_iff.1 HE0.out).1).trans HE0.out)
  clear cb0 cb1 cb2
  clear hb1 HN1 HB0
  have cb0 := Joins.cell_of_block HE1.out 0
  have cb1 := Joins.cell_of_block HE1.out 1
  have cb2 := Joins.cell_of_block HE1.out 2
  simp only [List.getElem?_toArray, List.getElem?_cons_zero, List.getElem?_cons_succ] at cb0 cb1 cb2
  go_wp2_with fail
  refine (HN2.out _ HB1.out).mono ?_
  rintro _ w2 ⟨rfl, hb2⟩
  have HB2 := hid (Bn HB1.out hb2)
  have HE2 := hid ((hb2.block w.heap.size (Array.getElem?_eq_some_iff.1 HE1.out).1).trans HE1.out)
  clear cb0 cb1 cb2
  clear hb2 HN2 HB1
  have cb0 := Joins.cell_of_block HE2.out 0
  have cb1 := Joins.cell_of_block HE2.out 1
  have cb2 := Joins.cell_of_block HE2.out 2
  simp only [List.getElem?_toArray, List.getElem?_cons_zero, List.getElem?_cons_succ] at cb0 cb1 cb2
  go_wp2_with fail
  refine (HC1.out _ HB2.out).mono ?_
  rintro _ w3 ⟨v3, rfl, hown3, hb3⟩
  have HB3 := hid (Bn HB2.out hb3)
  have HE3 := hid ((hb3.block w.heap.size (Array.getElem?_eq_some_iff.1 HE2.out).1).trans HE2.out)
  clear cb0 cb1 cb2
  obtain ⟨a3, c3, rfl, h3⟩ := Ri.own hown3 HFT.out
  have HR3 := hid h3
  clear h3 hown3
  clear hb3 HC1 HB2
  have cb0 := Joins.cell_of_block HE3.out 0
  have cb1 := Joins.cell_of_block HE3.out 1
  have cb2 := Joins.cell_of_block HE3.out 2
  simp only [List.getElem?_toArray, List.getElem?_cons_zero, List.getElem?_cons_succ] at cb0 cb1 cb2
  go_wp2_with fail
  refine (HC2.out _ HB3.out).mono ?_
  rintro _ w4 ⟨v4, rfl, hown4, hb4⟩
  have HB4 := hid (Bn HB3.out hb4)
  have HE4 := hid ((hb4.block w.heap.size (Array.getElem?_eq_some_iff.1 HE3.out).1).trans HE3.out)
  clear cb0 cb1 cb2
  obtain ⟨a4, c4, rfl, h4⟩ := Ri.own hown4 HFT.out
  have HR4 := hid h4
  have HR3' := hid (HR3.out.later hb4)
  clear h4 hown4 HR3
  clear hb4 HC2 HB3
  clear HE0 HE1 HE2 HE3 HE4
  obtain ⟨n, hn⟩ : ∃ n, n = X.length := ⟨_, rfl⟩
  have HN := hid hn
  rw [← hn] at HXL ⊢
  have hnx := HXL.out
  have e5 : ((n : Int) != (n : Int)) = false := by simp
  clear hn
  go_wp2_with fail
  go_loopw [15] (fun y wr => ∃ k : Nat, k ≤ n ∧ y = .int .i64 (k : Int) ∧ Hid (Below w4.heap.size w4 wr)) (fun y _ => n - (intOf y).toNat)
  case atStart => exact ⟨0, Nat.zero_le _, rfl, Below.refl _ _⟩
  case round =>
    obtain ⟨k, hk, rfl, HBK⟩ := hrel
    by_cases hlt : k < n
    · obtain ⟨g3, o3', ha3, _, hc3⟩ := (HR3'.out.later HBK.out).cells (by rw [← HN.out]; omega)
      obtain ⟨g4, o4', ha4, _, hc4⟩ := (HR4.out.later HBK.out).cells (by rw [← HN.out]; omega)
      have q3 := hc3 k (by rw [← HN.out]; exact hlt)
      have q4 := hc4 k (by rw [← HN.out]; exact hlt)
      have hki : (k : Int) < (n : Int) := by omega
      have hw1 : IntKind.i64.wrap ((k : Int) + 1) = (k : Int) + 1 := IntWalk.i64_in _ ⟨by omega, by omega⟩
      generalize X.getD k 0 = z at *
      have ez : (z != z) = false := by simp
      subst ha3 ha4
      clear hc3 hc4
      go_wp2_with fail
      refine wp_region_quiet_lit (by kernel_rfl) (by kernel_rfl) ?_
      repeat (go_big_quiet_step (fail))
      refine wpQuiet_nil ?_
      intro _ hw'
      obtain ⟨nq, hw''⟩ := hw'
      subst hw''
      have HBQ := hid (bel_drewN HBK.out nq)
      clear q3 q4 HBK
      generalize wr.drewN nq = wq at *
      go_wp2_with fail
      exact ⟨⟨k + 1, hlt, by go_num, HBQ.out⟩, by simp only [intOf]; omega⟩
    · have hkn : k = n := by omega
      have hki : ¬ (k : Int) < (n : Int) := by omega
      subst hkn
      go_wp2_with fail
      refine (awake_any _).mono ?_
      rintro _ w6 ⟨rfl, hb6⟩
      have HB6 := hid (Bn (Bn HB4.out HBK.out) hb6)
      clear hb6
      go_wp2_with fail
      go_ret
      exact ⟨rfl, HB6.out⟩

set_option maxHeartbeats 6400000 in
set_option maxRecDepth 100000 in
theorem walk_long (l m b : Int) (a : Option Addr) (cap : Nat) (zs : List Int) (w : World) (hr : Ri w .u8 a cap zs) (hl : 1048576 < zs.length) :
    Calls Try.prog 4 #[.agg #[.int .i64 l, .int .i64 m, .int .i64 b], .slice a zs.length cap] w fun e w' => e = .returned (.bool true) ∧ Below w.heap.size w w' := by
  have hlz : ¬ (zs.length : Int) ≤ 1048576 := by omega
  have r1 := hr
  have hbl : zs.length ≤ 9223372036854775807 := by have := hr.room; have := hr.most; unfold maxLen at *; omega
  obtain ⟨bs, hbs⟩ : ∃ bs, bs = zs := ⟨_, rfl⟩
  rw [← hbs] at r1 hlz hbl ⊢
  clear hr hl hbs
  have HN1 : Hid (∀ W, Below w.heap.size w W → Calls Try.prog 17 #[.agg #[.int .i64 l, .int .i64 m, .int .i64 b], .slice a bs.length cap] W (NxtPost l m b bs W)) := fun W hW => nextO_word l m b a cap bs W (r1.later hW)
  have HN2 : Hid (∀ W, Below w.heap.size w W → Calls Try.prog 18 #[.agg #[.int .i64 l, .int .i64 m, .int .i64 b], .slice a bs.length cap] W (NxtPost l m b bs W)) := fun W hW => nextO_ref l m b a cap bs W (r1.later hW)
  have HC1 : Hid (∀ W, Below w.heap.size w W → Calls Try.prog 19 #[.agg #[.int .i64 l, .int .i64 m, .int .i64 b], .slice a bs.length cap] W (CutPost l m b bs W)) := fun W hW => cuts_word l m b a cap bs W (r1.later hW)
  have HC2 : Hid (∀ W, Below w.heap.size w W → Calls Try.prog 20 #[.agg #[.int .i64 l, .int .i64 m, .int .i64 b], .slice a bs.length cap] W (CutPost l m b bs W)) := fun W hW => cuts_ref l m b a cap bs W (r1.later hW)
  unfold NxtPost at HN1 HN2
  unfold CutPost at HC1 HC2
  have HFT := hid (cutO_fits l m b bs (by omega))
  have HXL : Hid ((cutO l m b bs).1.length ≤ 9223372036854775806) := by
    show _ ≤ _
    unfold cutO
    split
    · simp
    · split
      · simp
      · have := parts_len l m b bs.length 0 bs; rename_i hh; dsimp only; rw [cutsL, List.length_map]; omega
  generalize nxtO l m b bs = o at *
  obtain ⟨o1, o2, o3⟩ := o
  generalize cutO l m b bs = q at *
  obtain ⟨X, q2⟩ := q
  dsimp only at *
  have e1 : (o1 != o1) = false := by simp
  have e2 : (o2 != o2) = false := by simp
  have e3 : (o3 != o3) = false := by simp
  have e4 : (q2 != q2) = false := by simp
  have hb0 := bel_alloc w (.cells #[.int .i64 l, .int .i64 m, .int .i64 b] 23)
  have HE0 := hid (heap_new w (.cells #[.int .i64 l, .int .i64 m, .int .i64 b] 23))
  clear r1 hbl
  generalize bs.length = L at *
  have HB0 := hid hb0
  have cb0 := Joins.cell_of_block HE0.out 0
  have cb1 := Joins.cell_of_block HE0.out 1
  have cb2 := Joins.cell_of_block HE0.out 2
  simp only [List.getElem?_toArray, List.getElem?_cons_zero, List.getElem?_cons_succ] at cb0 cb1 cb2
  clear hb0
  go_enter Try.func4, Try.ntmps4
  go_wp2_with fail
  refine (HN1.out _ HB0.out).mono ?_
  rintro _ w1 ⟨rfl, hb1⟩
  have HB1 := hid (Bn HB0.out hb1)
  have HE1 := hid ((hb1.block w.heap.size (Array.getElem?_eq_some_iff.1 HE0.out).1).trans HE0.out)
  clear cb0 cb1 cb2
  clear hb1 HN1 HB0
  have cb0 := Joins.cell_of_block HE1.out 0
  have cb1 := Joins.cell_of_block HE1.out 1
  have cb2 := Joins.cell_of_block HE1.out 2
  simp only [List.getElem?_toArray, List.getElem?_cons_zero, List.getElem?_cons_succ] at cb0 cb1 cb2
  go_wp2_with fail
  refine (HN2.out _ HB1.out).mono ?_
  rintro _ w2 ⟨rfl, hb2⟩
  have HB2 := hid (Bn HB1.out hb2)
  have HE2 := hid ((hb2.block w.heap.size (Array.getElem?_eq_some_iff.1 HE1.out).1).trans HE1.out)
  clear cb0 cb1 cb2
  clear hb2 HN2 HB1
  have cb0 := Joins.cell_of_block HE2.out 0
  have cb1 := Joins.cell_of_block HE2.out 1
  have cb2 := Joins.cell_of_block HE2.out 2
  simp only [List.getElem?_toArray, List.getElem?_cons_zero, List.getElem?_cons_succ] at cb0 cb1 cb2
  go_wp2_with fail
  refine (HC1.out _ HB2.out).mono ?_
  rintro _ w3 ⟨v3, rfl, hown3, hb3⟩
  have HB3 := hid (Bn HB2.out hb3)
  have HE3 := hid ((hb3.block w.heap.size (Array.getElem?_eq_some_iff.1 HE2.out).1).trans HE2.out)
  clear cb0 cb1 cb2
  obtain ⟨a3, c3, rfl, h3⟩ := Ri.own hown3 HFT.out
  have HR3 := hid h3
  clear h3 hown3
  clear hb3 HC1 HB2
  have cb0 := Joins.cell_of_block HE3.out 0
  have cb1 := Joins.cell_of_block HE3.out 1
  have cb2 := Joins.cell_of_block HE3.out 2
  simp only [List.getElem?_toArray, List.getElem?_cons_zero, List.getElem?_cons_succ] at cb0 cb1 cb2
  go_wp2_with fail
  refine (HC2.out _ HB3.out).mono ?_
  rintro _ w4 ⟨v4, rfl, hown4, hb4⟩
  have HB4 := hid (Bn HB3.out hb4)
  have HE4 := hid ((hb4.block w.heap.size (Array.getElem?_eq_some_iff.1 HE3.out).1).trans HE3.out)
  clear cb0 cb1 cb2
  obtain ⟨a4, c4, rfl, h4⟩ := Ri.own hown4 HFT.out
  have HR4 := hid h4
  have HR3' := hid (HR3.out.later hb4)
  clear h4 hown4 HR3
  clear hb4 HC2 HB3
  clear HE0 HE1 HE2 HE3 HE4
  obtain ⟨n, hn⟩ : ∃ n, n = X.length := ⟨_, rfl⟩
  have HN := hid hn
  rw [← hn] at HXL ⊢
  have hnx := HXL.out
  have e5 : ((n : Int) != (n : Int)) = false := by simp
  clear hn
  go_wp2_with fail
  go_loopw [15] (fun y wr => ∃ k : Nat, k ≤ n ∧ y = .int .i64 (k : Int) ∧ Hid (Below w4.heap.size w4 wr)) (fun y _ => n - (intOf y).toNat)
  case atStart => exact ⟨0, Nat.zero_le _, rfl, Below.refl _ _⟩
  case round =>
    obtain ⟨k, hk, rfl, HBK⟩ := hrel
    by_cases hlt : k < n
    · obtain ⟨g3, o3', ha3, _, hc3⟩ := (HR3'.out.later HBK.out).cells (by rw [← HN.out]; omega)
      obtain ⟨g4, o4', ha4, _, hc4⟩ := (HR4.out.later HBK.out).cells (by rw [← HN.out]; omega)
      have q3 := hc3 k (by rw [← HN.out]; exact hlt)
      have q4 := hc4 k (by rw [← HN.out]; exact hlt)
      have hki : (k : Int) < (n : Int) := by omega
      have hw1 : IntKind.i64.wrap ((k : Int) + 1) = (k : Int) + 1 := IntWalk.i64_in _ ⟨by omega, by omega⟩
      generalize X.getD k 0 = z at *
      have ez : (z != z) = false := by simp
      subst ha3 ha4
      clear hc3 hc4
      go_wp2_with fail
      refine wp_region_quiet_lit (by kernel_rfl) (by kernel_rfl) ?_
      repeat (go_big_quiet_step (fail))
      refine wpQuiet_nil ?_
      intro _ hw'
      obtain ⟨nq, hw''⟩ := hw'
      subst hw''
      have HBQ := hid (bel_drewN HBK.out nq)
      clear q3 q4 HBK
      generalize wr.drewN nq = wq at *
      go_wp2_with fail
      exact ⟨⟨k + 1, hlt, by go_num, HBQ.out⟩, by simp only [intOf]; omega⟩
    · have hkn : k = n := by omega
      have hki : ¬ (k : Int) < (n : Int) := by omega
      subst hkn
      go_wp2_with fail
      refine (awake_any _).mono ?_
      rintro _ w6 ⟨rfl, hb6⟩
      have HB6 := hid (Bn (Bn HB4.out HBK.out) hb6)
      clear hb6
      go_wp2_with fail
      go_ret
      exact ⟨rfl, HB6.out⟩

theorem walk (l m b : Int) (a : Option Addr) (cap : Nat) (zs : List Int) (w : World) (hr : Ri w .u8 a cap zs) :
    Calls Try.prog 4 #[.agg #[.int .i64 l, .int .i64 m, .int .i64 b], .slice a zs.length cap] w fun e w' => e = .returned (.bool true) ∧ Below w.heap.size w w' := by
  by_cases hl : zs.length ≤ 1048576
  · exact walk_cut l m b a cap zs w hr hl
  · exact walk_long l m b a cap zs w hr (by omega)

set_option maxRecDepth 100000 in
theorem lifted (os : Os) (started : os.Started) (H : Type) (enc : TypeId × Value → H) :
    ReturnsInHanded {} Try.checked os 4 .any (Rows.rollCutsSpec.pre6 enc Try.prog Try.f4 Rows.rollCutsRow.domain false) (Rows.rollCutsSpec.post enc Try.prog Try.f4 false true false false) := by
  refine returnsInHanded_of_change (C := Try.checked) own started (by kernel_rfl) Try.func4
    (ChangeSpec.witness6 (enc := enc) (C := Try.checked) false ⟨#[], #[.agg #[.int .i64 0, .int .i64 0, .int .i64 0], .slice none 0 0], []⟩ 8 (by kernel_rfl) (by kernel_rfl) (by kernel_rfl) (by kernel_rfl)) ?_
  intro W base args ds gs before hval0 hW _ _
  have hval : ∀ (j : Nat) t v, Try.f4.params[j]? = some t → args[j]? = some v → Value.okWide Try.prog W .any base t v := hval0
  have hW' := hW
  obtain ⟨p, q, hA0, hV, rfl, _, _⟩ := hW
  have hA : DataW.TrodAll enc Try.prog W 0 (fun _ => true) true Try.f4.params.toList args.toList ds p := hA0
  rw [Try.params4] at hA hval
  obtain ⟨v0, vs0, d0, ds0, p0, q0, hargs, rfl, rfl, h0, r0⟩ := trodAll_cons hA
  obtain ⟨v1, vs1, d1, ds1, p1, q1, rfl, rfl, rfl, h1, r1⟩ := trodAll_cons r0
  obtain ⟨rfl, rfl, rfl⟩ := trodAll_nil r1
  obtain rfl : args = #[v0, v1] := by cases args; simp_all
  obtain ⟨rfl, rfl⟩ := trodVars_none hV
  clear hA0
  simp only [List.append_nil] at hW'
  have hlt0 : ∀ x ∈ p0, x.block < W.heap.size := fun x hx => hW'.lt x (by simp [hx])
  have hk0 := h0
  obtain ⟨l0, m0, b0, rfl⟩ := open_conf (hval 0 23 v0 rfl rfl) h0
  have hlt1 : ∀ x ∈ p1, x.block < W.heap.size := fun x hx => hW'.lt x (by simp [hx])
  have hk1 := h1
  obtain ⟨a1, cap1, zs1, rfl, hr1⟩ := open_ri Try.underlying25 Try.underlying5 Try.cells5 (hval 1 25 v1 rfl rfl) h1 hlt1
  clear hval0
  refine (walk l0 m0 b0 a1 cap1 zs1 W hr1).mono fun e W' ⟨he, hb⟩ => ?_
  subst he
  exact ⟨_, rfl, _, _, _, [] ++ [], _, [], hW', trodAll_cons_mk (shut_bool Try.underlying4 _) trodAll_mk0, (trodAll_cons_mk (Below.trod Try.laidOut (by kernel_rfl) (of_decide_eq_true (by kernel_rfl)) hk0 hb hlt0) (trodAll_cons_mk (Below.trod Try.laidOut (by kernel_rfl) (of_decide_eq_true (by kernel_rfl)) hk1 hb hlt1) trodAll_mk0)), rfl, hb.frame _, fun h => by cases h⟩

theorem over : Rows.rollCutsRow.holds Try.pinned (OpenSpec.ofChange Rows.rollCutsSpec) :=
  OpenClaim.holds_of_wide 4 Try.f4 rfl rfl rfl rfl rfl rfl rfl ⟨rfl, rfl, rfl, rfl, rfl⟩ rfl rfl rfl rfl rfl (by kernel_rfl) Try.func4 (by kernel_rfl)
    (of_decide_eq_true (by kernel_rfl)) (by unfold Func.isWrapper; first | (rw [if_pos (by decide +kernel)]; kernel_rfl) | (rw [if_neg (by decide +kernel)]; exact ⟨rfl, rfl⟩))
    (fun os started H enc _ => lifted os started H enc)

end Go.Proofs.Ytcapkkldjgmhfaa.rollCuts
namespace Go.Proofs.Ytcapkkldjgmhfaa
theorem rollCuts_holds : Rows.RollCutsSaid := rollCuts.over
#print axioms rollCuts_holds
end Go.Proofs.Ytcapkkldjgmhfaa
