/-
  ShaSteps: for every state, every block and every number of bytes, Step's state, Pad's bytes and Start are the document's; where the program's tables are as its text lays them.
-/
import Derived.Test.YtkehhlbbnlnbcaaDoorArgs
namespace Go.Proofs.YtkehhlbbnlnbcaaDoor.shaSteps
open Go.ChangeShapes Go.WideShapes Go.ChangeAt Go.RowKit Sha

set_option maxHeartbeats 3200000 in
set_option maxRecDepth 100000 in
theorem walk (s : St) (bl : List Nat) (n : Nat) (W : World) (hl : Laid W) (hs : s.Ok) (hbl : bl.length = 64) (hb : ∀ j, bl.getD j 0 < 256) (hn : n < 2 ^ 64) :
    Calls Tryd.prog 4 #[.agg (arr .u32 s.list), .agg (arr .u8 bl), .int .u64 (n : Int)] W fun e w' => e = .returned (.bool true) ∧ Below W.heap.size W w' := by
  have b1 := bel_alloc W (.cells (arr .u32 s.list) 31)
  have e1 := heap_new W (.cells (arr .u32 s.list) 31)
  have s1 : (W.alloc (.cells (arr .u32 s.list) 31)).heap.size = W.heap.size + 1 := by simp
  have b2 := bel_alloc (W.alloc (.cells (arr .u32 s.list) 31)) (.cells (arr .u8 bl) 32)
  have e2 := heap_new (W.alloc (.cells (arr .u32 s.list) 31)) (.cells (arr .u8 bl) 32)
  have s2 : ((W.alloc (.cells (arr .u32 s.list) 31)).alloc (.cells (arr .u8 bl) 32)).heap.size = W.heap.size + 1 + 1 := by simp
  rw [s1] at e2
  have e1' : ((W.alloc (.cells (arr .u32 s.list) 31)).alloc (.cells (arr .u8 bl) 32)).heap[W.heap.size]? = some (.cells (arr .u32 s.list) 31 (0, 0)) := by rw [b2.block _ (by omega)]; exact e1
  have hB := Bn b1 b2
  have hl2 := hl.later hB
  have HB := hid hB
  clear b1 e1 s1 b2 hB
  have H13 := hid (fun (w : World) (h : Laid w) => step_word s bl w hs hbl hb h)
  have H14 := hid (fun w : World => step_ref s bl w hs hbl hb)
  have hq := eq31 (Sha.step s bl).list rfl
  have hq2 := eq31 Sha.start.list rfl
  have hg := guard31
  have H15 := hid (fun w : World => pad_word n w hn)
  have H16 := hid (fun w : World => pad_ref n w hn)
  have H17 := hid start_word
  have H18 := hid start_ref
  have H12 := hid alive_any
  have hpl := (pad_length n).2.1
  have HPT := hid (pad_lt n)
  generalize Sha.step s bl = r at *
  generalize pad n = pd at *
  go_enter Tryd.func4, Tryd.ntmps4
  go_wp2_with fail
  generalize hW0 : (W.alloc (.cells (arr .u32 s.list) 31)).alloc (.cells (arr .u8 bl) 32) = W0 at *
  clear hW0
  have hst : ∀ w : World, Below W0.heap.size W0 w → (Instr.loadAt 31 (.pointer (some ⟨W.heap.size, 0, none⟩))).run Tryd.prog w = .ok (.agg (arr .u32 s.list)) w := fun w h => load_whole (by rw [h.block _ (by omega)]; exact e1') Tryd.underlying31 rfl Tryd.size31
  have hbk : ∀ w : World, Below W0.heap.size W0 w → (Instr.loadAt 32 (.pointer (some ⟨W.heap.size + 1, 0, none⟩))).run Tryd.prog w = .ok (.agg (arr .u8 bl)) w := fun w h => load_whole (by rw [h.block _ (by omega)]; exact e2) Tryd.underlying32 rfl (by rw [hbl]; exact Tryd.size32)
  have HLD := hid (fun (w : World) (h : Below W0.heap.size W0 w) => hl2.later h)
  clear e1' e2 hl2 hl
  refine wp_region_held_drew (S := fun w' => Below W0.heap.size W0 w') (by as_aux_lemma => kernel_rfl) (Below.refl _ _).drew (fun hS => ?_)
  refine Ord.take (i := 0) (d := 7) (v := .agg (arr .u32 s.list)) rfl rfl (by as_aux_lemma => kernel_rfl) (by as_aux_lemma => kernel_rfl) (by as_aux_lemma => kernel_rfl) (fun _ _ _ h => h) (by rfl) ?h0 (by assumption) ?_
  case h0 => exact fun w hSw => run_load_op (p := .pointer (some ⟨W.heap.size, 0, none⟩)) rfl rfl (hst w hSw)
  simp only [List.setIfInBounds_toArray, List.set_cons_zero, List.set_cons_succ]
  refine Ord.take (i := 1) (d := 8) (v := .agg (arr .u8 bl)) rfl rfl (by as_aux_lemma => kernel_rfl) (by as_aux_lemma => kernel_rfl) (by as_aux_lemma => kernel_rfl) (fun _ _ _ h => h) (by rfl) ?h1 (by assumption) ?_
  case h1 => exact fun w hSw => run_load_op (p := .pointer (some ⟨W.heap.size + 1, 0, none⟩)) rfl rfl (hbk w hSw)
  simp only [List.setIfInBounds_toArray, List.set_cons_zero, List.set_cons_succ]
  refine Ord.take (i := 3) (d := 10) (v := .agg (arr .u32 s.list)) rfl rfl (by as_aux_lemma => kernel_rfl) (by as_aux_lemma => kernel_rfl) (by as_aux_lemma => kernel_rfl) (fun _ _ _ h => h) (by rfl) ?h3 (by assumption) ?_
  case h3 => exact fun w hSw => run_load_op (p := .pointer (some ⟨W.heap.size, 0, none⟩)) rfl rfl (hst w hSw)
  simp only [List.setIfInBounds_toArray, List.set_cons_zero, List.set_cons_succ]
  refine Ord.take (i := 4) (d := 11) (v := .agg (arr .u8 bl)) rfl rfl (by as_aux_lemma => kernel_rfl) (by as_aux_lemma => kernel_rfl) (by as_aux_lemma => kernel_rfl) (fun _ _ _ h => h) (by rfl) ?h4 (by assumption) ?_
  case h4 => exact fun w hSw => run_load_op (p := .pointer (some ⟨W.heap.size + 1, 0, none⟩)) rfl rfl (hbk w hSw)
  simp only [List.setIfInBounds_toArray, List.set_cons_zero, List.set_cons_succ]
  refine wpAnyH_ready (rs := [2]) (by as_aux_lemma => kernel_rfl) (by simp) (AllReadyH.cons rfl (fun K hK => ?_) AllReadyH.nil)
  go_simp
  refine (H13.out _ (HLD.out _ hS)).mono ?_
  rintro _ w1 ⟨rfl, hb1⟩
  have hS1 := Bn hS hb1
  refine hK.out _ _ hS1 (fun _ => ?_)
  clear hK K
  refine wpAnyH_ready (rs := [5]) (by as_aux_lemma => kernel_rfl) (by simp) (AllReadyH.cons rfl (fun K hK => ?_) AllReadyH.nil)
  go_simp
  refine (H14.out _).mono ?_
  rintro _ w2 ⟨rfl, hb2⟩
  have hS2 := Bn hS1 hb2
  refine hK.out _ _ hS2 (fun _ => ?_)
  clear hK K
  refine Ord.take (i := 6) (d := 13) (v := .bool true) rfl rfl (by as_aux_lemma => kernel_rfl) (by as_aux_lemma => kernel_rfl) (by as_aux_lemma => kernel_rfl) (fun _ _ _ h => h) (by rfl) ?h6 (by assumption) ?_
  case h6 => exact fun w _ => run_eql_op rfl rfl rfl hg (hq w)
  simp only [List.setIfInBounds_toArray, List.set_cons_zero, List.set_cons_succ]
  refine Ord.take (i := 7) (d := 14) (v := ?v7) rfl rfl (by as_aux_lemma => kernel_rfl) (by as_aux_lemma => kernel_rfl) (by as_aux_lemma => kernel_rfl) (fun _ _ _ h => h) (by rfl) ?h7 (by assumption) ?_
  case h7 => intro w hSw; go_simp; try with_reducible rfl
  simp only [List.setIfInBounds_toArray, List.set_cons_zero, List.set_cons_succ]
  refine Ord.take (i := 8) (d := 15) (v := ?v8) rfl rfl (by as_aux_lemma => kernel_rfl) (by as_aux_lemma => kernel_rfl) (by as_aux_lemma => kernel_rfl) (fun _ _ _ h => h) (by rfl) ?h8 (by assumption) ?_
  case h8 => intro w hSw; go_simp; try with_reducible rfl
  simp only [List.setIfInBounds_toArray, List.set_cons_zero, List.set_cons_succ]
  refine Ord.take (i := 11) (d := 18) (v := ?v11) rfl rfl (by as_aux_lemma => kernel_rfl) (by as_aux_lemma => kernel_rfl) (by as_aux_lemma => kernel_rfl) (fun _ _ _ h => h) (by rfl) ?h11 (by assumption) ?_
  case h11 => intro w hSw; go_simp; try with_reducible rfl
  simp only [List.setIfInBounds_toArray, List.set_cons_zero, List.set_cons_succ]
  refine wpAnyH_ready (rs := [9]) (by as_aux_lemma => kernel_rfl) (by simp) (AllReadyH.cons rfl (fun K hK => ?_) AllReadyH.nil)
  go_simp
  refine (H15.out _).mono ?_
  rintro _ w3 ⟨v3, rfl, hown3, hb3⟩
  obtain ⟨g3, c3, rfl, _, hrd3⟩ := rd_own hown3 (by omega) HPT.out
  have hS3 := Bn hS2 hb3
  refine hK.out _ _ hS3 (fun _ => ?_)
  refine Ord.more (S' := fun w' => Below W0.heap.size W0 w' ∧ Below w3.heap.size w3 w') (fun _ h => h.1) _ _ _ _ ?_
  have hP3 : Below W0.heap.size W0 w3 ∧ Below w3.heap.size w3 w3 := ⟨hS3, Below.refl _ _⟩
  clear hK K
  refine Ord.take (i := 10) (d := 17) (v := ?v10) rfl rfl (by as_aux_lemma => kernel_rfl) (by as_aux_lemma => kernel_rfl) (by as_aux_lemma => kernel_rfl) (fun _ _ _ h => h) (by rfl) ?h10 (by assumption) ?_
  case h10 => intro w hSw; have hh := hrd3.text w hSw.2; go_simp; try with_reducible rfl
  simp only [List.setIfInBounds_toArray, List.set_cons_zero, List.set_cons_succ]
  refine wpAnyH_ready (rs := [12]) (by as_aux_lemma => kernel_rfl) (by simp) (AllReadyH.cons rfl (fun K hK => ?_) AllReadyH.nil)
  go_simp
  refine (H16.out _).mono ?_
  rintro _ w4 ⟨v4, rfl, hown4, hb4⟩
  obtain ⟨g4, c4, rfl, _, hrd4⟩ := rd_own hown4 (by omega) HPT.out
  have hS4 := Bn hS3 hb4
  have hP4 : Below W0.heap.size W0 w4 ∧ Below w3.heap.size w3 w4 := ⟨hS4, hb4⟩
  refine hK.out _ _ hP4 (fun _ => ?_)
  refine Ord.more (S' := fun w' => (Below W0.heap.size W0 w' ∧ Below w3.heap.size w3 w') ∧ Below w4.heap.size w4 w') (fun _ h => h.1) _ _ _ _ ?_
  have hQ4 : (Below W0.heap.size W0 w4 ∧ Below w3.heap.size w3 w4) ∧ Below w4.heap.size w4 w4 := ⟨hP4, Below.refl _ _⟩
  clear hK K
  refine Ord.take (i := 13) (d := 20) (v := ?v13) rfl rfl (by as_aux_lemma => kernel_rfl) (by as_aux_lemma => kernel_rfl) (by as_aux_lemma => kernel_rfl) (fun _ _ _ h => h) (by rfl) ?h13 (by assumption) ?_
  case h13 => intro w hSw; have hh := hrd4.text w hSw.2; go_simp; try with_reducible rfl
  simp only [List.setIfInBounds_toArray, List.set_cons_zero, List.set_cons_succ]
  refine Ord.take (i := 14) (d := 21) (v := ?v14) rfl rfl (by as_aux_lemma => kernel_rfl) (by as_aux_lemma => kernel_rfl) (by as_aux_lemma => kernel_rfl) (fun _ _ _ h => h) (by rfl) ?h14 (by assumption) ?_
  case h14 => intro w hSw; go_simp; try with_reducible rfl
  simp only [List.setIfInBounds_toArray, List.set_cons_zero, List.set_cons_succ]
  refine Ord.take (i := 15) (d := 22) (v := ?v15) rfl rfl (by as_aux_lemma => kernel_rfl) (by as_aux_lemma => kernel_rfl) (by as_aux_lemma => kernel_rfl) (fun _ _ _ h => h) (by rfl) ?h15 (by assumption) ?_
  case h15 => intro w hSw; go_simp; try with_reducible rfl
  simp only [List.setIfInBounds_toArray, List.set_cons_zero, List.set_cons_succ]
  refine Ord.take (i := 16) (d := 23) (v := ?v16) rfl rfl (by as_aux_lemma => kernel_rfl) (by as_aux_lemma => kernel_rfl) (by as_aux_lemma => kernel_rfl) (fun _ _ _ h => h) (by rfl) ?h16 (by assumption) ?_
  case h16 => intro w hSw; go_simp; try with_reducible rfl
  simp only [List.setIfInBounds_toArray, List.set_cons_zero, List.set_cons_succ]
  refine wpAnyH_ready (rs := [17]) (by as_aux_lemma => kernel_rfl) (by simp) (AllReadyH.cons rfl (fun K hK => ?_) AllReadyH.nil)
  go_simp
  refine (H17.out _ (HLD.out _ hS4)).mono ?_
  rintro _ w5 ⟨rfl, hb5⟩
  have hS5 := Bn hS4 hb5
  have hQ5 : (Below W0.heap.size W0 w5 ∧ Below w3.heap.size w3 w5) ∧ Below w4.heap.size w4 w5 := ⟨⟨hS5, Bn hb4 hb5⟩, hb5⟩
  refine hK.out _ _ hQ5 (fun _ => ?_)
  clear hK K
  refine wpAnyH_ready (rs := [18]) (by as_aux_lemma => kernel_rfl) (by simp) (AllReadyH.cons rfl (fun K hK => ?_) AllReadyH.nil)
  go_simp
  refine (H18.out _).mono ?_
  rintro _ w6 ⟨rfl, hb6⟩
  have hS6 := Bn hS5 hb6
  have hQ6 : (Below W0.heap.size W0 w6 ∧ Below w3.heap.size w3 w6) ∧ Below w4.heap.size w4 w6 := ⟨⟨hS6, Bn (Bn hb4 hb5) hb6⟩, Bn hb5 hb6⟩
  refine hK.out _ _ hQ6 (fun _ => ?_)
  clear hK K
  refine Ord.take (i := 19) (d := 26) (v := .bool true) rfl rfl (by as_aux_lemma => kernel_rfl) (by as_aux_lemma => kernel_rfl) (by as_aux_lemma => kernel_rfl) (fun _ _ _ h => h) (by rfl) ?h19 (by assumption) ?_
  case h19 => exact fun w _ => run_eql_op rfl rfl rfl hg (hq2 w)
  simp only [List.setIfInBounds_toArray, List.set_cons_zero, List.set_cons_succ]
  refine Ord.take (i := 20) (d := 27) (v := ?v20) rfl rfl (by as_aux_lemma => kernel_rfl) (by as_aux_lemma => kernel_rfl) (by as_aux_lemma => kernel_rfl) (fun _ _ _ h => h) (by rfl) ?h20 (by assumption) ?_
  case h20 => intro w hSw; go_simp; try with_reducible rfl
  simp only [List.setIfInBounds_toArray, List.set_cons_zero, List.set_cons_succ]
  refine Ord.take (i := 21) (d := 28) (v := ?v21) rfl rfl (by as_aux_lemma => kernel_rfl) (by as_aux_lemma => kernel_rfl) (by as_aux_lemma => kernel_rfl) (fun _ _ _ h => h) (by rfl) ?h21 (by assumption) ?_
  case h21 => intro w hSw; go_simp; try with_reducible rfl
  simp only [List.setIfInBounds_toArray, List.set_cons_zero, List.set_cons_succ]
  refine wpAnyH_ready (rs := [22]) (by as_aux_lemma => kernel_rfl) (by simp) (AllReadyH.cons rfl (fun K hK => ?_) AllReadyH.nil)
  go_simp
  refine (H12.out _ (HLD.out _ hS6)).mono ?_
  rintro _ w7 ⟨rfl, hb7⟩
  have hS7 := Bn hS6 hb7
  have hQ7 : (Below W0.heap.size W0 w7 ∧ Below w3.heap.size w3 w7) ∧ Below w4.heap.size w4 w7 := ⟨⟨hS7, Bn (Bn (Bn hb4 hb5) hb6) hb7⟩, Bn (Bn hb5 hb6) hb7⟩
  refine hK.out _ _ hQ7 (fun _ => ?_)
  clear hK K
  refine Ord.take (i := 23) (d := 30) (v := ?v23) rfl rfl (by as_aux_lemma => kernel_rfl) (by as_aux_lemma => kernel_rfl) (by as_aux_lemma => kernel_rfl) (fun _ _ _ h => h) (by rfl) ?h23 (by assumption) ?_
  case h23 => intro w hSw; go_simp; try with_reducible rfl
  simp only [List.setIfInBounds_toArray, List.set_cons_zero, List.set_cons_succ]
  refine Ord.take (i := 24) (d := 6) (v := ?v24) rfl rfl (by as_aux_lemma => kernel_rfl) (by as_aux_lemma => kernel_rfl) (by as_aux_lemma => kernel_rfl) (fun _ _ _ h => h) (by rfl) ?h24 (by assumption) ?_
  case h24 => intro w hSw; go_simp; try with_reducible rfl
  simp only [List.setIfInBounds_toArray, List.set_cons_zero, List.set_cons_succ]
  refine wpAnyH_done (by as_aux_lemma => kernel_rfl) ?_ _
  have HE := hid (Bn HB.out hS7)
  clear hQ7 hQ6 hQ5 hQ4 hP4 hP3 hS7 hS6 hS5 hS4 hS3 hS2 hS1 hS hb1 hb2 hb3 hb4 hb5 hb6 hb7 hrd3 hrd4 hown3 hown4 hst hbk hq hq2
  go_wp2
  go_ret
  exact ⟨rfl, HE.out⟩

theorem st_of (l : List Nat) (h : l.length = 8) (hb : ∀ j, ((l.getD j 0 : Nat) : Int) ≤ IntKind.u32.max) : ∃ s : St, l = s.list ∧ s.Ok := by
  have hm : IntKind.u32.max = 4294967295 := rfl
  match l, h, hb with
  | [a, b, c, d, e, f, g, i], _, hb =>
    have k : ∀ j, ([a, b, c, d, e, f, g, i].getD j 0) < 2 ^ 32 := fun j => by have := hb j; omega
    exact ⟨⟨a, b, c, d, e, f, g, i⟩, rfl, ⟨k 0, k 1, k 2, k 3, k 4, k 5, k 6, k 7⟩⟩

set_option maxRecDepth 100000 in
theorem lifted (os : Os) (started : os.Started) (H : Type) (enc : TypeId × Value → H) :
    ReturnsInHanded {} Tryd.checked os 4 .any (fun w args => (Rows.shaStepsSpec.pre enc Tryd.prog Tryd.f4 [] false w args ∧ laidMetH Tryd.prog laidL w) ∧ sizedMet enc Tryd.prog Tryd.f4 (OpenSpec.ofChange Rows.shaStepsSpec) false w args)
      (Rows.shaStepsSpec.post enc Tryd.prog Tryd.f4 false true false false) := by
  refine returnsInHanded_of_change_and (C := Tryd.checked) (X := fun w _ => laidMetH Tryd.prog laidL w) (fun _ _ _ hh h => h.of_heap hh) own started (by kernel_rfl) Tryd.func4
    (ChangeSpec.witness_shaped (enc := enc) (C := Tryd.checked) (os := os) (X := fun w _ => laidMetH Tryd.prog laidL w) false (World.doorLaid Tryd.prog 400 os) #[.agg (arr .u32 (List.replicate 8 0)), .agg (arr .u8 (List.replicate 64 0)), .int .u64 0] 8 rfl (World.shaped_of_RefB (by kernel_rfl) (by kernel_rfl)) (by kernel_rfl) (by kernel_rfl) (by kernel_rfl) (door_met os _)) ?_
  intro W base args ds gs before hval0 hW _ _ hL _
  have hval : ∀ (j : Nat) t v, Tryd.f4.params[j]? = some t → args[j]? = some v → Value.okWide Tryd.prog W .any base t v := hval0
  have hW' := hW
  obtain ⟨p, q, hA0, hV, rfl, _, _⟩ := hW
  have hA : DataW.TrodAll enc Tryd.prog W 0 (fun _ => true) true Tryd.f4.params.toList args.toList ds p := hA0
  rw [Tryd.params4] at hA hval
  obtain ⟨v0, vs0, d0, ds0, p0, q0, hargs, rfl, rfl, h0, r0⟩ := trodAll_cons hA
  obtain ⟨v1, vs1, d1, ds1, p1, q1, rfl, rfl, rfl, h1, r1⟩ := trodAll_cons r0
  obtain ⟨v2, vs2, d2, ds2, p2, q2, rfl, rfl, rfl, h2, r2⟩ := trodAll_cons r1
  obtain ⟨rfl, rfl, rfl⟩ := trodAll_nil r2
  obtain rfl : args = #[v0, v1, v2] := by cases args; simp_all
  obtain ⟨rfl, rfl⟩ := trodVars_none hV
  have hlaid := of_laid hL
  have hk0 := h0
  obtain ⟨l0, rfl, hl0, rfl, hb0⟩ := open_arr Tryd.underlying31 Tryd.underlying30 Tryd.cells30 Tryd.cells31 rfl (hval 0 31 v0 rfl rfl) h0
  have hk1 := h1
  obtain ⟨l1, rfl, hl1, rfl, hb1⟩ := open_arr Tryd.underlying32 Tryd.underlying5 Tryd.cells5 Tryd.cells32 rfl (hval 1 32 v1 rfl rfl) h1
  obtain ⟨a2, rfl, rfl, rfl, w2⟩ := open_int Tryd.underlying33 (hval 2 33 v2 rfl rfl) h2
  clear hA0
  try simp only [List.append_nil] at hW'
  clear hval0
  obtain ⟨s, rfl, hsok⟩ := st_of l0 hl0 hb0
  have hm8 : IntKind.u8.max = 255 := rfl
  have hb1' : ∀ j, l1.getD j 0 < 256 := fun j => by have := hb1 j; omega
  have hn2 := wf_u64 w2
  obtain ⟨n2, rfl⟩ := Int.eq_ofNat_of_zero_le hn2.1
  refine (walk s l1 n2 W hlaid hsok hl1 hb1' (by omega)).mono fun e W' ⟨he, hb⟩ => ?_
  subst he
  exact ⟨_, rfl, _, _, _, [] ++ [], _, [], hW', trodAll_cons_mk (shut_bool Tryd.underlying4 _) trodAll_mk0, (trodAll_cons_mk (Below.trod Tryd.laidOut (by kernel_rfl) (of_decide_eq_true (by kernel_rfl)) hk0 hb (fun _ h => by cases h)) (trodAll_cons_mk (Below.trod Tryd.laidOut (by kernel_rfl) (of_decide_eq_true (by kernel_rfl)) hk1 hb (fun _ h => by cases h)) (trodAll_cons_mk (shut_int Tryd.underlying33 w2) trodAll_mk0))), rfl, hb.frame _, fun h => by cases h⟩

theorem over : Rows.shaStepsRow.holds Tryd.pinned (OpenSpec.ofChange Rows.shaStepsSpec) :=
  OpenClaim.holds_of_wide 4 Tryd.f4 rfl rfl rfl rfl rfl rfl rfl ⟨rfl, rfl, rfl, rfl, rfl⟩ rfl rfl rfl rfl rfl (by kernel_rfl) Tryd.func4 (by kernel_rfl)
    (of_decide_eq_true (by kernel_rfl)) (by unfold Func.isWrapper; first | (rw [if_pos (by decide +kernel)]; kernel_rfl) | (rw [if_neg (by decide +kernel)]; exact ⟨rfl, rfl⟩))
    (fun os started H enc _ => lifted os started H enc)

theorem card : Rows.ShaStepsCardSaid :=
  Claim7.holds_tied_plain_at .later [] [.data, .data] true (true, "6c6f4a323530e6db23c53d62cf6eb094d8017c5b4fd6273f756ed505cd0c3c11") false
    over (fun _ h => by cases h) (by kernel_rfl) (fun _ h => by cases h) shaSteps_row_tie rfl ⟨rfl, rfl⟩ (by kernel_rfl) rfl
    (fun f fn hf hfn => by
      obtain rfl : f = 4 := Option.some.inj ((show Tryd.prog.funcNamed "saltern/salternlaw03.ShaSteps" = some 4 by kernel_rfl).symm.trans hf) |>.symm
      obtain rfl : fn = Tryd.f4 := (Option.some.inj (Tryd.func4.symm.trans hfn)).symm
      exact ⟨by kernel_rfl, fun j t ht => by
        rw [Tryd.params4] at ht
        have hm : t ∈ [31, 32, 33] := by simpa using Array.mem_of_getElem? ht
        have hall : ([31, 32, 33].all fun u => !Tryd.prog.wantsStandIn u) = true := by kernel_rfl
        exact (show Tryd.prog.wantsStandIn t = false by simpa using List.all_eq_true.1 hall t hm)⟩)
    (by kernel_rfl)

end Go.Proofs.YtkehhlbbnlnbcaaDoor.shaSteps
namespace Go.Proofs.YtkehhlbbnlnbcaaDoor
theorem shaSteps_holds : Rows.ShaStepsCardSaid := shaSteps.card
#print axioms shaSteps_holds
end Go.Proofs.YtkehhlbbnlnbcaaDoor
