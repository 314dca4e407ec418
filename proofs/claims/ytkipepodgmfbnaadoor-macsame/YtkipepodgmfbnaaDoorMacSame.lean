/-
  MacSame: for every two digests, Same tells whether they have the same bytes; where the program's tables are as its text lays them.
-/
import Derived.Test.YtkipepodgmfbnaaDoorSame
namespace Go.Proofs.YtkipepodgmfbnaaDoor.macSame
open Go.ChangeShapes Go.WideShapes Go.ChangeAt Go.RowKit Sha

set_option maxHeartbeats 1600000 in
set_option maxRecDepth 100000 in
theorem walk (a b : List Nat) (W : World) (hl : Laid W) (ha : a.length = 32) (hb : b.length = 32) :
    Calls Tryd.prog 4 #[.agg (arr .u8 a), .agg (arr .u8 b)] W fun e w' => e = .returned (.bool true) ∧ Below W.heap.size W w' := by
  have b1 := bel_alloc W (.cells (arr .u8 a) 26)
  have e1 := heap_new W (.cells (arr .u8 a) 26)
  have s1 : (W.alloc (.cells (arr .u8 a) 26)).heap.size = W.heap.size + 1 := by simp
  have b2 := bel_alloc (W.alloc (.cells (arr .u8 a) 26)) (.cells (arr .u8 b) 26)
  have e2 := heap_new (W.alloc (.cells (arr .u8 a) 26)) (.cells (arr .u8 b) 26)
  have s2 : ((W.alloc (.cells (arr .u8 a) 26)).alloc (.cells (arr .u8 b) 26)).heap.size = W.heap.size + 1 + 1 := by simp
  rw [s1] at e2
  have e1' : ((W.alloc (.cells (arr .u8 a) 26)).alloc (.cells (arr .u8 b) 26)).heap[W.heap.size]? = some (.cells (arr .u8 a) 26 (0, 0)) := by rw [b2.block _ (by omega)]; exact e1
  have HB := hid (Bn b1 b2)
  have HL := hid (hl.later (Bn b1 b2))
  have HS := hid (fun w : World => same_word a b w ha hb)
  have HSS := hid (fun w : World => same_word a a w ha ha)
  rw [eqB_same] at HSS
  have hq := eq26_any a b ha hb
  have hg := guard25
  have ia : (Tryd.prog.info? 26).map (·.size) = some a.length := by rw [ha]; exact Tryd.size26'
  have ib : (Tryd.prog.info? 26).map (·.size) = some b.length := by rw [hb]; exact Tryd.size26'
  generalize eqB 32 a b = q at *
  clear b1 e1 b2 hl
  go_enter Tryd.func4, Tryd.ntmps4
  go_wp2_with fail
  generalize (W.alloc (.cells (arr .u8 a) 26)).alloc (.cells (arr .u8 b) 26) = V at *
  have La : ∀ w : World, Below V.heap.size V w → (Instr.loadAt 26 (.pointer (some ⟨W.heap.size, 0, none⟩))).run Tryd.prog w = .ok (.agg (arr .u8 a)) w := fun w h => load_whole (by rw [h.block _ (by omega)]; exact e1') Tryd.underlying26 rfl ia
  have Lb : ∀ w : World, Below V.heap.size V w → (Instr.loadAt 26 (.pointer (some ⟨W.heap.size + 1, 0, none⟩))).run Tryd.prog w = .ok (.agg (arr .u8 b)) w := fun w h => load_whole (by rw [h.block _ (by omega)]; exact e2) Tryd.underlying26 rfl ib
  clear e1' e2
  refine wp_region_held_drew (S := fun w' => Below V.heap.size V w') (by as_aux_lemma => kernel_rfl) (Below.refl _ _).drew (fun hS => ?_)
  refine Ord.take (i := 0) (d := 5) (v := .agg (arr .u8 a)) rfl rfl (by as_aux_lemma => kernel_rfl) (by as_aux_lemma => kernel_rfl) (by as_aux_lemma => kernel_rfl) (fun _ _ _ h => h) (by rfl) ?h0 (by assumption) ?_
  case h0 => exact fun w hSw => run_load_op (p := .pointer (some ⟨W.heap.size, 0, none⟩)) rfl rfl (La w hSw)
  simp only [List.setIfInBounds_toArray, List.set_cons_zero, List.set_cons_succ]
  refine Ord.take (i := 1) (d := 6) (v := .agg (arr .u8 b)) rfl rfl (by as_aux_lemma => kernel_rfl) (by as_aux_lemma => kernel_rfl) (by as_aux_lemma => kernel_rfl) (fun _ _ _ h => h) (by rfl) ?h1 (by assumption) ?_
  case h1 => exact fun w hSw => run_load_op (p := .pointer (some ⟨W.heap.size + 1, 0, none⟩)) rfl rfl (Lb w hSw)
  simp only [List.setIfInBounds_toArray, List.set_cons_zero, List.set_cons_succ]
  refine Ord.take (i := 3) (d := 8) (v := .agg (arr .u8 a)) rfl rfl (by as_aux_lemma => kernel_rfl) (by as_aux_lemma => kernel_rfl) (by as_aux_lemma => kernel_rfl) (fun _ _ _ h => h) (by rfl) ?h3 (by assumption) ?_
  case h3 => exact fun w hSw => run_load_op (p := .pointer (some ⟨W.heap.size, 0, none⟩)) rfl rfl (La w hSw)
  simp only [List.setIfInBounds_toArray, List.set_cons_zero, List.set_cons_succ]
  refine Ord.take (i := 4) (d := 9) (v := .agg (arr .u8 b)) rfl rfl (by as_aux_lemma => kernel_rfl) (by as_aux_lemma => kernel_rfl) (by as_aux_lemma => kernel_rfl) (fun _ _ _ h => h) (by rfl) ?h4 (by assumption) ?_
  case h4 => exact fun w hSw => run_load_op (p := .pointer (some ⟨W.heap.size + 1, 0, none⟩)) rfl rfl (Lb w hSw)
  simp only [List.setIfInBounds_toArray, List.set_cons_zero, List.set_cons_succ]
  refine Ord.take (i := 5) (d := 10) (v := .bool q) rfl rfl (by as_aux_lemma => kernel_rfl) (by as_aux_lemma => kernel_rfl) (by as_aux_lemma => kernel_rfl) (fun _ _ _ h => h) (by rfl) ?h5 (by assumption) ?_
  case h5 => exact fun w _ => run_eql_op rfl rfl rfl hg (hq w)
  simp only [List.setIfInBounds_toArray, List.set_cons_zero, List.set_cons_succ]
  refine wpAnyH_ready (rs := [2]) (by as_aux_lemma => kernel_rfl) (by simp) (AllReadyH.cons rfl (fun K hK => ?_) AllReadyH.nil)
  go_simp
  refine (HS.out _).mono ?_
  rintro _ x1 ⟨rfl, hb1⟩
  have hS1 := Bn hS hb1
  refine hK.out _ _ hS1 (fun _ => ?_)
  clear hK K hb1
  refine Ord.take (i := 6) (d := 11) (v := .bool true) rfl rfl (by as_aux_lemma => kernel_rfl) (by as_aux_lemma => kernel_rfl) (by as_aux_lemma => kernel_rfl) (fun _ _ _ h => h) (by rfl) ?h6 (by assumption) ?_
  case h6 => intro w hSw; go_simp; try with_reducible rfl
  simp only [List.setIfInBounds_toArray, List.set_cons_zero, List.set_cons_succ]
  refine Ord.take (i := 7) (d := 12) (v := ?v7) rfl rfl (by as_aux_lemma => kernel_rfl) (by as_aux_lemma => kernel_rfl) (by as_aux_lemma => kernel_rfl) (fun _ _ _ h => h) (by rfl) ?h7 (by assumption) ?_
  case h7 => intro w hSw; go_simp; try with_reducible rfl
  simp only [List.setIfInBounds_toArray, List.set_cons_zero, List.set_cons_succ]
  refine Ord.take (i := 8) (d := 13) (v := .agg (arr .u8 a)) rfl rfl (by as_aux_lemma => kernel_rfl) (by as_aux_lemma => kernel_rfl) (by as_aux_lemma => kernel_rfl) (fun _ _ _ h => h) (by rfl) ?h8 (by assumption) ?_
  case h8 => exact fun w hSw => run_load_op (p := .pointer (some ⟨W.heap.size, 0, none⟩)) rfl rfl (La w hSw)
  simp only [List.setIfInBounds_toArray, List.set_cons_zero, List.set_cons_succ]
  refine Ord.take (i := 9) (d := 14) (v := .agg (arr .u8 a)) rfl rfl (by as_aux_lemma => kernel_rfl) (by as_aux_lemma => kernel_rfl) (by as_aux_lemma => kernel_rfl) (fun _ _ _ h => h) (by rfl) ?h9 (by assumption) ?_
  case h9 => exact fun w hSw => run_load_op (p := .pointer (some ⟨W.heap.size, 0, none⟩)) rfl rfl (La w hSw)
  simp only [List.setIfInBounds_toArray, List.set_cons_zero, List.set_cons_succ]
  refine wpAnyH_ready (rs := [10]) (by as_aux_lemma => kernel_rfl) (by simp) (AllReadyH.cons rfl (fun K hK => ?_) AllReadyH.nil)
  go_simp
  refine (HSS.out _).mono ?_
  rintro _ x2 ⟨rfl, hb2⟩
  have hS2 := Bn hS1 hb2
  refine hK.out _ _ hS2 (fun _ => ?_)
  clear hK K hb2
  refine Ord.take (i := 11) (d := 16) (v := ?v11) rfl rfl (by as_aux_lemma => kernel_rfl) (by as_aux_lemma => kernel_rfl) (by as_aux_lemma => kernel_rfl) (fun _ _ _ h => h) (by rfl) ?h11 (by assumption) ?_
  case h11 => intro w hSw; go_simp; try with_reducible rfl
  simp only [List.setIfInBounds_toArray, List.set_cons_zero, List.set_cons_succ]
  refine Ord.take (i := 12) (d := 17) (v := ?v12) rfl rfl (by as_aux_lemma => kernel_rfl) (by as_aux_lemma => kernel_rfl) (by as_aux_lemma => kernel_rfl) (fun _ _ _ h => h) (by rfl) ?h12 (by assumption) ?_
  case h12 => intro w hSw; go_simp; try with_reducible rfl
  simp only [List.setIfInBounds_toArray, List.set_cons_zero, List.set_cons_succ]
  refine wpAnyH_ready (rs := [13]) (by as_aux_lemma => kernel_rfl) (by simp) (AllReadyH.cons rfl (fun K hK => ?_) AllReadyH.nil)
  go_simp
  refine (awake_any _ (HL.out.later hS2)).mono ?_
  rintro _ x3 ⟨rfl, hb3⟩
  have hS3 := Bn hS2 hb3
  refine hK.out _ _ hS3 (fun _ => ?_)
  clear hK K hb3
  refine Ord.take (i := 14) (d := 19) (v := ?v14) rfl rfl (by as_aux_lemma => kernel_rfl) (by as_aux_lemma => kernel_rfl) (by as_aux_lemma => kernel_rfl) (fun _ _ _ h => h) (by rfl) ?h14 (by assumption) ?_
  case h14 => intro w hSw; go_simp; try with_reducible rfl
  simp only [List.setIfInBounds_toArray, List.set_cons_zero, List.set_cons_succ]
  refine Ord.take (i := 15) (d := 4) (v := ?v15) rfl rfl (by as_aux_lemma => kernel_rfl) (by as_aux_lemma => kernel_rfl) (by as_aux_lemma => kernel_rfl) (fun _ _ _ h => h) (by rfl) ?h15 (by assumption) ?_
  case h15 => intro w hSw; go_simp; try with_reducible rfl
  simp only [List.setIfInBounds_toArray, List.set_cons_zero, List.set_cons_succ]
  refine wpAnyH_done (by as_aux_lemma => kernel_rfl) ?_ _
  have HE := hid (Bn HB.out hS3)
  clear hS hS1 hS2 hS3 hq La Lb
  go_wp2
  go_ret
  exact ⟨rfl, HE.out⟩

set_option maxRecDepth 100000 in
theorem lifted (os : Os) (started : os.Started) (H : Type) (enc : TypeId × Value → H) :
    ReturnsInHanded {} Tryd.checked os 4 .any (fun w args => (Rows.macSameSpec.pre enc Tryd.prog Tryd.f4 [] false w args ∧ laidMetH Tryd.prog laidL w) ∧ sizedMet enc Tryd.prog Tryd.f4 (OpenSpec.ofChange Rows.macSameSpec) false w args)
      (Rows.macSameSpec.post enc Tryd.prog Tryd.f4 false true false false) := by
  refine returnsInHanded_of_change_and (C := Tryd.checked) (X := fun w _ => laidMetH Tryd.prog laidL w) (fun _ _ _ hh h => h.of_heap hh) own started (by kernel_rfl) Tryd.func4
    (ChangeSpec.witness_shaped (enc := enc) (C := Tryd.checked) (os := os) (X := fun w _ => laidMetH Tryd.prog laidL w) false (World.doorLaid Tryd.prog 400 os) #[.agg (arr .u8 (List.replicate 32 0)), .agg (arr .u8 (List.replicate 32 0))] 8 rfl (World.shaped_of_RefB (by kernel_rfl) (by kernel_rfl)) (by kernel_rfl) (by kernel_rfl) (by kernel_rfl) (door_met os _)) ?_
  intro W base args ds gs before hval0 hW _ _ hL _
  have hval : ∀ (j : Nat) t v, Tryd.f4.params[j]? = some t → args[j]? = some v → Value.okWide Tryd.prog W .any base t v := hval0
  have hW' := hW
  obtain ⟨p, q, hA0, hV, rfl, _, _⟩ := hW
  have hA : DataW.TrodAll enc Tryd.prog W 0 (fun _ => true) true Tryd.f4.params.toList args.toList ds p := hA0
  rw [Tryd.params4] at hA hval
  obtain ⟨v0, vs0, d0, ds0, p0, q0, hargs, rfl, rfl, h0, r0⟩ := trodAll_cons hA
  obtain ⟨v1, vs1, d1, ds1, p1, q1, rfl, rfl, rfl, h1, r1⟩ := trodAll_cons r0
  obtain ⟨rfl, rfl, rfl⟩ := trodAll_nil r1
  obtain rfl : args = #[v0, v1] := by cases args; simp_all
  obtain ⟨rfl, rfl⟩ := trodVars_none hV
  have hlaid := of_laid hL
  have hk0 := h0
  obtain ⟨l0, rfl, hl0, rfl, hb0⟩ := open_arr Tryd.underlying26 Tryd.underlying5 Tryd.cells5 Tryd.cells26 rfl (hval 0 26 v0 rfl rfl) h0
  have hk1 := h1
  obtain ⟨l1, rfl, hl1, rfl, hb1⟩ := open_arr Tryd.underlying26 Tryd.underlying5 Tryd.cells5 Tryd.cells26 rfl (hval 1 26 v1 rfl rfl) h1
  clear hA0
  simp only [List.append_nil] at hW'
  clear hval0
  refine (walk l0 l1 W hlaid hl0 hl1).mono fun e W' ⟨he, hb⟩ => ?_
  subst he
  exact ⟨_, rfl, _, _, _, [] ++ [], _, [], hW', trodAll_cons_mk (shut_bool Tryd.underlying4 _) trodAll_mk0, (trodAll_cons_mk (Below.trod Tryd.laidOut (by kernel_rfl) (of_decide_eq_true (by kernel_rfl)) hk0 hb (fun _ h => by cases h)) (trodAll_cons_mk (Below.trod Tryd.laidOut (by kernel_rfl) (of_decide_eq_true (by kernel_rfl)) hk1 hb (fun _ h => by cases h)) trodAll_mk0)), rfl, hb.frame _, fun h => by cases h⟩

theorem over : Rows.macSameRow.holds Tryd.pinned (OpenSpec.ofChange Rows.macSameSpec) :=
  OpenClaim.holds_of_wide 4 Tryd.f4 rfl rfl rfl rfl rfl rfl rfl ⟨rfl, rfl, rfl, rfl, rfl⟩ rfl rfl rfl rfl rfl (by kernel_rfl) Tryd.func4 (by kernel_rfl)
    (of_decide_eq_true (by kernel_rfl)) (by unfold Func.isWrapper; first | (rw [if_pos (by decide +kernel)]; kernel_rfl) | (rw [if_neg (by decide +kernel)]; exact ⟨rfl, rfl⟩))
    (fun os started H enc _ => lifted os started H enc)

theorem card : Rows.MacSameCardSaid :=
  Claim7.holds_tied_plain_at .later [] [.data, .data] true (true, "2cc0e993b3b64b7b1edc58afe05f57fbf6a628b0274488cf50cfbb3c249229ab") false
    over (fun _ h => by cases h) (by kernel_rfl) (fun _ h => by cases h) macSame_row_tie rfl ⟨rfl, rfl⟩ (by kernel_rfl) rfl
    (fun f fn hf hfn => by
      obtain rfl : f = 4 := Option.some.inj ((show Tryd.prog.funcNamed "saltern/salternlaw04.MacSame" = some 4 by kernel_rfl).symm.trans hf) |>.symm
      obtain rfl : fn = Tryd.f4 := (Option.some.inj (Tryd.func4.symm.trans hfn)).symm
      exact ⟨by kernel_rfl, fun j t ht => by
        rw [Tryd.params4] at ht
        have hm : t ∈ [26, 26] := by simpa using Array.mem_of_getElem? ht
        have hall : ([26, 26].all fun u => !Tryd.prog.wantsStandIn u) = true := by kernel_rfl
        exact (show Tryd.prog.wantsStandIn t = false by simpa using List.all_eq_true.1 hall t hm)⟩)
    (by kernel_rfl)

end Go.Proofs.YtkipepodgmfbnaaDoor.macSame
namespace Go.Proofs.YtkipepodgmfbnaaDoor
theorem macSame_holds : Rows.MacSameCardSaid := macSame.card
#print axioms macSame_holds
end Go.Proofs.YtkipepodgmfbnaaDoor
