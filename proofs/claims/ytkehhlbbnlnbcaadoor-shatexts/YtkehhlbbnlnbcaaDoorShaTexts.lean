/-
  ShaTexts: for every digest and every string, Text's text and Read's answer are the document's, and Read of Text is the digest; where the program's tables are as its text lays them.
-/
import Derived.Test.YtkehhlbbnlnbcaaDoorBack
import Derived.Test.YtkehhlbbnlnbcaaDoorRefText
import Derived.ChangeMaps5
namespace Go.Proofs.YtkehhlbbnlnbcaaDoor.shaTexts
open Go.ChangeShapes Go.WideShapes Go.ChangeAt Go.RowKit Sha

theorem put_new (w : World) (l : List Nat) (tt g : Nat) (hg : g = w.heap.size) :
    Below w.heap.size w ((w.alloc (.cells (arr .u8 z32) tt)).setRow g (arr .u8 l)) ∧ ((w.alloc (.cells (arr .u8 z32) tt)).setRow g (arr .u8 l)).heap[g]? = some (.cells (arr .u8 l) tt (0, 0)) ∧ ((w.alloc (.cells (arr .u8 z32) tt)).setRow g (arr .u8 l)).heap.size = w.heap.size + 1 := by
  subst hg
  have b := bel_alloc w (.cells (arr .u8 z32) tt)
  have e := heap_new w (.cells (arr .u8 z32) tt)
  have h1 := setRow_heap _ w.heap.size _ (arr .u8 l) _ _ e
  refine ⟨below_setRow b (Nat.le_refl _) _, h1, ?_⟩
  simp

set_option maxHeartbeats 3200000 in
set_option maxRecDepth 100000 in
theorem walk (d : List Nat) (s : ByteArray) (W : World) (hl : Laid W) (hd : d.length = 32) (hlt : ∀ j, d.getD j 0 < 256) (hs : s.size ≤ maxLen) :
    Calls Tryd.prog 5 #[.agg (arr .u8 d), .string s] W fun e w' => e = .returned (.bool true) ∧ Below W.heap.size W w' := by
  have b0 := bel_alloc W (.cells (arr .u8 d) 25)
  have e0 := heap_new W (.cells (arr .u8 d) 25)
  have s0 : (W.alloc (.cells (arr .u8 d) 25)).heap.size = W.heap.size + 1 := by simp
  have HL0 := hid (hl.later b0)
  have HB := hid b0
  have H21 := hid (fun w : World => text_word d w hd hlt)
  have H22 := hid (fun w : World => textr_any d w hd hlt)
  have HBK := hid (read_back d hd hlt)
  have H12 := hid alive_any
  have hg := guard25
  have hq0 := eq25 d hd
  have HRB := hid (fun s : ByteArray => read_both s)
  have hdz : (arr .u8 d).size = 32 := by rw [arr_size, hd]
  have hda : (Tryd.prog.info? 25).map (·.size) = some (arr .u8 d).size := by rw [hdz]; exact Tryd.size25
  have hd1 := arr_one .u8 d
  have hdl : (Tryd.prog.info? 25).map (·.size) = some d.length := by rw [hd]; exact Tryd.size25
  clear hl b0
  unfold maxLen at hs
  generalize (⟨(bytesU (textN d)).toArray⟩ : ByteArray) = T at *
  by_cases h2 : 200 < s.size
  · have h2' : (200 : Int) < (s.size : Int) := by omega
    go_enter Tryd.func5, Tryd.ntmps5
    go_wp2_with fail
    obtain ⟨D, E, hDl, hR1, hR2⟩ := HRB.out (s.extract 0 200)
    have HR1 := hid hR1
    have HR2 := hid hR2
    have HDL := hid hDl
    have HDD := hid hd
    have hqD := eq25 D hDl
    clear hR1 hR2 hDl HRB h2'
    generalize (s.extract 0 200) = sx at *
    generalize hW0 : W.alloc (.cells (arr .u8 d) 25) = W0 at *
    clear hW0
    go_at_call 19
    refine (HR1.out W0).mono ?_
    rintro _ w1 ⟨rfl, hb1⟩
    have P1 := put_new w1 D 25 w1.heap.size rfl
    have hz1 := hb1.size
    go_wp2_with (first
      | (refine wpList_alloc_at rfl 25 rfl (some 5) rfl (arr .u8 z32) Tryd.zero25 w1.heap.size rfl ?_)
      | (refine wpList_store_rowTo rfl 25 _ _ rfl rfl w1.heap.size (arr .u8 D) rfl rfl 25 _ (heap_new _ (.cells (arr .u8 z32) 25)) (by rw [arr_size, HDL.out]; exact Tryd.size25) (by rw [arr_size, arr_size, HDL.out]; rfl) (arr_one _ _) ?_))
    generalize hV1 : (w1.alloc (.cells (arr .u8 z32) 25)).setRow w1.heap.size (arr .u8 D) = V1 at *
    clear hV1
    obtain ⟨q1, f1, z1⟩ := P1
    have c1 := Bn hb1 q1
    clear hb1 q1
    go_at_call 20
    refine (HR2.out V1).mono ?_
    rintro _ w2 ⟨rfl, hb2⟩
    have P2 := put_new w2 D 24 w2.heap.size rfl
    have hz2 := hb2.size
    have e0a : W0.heap.size ≤ V1.heap.size := c1.size
    have e2 : ((w2.alloc (.cells (arr .u8 z32) 24)).setRow w2.heap.size (arr .u8 D)).heap[W.heap.size]? = some (.cells (arr .u8 d) 25 (0, 0)) := by rw [P2.1.block _ (by omega), hb2.block _ (by omega), c1.block _ (by omega)]; exact e0
    go_wp2_with (first
      | (refine wpList_alloc_at rfl 24 rfl (some 7) rfl (arr .u8 z32) Tryd.zero24 w2.heap.size rfl ?_)
      | (refine wpList_store_rowTo rfl 24 _ _ rfl rfl w2.heap.size (arr .u8 D) rfl rfl 24 _ (heap_new _ (.cells (arr .u8 z32) 24)) (by rw [arr_size, HDL.out]; exact Tryd.size24) (by rw [arr_size, arr_size, HDL.out]; rfl) (arr_one _ _) ?_)
      | (refine wpList_load_row rfl 25 _ rfl W.heap.size rfl 25 (arr .u8 d) (0, 0) _ e2 Tryd.underlying25 rfl hda ?_))
    generalize hV2 : (w2.alloc (.cells (arr .u8 z32) 24)).setRow w2.heap.size (arr .u8 D) = V2 at *
    clear hV2
    obtain ⟨q2, f2, z2⟩ := P2
    have c2 := Bn hb2 q2
    clear hb2 q2
    have f1b : V2.heap[w1.heap.size]? = some (.cells (arr .u8 D) 25 (0, 0)) := by rw [c2.block _ (by omega)]; exact f1
    go_at_call 21
    refine (H21.out V2).mono ?_
    rintro _ w3 ⟨rfl, hb3⟩
    go_wp2_with fail
    go_at_call 19
    refine (HBK.out w3).mono ?_
    rintro _ w4 ⟨rfl, hb4⟩
    have P4 := put_new w4 d 25 w4.heap.size rfl
    have hb34 := Bn hb3 hb4
    have hz4 := hb34.size
    clear hb3 hb4
    go_wp2_with (first
      | (refine wpList_alloc_at rfl 25 rfl (some 9) rfl (arr .u8 z32) Tryd.zero25 w4.heap.size rfl ?_)
      | (refine wpList_store_rowTo rfl 25 _ _ rfl rfl w4.heap.size (arr .u8 d) rfl rfl 25 _ (heap_new _ (.cells (arr .u8 z32) 25)) (by rw [arr_size, HDD.out]; exact Tryd.size25) (by rw [arr_size, arr_size, HDD.out]; rfl) (arr_one _ _) ?_))
    have e0b : W0.heap.size ≤ V2.heap.size := Nat.le_trans e0a c2.size
    generalize hV4 : (w4.alloc (.cells (arr .u8 z32) 25)).setRow w4.heap.size (arr .u8 d) = V4 at *
    clear hV4
    obtain ⟨q4, f4, z4⟩ := P4
    have c4 := Bn hb34 q4
    have e4 : V4.heap[W.heap.size]? = some (.cells (arr .u8 d) 25 (0, 0)) := by rw [c4.block _ (by omega)]; exact e2
    have f1d : V4.heap[w1.heap.size]? = some (.cells (arr .u8 D) 25 (0, 0)) := by rw [c4.block _ (by omega)]; exact f1b
    have f2d : V4.heap[w2.heap.size]? = some (.cells (arr .u8 D) 24 (0, 0)) := by rw [c4.block _ (by omega)]; exact f2
    have L0 : ∀ w : World, Below V4.heap.size V4 w → (Instr.loadAt 25 (.pointer (some ⟨W.heap.size, 0, none⟩))).run Tryd.prog w = .ok (.agg (arr .u8 d)) w := fun w h => load_whole (by rw [h.block _ (by omega)]; exact e4) Tryd.underlying25 rfl hdl
    have L1 : ∀ w : World, Below V4.heap.size V4 w → (Instr.loadAt 25 (.pointer (some ⟨w1.heap.size, 0, none⟩))).run Tryd.prog w = .ok (.agg (arr .u8 D)) w := fun w h => load_whole (by rw [h.block _ (by omega)]; exact f1d) Tryd.underlying25 rfl (by rw [HDL.out]; exact Tryd.size25)
    have L2 : ∀ w : World, Below V4.heap.size V4 w → (Instr.loadAt 24 (.pointer (some ⟨w2.heap.size, 0, none⟩))).run Tryd.prog w = .ok (.agg (arr .u8 D)) w := fun w h => load_whole (by rw [h.block _ (by omega)]; exact f2d) Tryd.underlying24 rfl (by rw [HDL.out]; exact Tryd.size24)
    have L4 : ∀ w : World, Below V4.heap.size V4 w → (Instr.loadAt 25 (.pointer (some ⟨w4.heap.size, 0, none⟩))).run Tryd.prog w = .ok (.agg (arr .u8 d)) w := fun w h => load_whole (by rw [h.block _ (by omega)]; exact f4) Tryd.underlying25 rfl hdl
    have HBV := hid (Bn (Bn (Bn HB.out c1) c2) c4)
    have HLV := hid (HL0.out.later (Bn (Bn c1 c2) c4))
    clear e0 e2 e4 f1 f1b f1d f2 f2d f4 c1 c2 c4 q4 hb34 hz1 hz2 hz4 z1 z2 z4 HB HL0 hda hdl hdz hd1 hd hlt hs
    generalize w1.heap.size = ga at *
    generalize w2.heap.size = gb at *
    generalize w4.heap.size = gc at *
    refine wp_region_held_drew (S := fun w' => Below V4.heap.size V4 w') (by as_aux_lemma => kernel_rfl) (Below.refl _ _).drew (fun hS => ?_)
    refine Ord.take (i := 0) (d := 32) (v := .agg (arr .u8 d)) rfl rfl (by as_aux_lemma => kernel_rfl) (by as_aux_lemma => kernel_rfl) (by as_aux_lemma => kernel_rfl) (fun _ _ _ h => h) (by rfl) ?h0 (by assumption) ?_
    case h0 => exact fun w hSw => run_load_op (p := .pointer (some ⟨W.heap.size, 0, none⟩)) rfl rfl (L0 w hSw)
    simp only [List.setIfInBounds_toArray, List.set_cons_zero, List.set_cons_succ]
    refine Ord.take (i := 2) (d := 34) (v := .agg (arr .u8 d)) rfl rfl (by as_aux_lemma => kernel_rfl) (by as_aux_lemma => kernel_rfl) (by as_aux_lemma => kernel_rfl) (fun _ _ _ h => h) (by rfl) ?h2 (by assumption) ?_
    case h2 => exact fun w hSw => run_load_op (p := .pointer (some ⟨W.heap.size, 0, none⟩)) rfl rfl (L0 w hSw)
    simp only [List.setIfInBounds_toArray, List.set_cons_zero, List.set_cons_succ]
    refine wpAnyH_ready (rs := [1]) (by as_aux_lemma => kernel_rfl) (by simp) (AllReadyH.cons rfl (fun K hK => ?_) AllReadyH.nil)
    go_simp
    refine (H21.out _).mono ?_
    rintro _ x1 ⟨rfl, hb1⟩
    have hS1 := Bn hS hb1
    refine hK.out _ _ hS1 (fun _ => ?_)
    clear hK K hb1
    refine wpAnyH_ready (rs := [3]) (by as_aux_lemma => kernel_rfl) (by simp) (AllReadyH.cons rfl (fun K hK => ?_) AllReadyH.nil)
    go_simp
    refine (H22.out _).mono ?_
    rintro _ x2 ⟨rfl, hb2⟩
    have hS2 := Bn hS1 hb2
    refine hK.out _ _ hS2 (fun _ => ?_)
    clear hK K hb2
    refine Ord.take (i := 4) (d := 36) (v := .bool true) rfl rfl (by as_aux_lemma => kernel_rfl) (by as_aux_lemma => kernel_rfl) (by as_aux_lemma => kernel_rfl) (fun _ _ _ h => h) (by rfl) ?h4 (by assumption) ?_
    case h4 => intro w hSw; go_simp; try with_reducible rfl
    simp only [List.setIfInBounds_toArray, List.set_cons_zero, List.set_cons_succ]
    refine Ord.take (i := 5) (d := 37) (v := ?v5) rfl rfl (by as_aux_lemma => kernel_rfl) (by as_aux_lemma => kernel_rfl) (by as_aux_lemma => kernel_rfl) (fun _ _ _ h => h) (by rfl) ?h5 (by assumption) ?_
    case h5 => intro w hSw; go_simp; try with_reducible rfl
    simp only [List.setIfInBounds_toArray, List.set_cons_zero, List.set_cons_succ]
    refine Ord.take (i := 6) (d := 38) (v := .agg (arr .u8 D)) rfl rfl (by as_aux_lemma => kernel_rfl) (by as_aux_lemma => kernel_rfl) (by as_aux_lemma => kernel_rfl) (fun _ _ _ h => h) (by rfl) ?h6 (by assumption) ?_
    case h6 => exact fun w hSw => run_load_op (p := .pointer (some ⟨ga, 0, none⟩)) rfl rfl (L1 w hSw)
    simp only [List.setIfInBounds_toArray, List.set_cons_zero, List.set_cons_succ]
    refine Ord.take (i := 7) (d := 39) (v := .agg (arr .u8 D)) rfl rfl (by as_aux_lemma => kernel_rfl) (by as_aux_lemma => kernel_rfl) (by as_aux_lemma => kernel_rfl) (fun _ _ _ h => h) (by rfl) ?h7 (by assumption) ?_
    case h7 => exact fun w hSw => run_load_op (p := .pointer (some ⟨gb, 0, none⟩)) rfl rfl (L2 w hSw)
    simp only [List.setIfInBounds_toArray, List.set_cons_zero, List.set_cons_succ]
    refine Ord.take (i := 8) (d := 40) (v := .bool true) rfl rfl (by as_aux_lemma => kernel_rfl) (by as_aux_lemma => kernel_rfl) (by as_aux_lemma => kernel_rfl) (fun _ _ _ h => h) (by rfl) ?h8 (by assumption) ?_
    case h8 => exact fun w _ => run_eql_op rfl rfl rfl hg (hqD w)
    simp only [List.setIfInBounds_toArray, List.set_cons_zero, List.set_cons_succ]
    refine Ord.take (i := 9) (d := 41) (v := ?v9) rfl rfl (by as_aux_lemma => kernel_rfl) (by as_aux_lemma => kernel_rfl) (by as_aux_lemma => kernel_rfl) (fun _ _ _ h => h) (by rfl) ?h9 (by assumption) ?_
    case h9 => intro w hSw; go_simp; try with_reducible rfl
    simp only [List.setIfInBounds_toArray, List.set_cons_zero, List.set_cons_succ]
    refine Ord.take (i := 10) (d := 42) (v := ?v10) rfl rfl (by as_aux_lemma => kernel_rfl) (by as_aux_lemma => kernel_rfl) (by as_aux_lemma => kernel_rfl) (fun _ _ _ h => h) (by rfl) ?h10 (by assumption) ?_
    case h10 => intro w hSw; go_simp; try with_reducible rfl
    simp only [List.setIfInBounds_toArray, List.set_cons_zero, List.set_cons_succ]
    refine Ord.take (i := 11) (d := 43) (v := .int .i64 E) rfl rfl (by as_aux_lemma => kernel_rfl) (by as_aux_lemma => kernel_rfl) (by as_aux_lemma => kernel_rfl) (fun _ _ _ h => h) (by rfl) ?h11 (by assumption) ?_
    case h11 => intro w hSw; go_simp; try with_reducible rfl
    simp only [List.setIfInBounds_toArray, List.set_cons_zero, List.set_cons_succ]
    refine Ord.take (i := 12) (d := 44) (v := .int .i64 E) rfl rfl (by as_aux_lemma => kernel_rfl) (by as_aux_lemma => kernel_rfl) (by as_aux_lemma => kernel_rfl) (fun _ _ _ h => h) (by rfl) ?h12 (by assumption) ?_
    case h12 => intro w hSw; go_simp; try with_reducible rfl
    simp only [List.setIfInBounds_toArray, List.set_cons_zero, List.set_cons_succ]
    refine Ord.take (i := 13) (d := 45) (v := .bool true) rfl rfl (by as_aux_lemma => kernel_rfl) (by as_aux_lemma => kernel_rfl) (by as_aux_lemma => kernel_rfl) (fun _ _ _ h => h) (by rfl) ?h13 (by assumption) ?_
    case h13 => intro w hSw; go_simp; try with_reducible rfl
    simp only [List.setIfInBounds_toArray, List.set_cons_zero, List.set_cons_succ]
    refine Ord.take (i := 14) (d := 46) (v := ?v14) rfl rfl (by as_aux_lemma => kernel_rfl) (by as_aux_lemma => kernel_rfl) (by as_aux_lemma => kernel_rfl) (fun _ _ _ h => h) (by rfl) ?h14 (by assumption) ?_
    case h14 => intro w hSw; go_simp; try with_reducible rfl
    simp only [List.setIfInBounds_toArray, List.set_cons_zero, List.set_cons_succ]
    refine Ord.take (i := 15) (d := 47) (v := ?v15) rfl rfl (by as_aux_lemma => kernel_rfl) (by as_aux_lemma => kernel_rfl) (by as_aux_lemma => kernel_rfl) (fun _ _ _ h => h) (by rfl) ?h15 (by assumption) ?_
    case h15 => intro w hSw; go_simp; try with_reducible rfl
    simp only [List.setIfInBounds_toArray, List.set_cons_zero, List.set_cons_succ]
    refine Ord.take (i := 16) (d := 48) (v := .agg (arr .u8 d)) rfl rfl (by as_aux_lemma => kernel_rfl) (by as_aux_lemma => kernel_rfl) (by as_aux_lemma => kernel_rfl) (fun _ _ _ h => h) (by rfl) ?h16 (by assumption) ?_
    case h16 => exact fun w hSw => run_load_op (p := .pointer (some ⟨gc, 0, none⟩)) rfl rfl (L4 w hSw)
    simp only [List.setIfInBounds_toArray, List.set_cons_zero, List.set_cons_succ]
    refine Ord.take (i := 17) (d := 49) (v := .agg (arr .u8 d)) rfl rfl (by as_aux_lemma => kernel_rfl) (by as_aux_lemma => kernel_rfl) (by as_aux_lemma => kernel_rfl) (fun _ _ _ h => h) (by rfl) ?h17 (by assumption) ?_
    case h17 => exact fun w hSw => run_load_op (p := .pointer (some ⟨W.heap.size, 0, none⟩)) rfl rfl (L0 w hSw)
    simp only [List.setIfInBounds_toArray, List.set_cons_zero, List.set_cons_succ]
    refine Ord.take (i := 18) (d := 50) (v := .bool true) rfl rfl (by as_aux_lemma => kernel_rfl) (by as_aux_lemma => kernel_rfl) (by as_aux_lemma => kernel_rfl) (fun _ _ _ h => h) (by rfl) ?h18 (by assumption) ?_
    case h18 => exact fun w _ => run_eql_op rfl rfl rfl hg (hq0 w)
    simp only [List.setIfInBounds_toArray, List.set_cons_zero, List.set_cons_succ]
    refine Ord.take (i := 19) (d := 51) (v := ?v19) rfl rfl (by as_aux_lemma => kernel_rfl) (by as_aux_lemma => kernel_rfl) (by as_aux_lemma => kernel_rfl) (fun _ _ _ h => h) (by rfl) ?h19 (by assumption) ?_
    case h19 => intro w hSw; go_simp; try with_reducible rfl
    simp only [List.setIfInBounds_toArray, List.set_cons_zero, List.set_cons_succ]
    refine Ord.take (i := 20) (d := 52) (v := ?v20) rfl rfl (by as_aux_lemma => kernel_rfl) (by as_aux_lemma => kernel_rfl) (by as_aux_lemma => kernel_rfl) (fun _ _ _ h => h) (by rfl) ?h20 (by assumption) ?_
    case h20 => intro w hSw; go_simp; try with_reducible rfl
    simp only [List.setIfInBounds_toArray, List.set_cons_zero, List.set_cons_succ]
    refine Ord.take (i := 21) (d := 53) (v := ?v21) rfl rfl (by as_aux_lemma => kernel_rfl) (by as_aux_lemma => kernel_rfl) (by as_aux_lemma => kernel_rfl) (fun _ _ _ h => h) (by rfl) ?h21 (by assumption) ?_
    case h21 => intro w hSw; go_simp; try with_reducible rfl
    simp only [List.setIfInBounds_toArray, List.set_cons_zero, List.set_cons_succ]
    refine Ord.take (i := 22) (d := 54) (v := ?v22) rfl rfl (by as_aux_lemma => kernel_rfl) (by as_aux_lemma => kernel_rfl) (by as_aux_lemma => kernel_rfl) (fun _ _ _ h => h) (by rfl) ?h22 (by assumption) ?_
    case h22 => intro w hSw; go_simp; try with_reducible rfl
    simp only [List.setIfInBounds_toArray, List.set_cons_zero, List.set_cons_succ]
    refine Ord.take (i := 23) (d := 55) (v := ?v23) rfl rfl (by as_aux_lemma => kernel_rfl) (by as_aux_lemma => kernel_rfl) (by as_aux_lemma => kernel_rfl) (fun _ _ _ h => h) (by rfl) ?h23 (by assumption) ?_
    case h23 => intro w hSw; go_simp; try with_reducible rfl
    simp only [List.setIfInBounds_toArray, List.set_cons_zero, List.set_cons_succ]
    refine Ord.take (i := 24) (d := 56) (v := ?v24) rfl rfl (by as_aux_lemma => kernel_rfl) (by as_aux_lemma => kernel_rfl) (by as_aux_lemma => kernel_rfl) (fun _ _ _ h => h) (by rfl) ?h24 (by assumption) ?_
    case h24 => intro w hSw; go_simp; try with_reducible rfl
    simp only [List.setIfInBounds_toArray, List.set_cons_zero, List.set_cons_succ]
    refine wpAnyH_ready (rs := [25]) (by as_aux_lemma => kernel_rfl) (by simp) (AllReadyH.cons rfl (fun K hK => ?_) AllReadyH.nil)
    go_simp
    refine (H12.out _ (HLV.out.later hS2)).mono ?_
    rintro _ x4 ⟨rfl, hb4⟩
    have hS4 := Bn hS2 hb4
    refine hK.out _ _ hS4 (fun _ => ?_)
    clear hK K hb4
    refine Ord.take (i := 26) (d := 58) (v := ?v26) rfl rfl (by as_aux_lemma => kernel_rfl) (by as_aux_lemma => kernel_rfl) (by as_aux_lemma => kernel_rfl) (fun _ _ _ h => h) (by rfl) ?h26 (by assumption) ?_
    case h26 => intro w hSw; go_simp; try with_reducible rfl
    simp only [List.setIfInBounds_toArray, List.set_cons_zero, List.set_cons_succ]
    refine Ord.take (i := 27) (d := 4) (v := ?v27) rfl rfl (by as_aux_lemma => kernel_rfl) (by as_aux_lemma => kernel_rfl) (by as_aux_lemma => kernel_rfl) (fun _ _ _ h => h) (by rfl) ?h27 (by assumption) ?_
    case h27 => intro w hSw; go_simp; try with_reducible rfl
    simp only [List.setIfInBounds_toArray, List.set_cons_zero, List.set_cons_succ]
    refine wpAnyH_done (by as_aux_lemma => kernel_rfl) ?_ _
    have HE := hid (Bn HBV.out hS4)
    clear hS hS1 hS2 hS4 hq0 hqD L0 L1 L2 L4
    go_wp2
    go_ret
    exact ⟨rfl, HE.out⟩
  · have h2' : ¬ (200 : Int) < (s.size : Int) := by omega
    go_enter Tryd.func5, Tryd.ntmps5
    go_wp2_with fail
    obtain ⟨D, E, hDl, hR1, hR2⟩ := HRB.out s
    have HR1 := hid hR1
    have HR2 := hid hR2
    have HDL := hid hDl
    have HDD := hid hd
    have hqD := eq25 D hDl
    clear hR1 hR2 hDl HRB h2'
    generalize s = sx at *
    generalize hW0 : W.alloc (.cells (arr .u8 d) 25) = W0 at *
    clear hW0
    go_at_call 19
    refine (HR1.out W0).mono ?_
    rintro _ w1 ⟨rfl, hb1⟩
    have P1 := put_new w1 D 25 w1.heap.size rfl
    have hz1 := hb1.size
    go_wp2_with (first
      | (refine wpList_alloc_at rfl 25 rfl (some 5) rfl (arr .u8 z32) Tryd.zero25 w1.heap.size rfl ?_)
      | (refine wpList_store_rowTo rfl 25 _ _ rfl rfl w1.heap.size (arr .u8 D) rfl rfl 25 _ (heap_new _ (.cells (arr .u8 z32) 25)) (by rw [arr_size, HDL.out]; exact Tryd.size25) (by rw [arr_size, arr_size, HDL.out]; rfl) (arr_one _ _) ?_))
    generalize hV1 : (w1.alloc (.cells (arr .u8 z32) 25)).setRow w1.heap.size (arr .u8 D) = V1 at *
    clear hV1
    obtain ⟨q1, f1, z1⟩ := P1
    have c1 := Bn hb1 q1
    clear hb1 q1
    go_at_call 20
    refine (HR2.out V1).mono ?_
    rintro _ w2 ⟨rfl, hb2⟩
    have P2 := put_new w2 D 24 w2.heap.size rfl
    have hz2 := hb2.size
    have e0a : W0.heap.size ≤ V1.heap.size := c1.size
    have e2 : ((w2.alloc (.cells (arr .u8 z32) 24)).setRow w2.heap.size (arr .u8 D)).heap[W.heap.size]? = some (.cells (arr .u8 d) 25 (0, 0)) := by rw [P2.1.block _ (by omega), hb2.block _ (by omega), c1.block _ (by omega)]; exact e0
    go_wp2_with (first
      | (refine wpList_alloc_at rfl 24 rfl (some 7) rfl (arr .u8 z32) Tryd.zero24 w2.heap.size rfl ?_)
      | (refine wpList_store_rowTo rfl 24 _ _ rfl rfl w2.heap.size (arr .u8 D) rfl rfl 24 _ (heap_new _ (.cells (arr .u8 z32) 24)) (by rw [arr_size, HDL.out]; exact Tryd.size24) (by rw [arr_size, arr_size, HDL.out]; rfl) (arr_one _ _) ?_)
      | (refine wpList_load_row rfl 25 _ rfl W.heap.size rfl 25 (arr .u8 d) (0, 0) _ e2 Tryd.underlying25 rfl hda ?_))
    generalize hV2 : (w2.alloc (.cells (arr .u8 z32) 24)).setRow w2.heap.size (arr .u8 D) = V2 at *
    clear hV2
    obtain ⟨q2, f2, z2⟩ := P2
    have c2 := Bn hb2 q2
    clear hb2 q2
    have f1b : V2.heap[w1.heap.size]? = some (.cells (arr .u8 D) 25 (0, 0)) := by rw [c2.block _ (by omega)]; exact f1
    go_at_call 21
    refine (H21.out V2).mono ?_
    rintro _ w3 ⟨rfl, hb3⟩
    go_wp2_with fail
    go_at_call 19
    refine (HBK.out w3).mono ?_
    rintro _ w4 ⟨rfl, hb4⟩
    have P4 := put_new w4 d 25 w4.heap.size rfl
    have hb34 := Bn hb3 hb4
    have hz4 := hb34.size
    clear hb3 hb4
    go_wp2_with (first
      | (refine wpList_alloc_at rfl 25 rfl (some 9) rfl (arr .u8 z32) Tryd.zero25 w4.heap.size rfl ?_)
      | (refine wpList_store_rowTo rfl 25 _ _ rfl rfl w4.heap.size (arr .u8 d) rfl rfl 25 _ (heap_new _ (.cells (arr .u8 z32) 25)) (by rw [arr_size, HDD.out]; exact Tryd.size25) (by rw [arr_size, arr_size, HDD.out]; rfl) (arr_one _ _) ?_))
    have e0b : W0.heap.size ≤ V2.heap.size := Nat.le_trans e0a c2.size
    generalize hV4 : (w4.alloc (.cells (arr .u8 z32) 25)).setRow w4.heap.size (arr .u8 d) = V4 at *
    clear hV4
    obtain ⟨q4, f4, z4⟩ := P4
    have c4 := Bn hb34 q4
    have e4 : V4.heap[W.heap.size]? = some (.cells (arr .u8 d) 25 (0, 0)) := by rw [c4.block _ (by omega)]; exact e2
    have f1d : V4.heap[w1.heap.size]? = some (.cells (arr .u8 D) 25 (0, 0)) := by rw [c4.block _ (by omega)]; exact f1b
    have f2d : V4.heap[w2.heap.size]? = some (.cells (arr .u8 D) 24 (0, 0)) := by rw [c4.block _ (by omega)]; exact f2
    have L0 : ∀ w : World, Below V4.heap.size V4 w → (Instr.loadAt 25 (.pointer (some ⟨W.heap.size, 0, none⟩))).run Tryd.prog w = .ok (.agg (arr .u8 d)) w := fun w h => load_whole (by rw [h.block _ (by omega)]; exact e4) Tryd.underlying25 rfl hdl
    have L1 : ∀ w : World, Below V4.heap.size V4 w → (Instr.loadAt 25 (.pointer (some ⟨w1.heap.size, 0, none⟩))).run Tryd.prog w = .ok (.agg (arr .u8 D)) w := fun w h => load_whole (by rw [h.block _ (by omega)]; exact f1d) Tryd.underlying25 rfl (by rw [HDL.out]; exact Tryd.size25)
    have L2 : ∀ w : World, Below V4.heap.size V4 w → (Instr.loadAt 24 (.pointer (some ⟨w2.heap.size, 0, none⟩))).run Tryd.prog w = .ok (.agg (arr .u8 D)) w := fun w h => load_whole (by rw [h.block _ (by omega)]; exact f2d) Tryd.underlying24 rfl (by rw [HDL.out]; exact Tryd.size24)
    have L4 : ∀ w : World, Below V4.heap.size V4 w → (Instr.loadAt 25 (.pointer (some ⟨w4.heap.size, 0, none⟩))).run Tryd.prog w = .ok (.agg (arr .u8 d)) w := fun w h => load_whole (by rw [h.block _ (by omega)]; exact f4) Tryd.underlying25 rfl hdl
    have HBV := hid (Bn (Bn (Bn HB.out c1) c2) c4)
    have HLV := hid (HL0.out.later (Bn (Bn c1 c2) c4))
    clear e0 e2 e4 f1 f1b f1d f2 f2d f4 c1 c2 c4 q4 hb34 hz1 hz2 hz4 z1 z2 z4 HB HL0 hda hdl hdz hd1 hd hlt hs
    generalize w1.heap.size = ga at *
    generalize w2.heap.size = gb at *
    generalize w4.heap.size = gc at *
    refine wp_region_held_drew (S := fun w' => Below V4.heap.size V4 w') (by as_aux_lemma => kernel_rfl) (Below.refl _ _).drew (fun hS => ?_)
    refine Ord.take (i := 0) (d := 32) (v := .agg (arr .u8 d)) rfl rfl (by as_aux_lemma => kernel_rfl) (by as_aux_lemma => kernel_rfl) (by as_aux_lemma => kernel_rfl) (fun _ _ _ h => h) (by rfl) ?h0 (by assumption) ?_
    case h0 => exact fun w hSw => run_load_op (p := .pointer (some ⟨W.heap.size, 0, none⟩)) rfl rfl (L0 w hSw)
    simp only [List.setIfInBounds_toArray, List.set_cons_zero, List.set_cons_succ]
    refine Ord.take (i := 2) (d := 34) (v := .agg (arr .u8 d)) rfl rfl (by as_aux_lemma => kernel_rfl) (by as_aux_lemma => kernel_rfl) (by as_aux_lemma => kernel_rfl) (fun _ _ _ h => h) (by rfl) ?h2 (by assumption) ?_
    case h2 => exact fun w hSw => run_load_op (p := .pointer (some ⟨W.heap.size, 0, none⟩)) rfl rfl (L0 w hSw)
    simp only [List.setIfInBounds_toArray, List.set_cons_zero, List.set_cons_succ]
    refine wpAnyH_ready (rs := [1]) (by as_aux_lemma => kernel_rfl) (by simp) (AllReadyH.cons rfl (fun K hK => ?_) AllReadyH.nil)
    go_simp
    refine (H21.out _).mono ?_
    rintro _ x1 ⟨rfl, hb1⟩
    have hS1 := Bn hS hb1
    refine hK.out _ _ hS1 (fun _ => ?_)
    clear hK K hb1
    refine wpAnyH_ready (rs := [3]) (by as_aux_lemma => kernel_rfl) (by simp) (AllReadyH.cons rfl (fun K hK => ?_) AllReadyH.nil)
    go_simp
    refine (H22.out _).mono ?_
    rintro _ x2 ⟨rfl, hb2⟩
    have hS2 := Bn hS1 hb2
    refine hK.out _ _ hS2 (fun _ => ?_)
    clear hK K hb2
    refine Ord.take (i := 4) (d := 36) (v := .bool true) rfl rfl (by as_aux_lemma => kernel_rfl) (by as_aux_lemma => kernel_rfl) (by as_aux_lemma => kernel_rfl) (fun _ _ _ h => h) (by rfl) ?h4 (by assumption) ?_
    case h4 => intro w hSw; go_simp; try with_reducible rfl
    simp only [List.setIfInBounds_toArray, List.set_cons_zero, List.set_cons_succ]
    refine Ord.take (i := 5) (d := 37) (v := ?v5) rfl rfl (by as_aux_lemma => kernel_rfl) (by as_aux_lemma => kernel_rfl) (by as_aux_lemma => kernel_rfl) (fun _ _ _ h => h) (by rfl) ?h5 (by assumption) ?_
    case h5 => intro w hSw; go_simp; try with_reducible rfl
    simp only [List.setIfInBounds_toArray, List.set_cons_zero, List.set_cons_succ]
    refine Ord.take (i := 6) (d := 38) (v := .agg (arr .u8 D)) rfl rfl (by as_aux_lemma => kernel_rfl) (by as_aux_lemma => kernel_rfl) (by as_aux_lemma => kernel_rfl) (fun _ _ _ h => h) (by rfl) ?h6 (by assumption) ?_
    case h6 => exact fun w hSw => run_load_op (p := .pointer (some ⟨ga, 0, none⟩)) rfl rfl (L1 w hSw)
    simp only [List.setIfInBounds_toArray, List.set_cons_zero, List.set_cons_succ]
    refine Ord.take (i := 7) (d := 39) (v := .agg (arr .u8 D)) rfl rfl (by as_aux_lemma => kernel_rfl) (by as_aux_lemma => kernel_rfl) (by as_aux_lemma => kernel_rfl) (fun _ _ _ h => h) (by rfl) ?h7 (by assumption) ?_
    case h7 => exact fun w hSw => run_load_op (p := .pointer (some ⟨gb, 0, none⟩)) rfl rfl (L2 w hSw)
    simp only [List.setIfInBounds_toArray, List.set_cons_zero, List.set_cons_succ]
    refine Ord.take (i := 8) (d := 40) (v := .bool true) rfl rfl (by as_aux_lemma => kernel_rfl) (by as_aux_lemma => kernel_rfl) (by as_aux_lemma => kernel_rfl) (fun _ _ _ h => h) (by rfl) ?h8 (by assumption) ?_
    case h8 => exact fun w _ => run_eql_op rfl rfl rfl hg (hqD w)
    simp only [List.setIfInBounds_toArray, List.set_cons_zero, List.set_cons_succ]
    refine Ord.take (i := 9) (d := 41) (v := ?v9) rfl rfl (by as_aux_lemma => kernel_rfl) (by as_aux_lemma => kernel_rfl) (by as_aux_lemma => kernel_rfl) (fun _ _ _ h => h) (by rfl) ?h9 (by assumption) ?_
    case h9 => intro w hSw; go_simp; try with_reducible rfl
    simp only [List.setIfInBounds_toArray, List.set_cons_zero, List.set_cons_succ]
    refine Ord.take (i := 10) (d := 42) (v := ?v10) rfl rfl (by as_aux_lemma => kernel_rfl) (by as_aux_lemma => kernel_rfl) (by as_aux_lemma => kernel_rfl) (fun _ _ _ h => h) (by rfl) ?h10 (by assumption) ?_
    case h10 => intro w hSw; go_simp; try with_reducible rfl
    simp only [List.setIfInBounds_toArray, List.set_cons_zero, List.set_cons_succ]
    refine Ord.take (i := 11) (d := 43) (v := .int .i64 E) rfl rfl (by as_aux_lemma => kernel_rfl) (by as_aux_lemma => kernel_rfl) (by as_aux_lemma => kernel_rfl) (fun _ _ _ h => h) (by rfl) ?h11 (by assumption) ?_
    case h11 => intro w hSw; go_simp; try with_reducible rfl
    simp only [List.setIfInBounds_toArray, List.set_cons_zero, List.set_cons_succ]
    refine Ord.take (i := 12) (d := 44) (v := .int .i64 E) rfl rfl (by as_aux_lemma => kernel_rfl) (by as_aux_lemma => kernel_rfl) (by as_aux_lemma => kernel_rfl) (fun _ _ _ h => h) (by rfl) ?h12 (by assumption) ?_
    case h12 => intro w hSw; go_simp; try with_reducible rfl
    simp only [List.setIfInBounds_toArray, List.set_cons_zero, List.set_cons_succ]
    refine Ord.take (i := 13) (d := 45) (v := .bool true) rfl rfl (by as_aux_lemma => kernel_rfl) (by as_aux_lemma => kernel_rfl) (by as_aux_lemma => kernel_rfl) (fun _ _ _ h => h) (by rfl) ?h13 (by assumption) ?_
    case h13 => intro w hSw; go_simp; try with_reducible rfl
    simp only [List.setIfInBounds_toArray, List.set_cons_zero, List.set_cons_succ]
    refine Ord.take (i := 14) (d := 46) (v := ?v14) rfl rfl (by as_aux_lemma => kernel_rfl) (by as_aux_lemma => kernel_rfl) (by as_aux_lemma => kernel_rfl) (fun _ _ _ h => h) (by rfl) ?h14 (by assumption) ?_
    case h14 => intro w hSw; go_simp; try with_reducible rfl
    simp only [List.setIfInBounds_toArray, List.set_cons_zero, List.set_cons_succ]
    refine Ord.take (i := 15) (d := 47) (v := ?v15) rfl rfl (by as_aux_lemma => kernel_rfl) (by as_aux_lemma => kernel_rfl) (by as_aux_lemma => kernel_rfl) (fun _ _ _ h => h) (by rfl) ?h15 (by assumption) ?_
    case h15 => intro w hSw; go_simp; try with_reducible rfl
    simp only [List.setIfInBounds_toArray, List.set_cons_zero, List.set_cons_succ]
    refine Ord.take (i := 16) (d := 48) (v := .agg (arr .u8 d)) rfl rfl (by as_aux_lemma => kernel_rfl) (by as_aux_lemma => kernel_rfl) (by as_aux_lemma => kernel_rfl) (fun _ _ _ h => h) (by rfl) ?h16 (by assumption) ?_
    case h16 => exact fun w hSw => run_load_op (p := .pointer (some ⟨gc, 0, none⟩)) rfl rfl (L4 w hSw)
    simp only [List.setIfInBounds_toArray, List.set_cons_zero, List.set_cons_succ]
    refine Ord.take (i := 17) (d := 49) (v := .agg (arr .u8 d)) rfl rfl (by as_aux_lemma => kernel_rfl) (by as_aux_lemma => kernel_rfl) (by as_aux_lemma => kernel_rfl) (fun _ _ _ h => h) (by rfl) ?h17 (by assumption) ?_
    case h17 => exact fun w hSw => run_load_op (p := .pointer (some ⟨W.heap.size, 0, none⟩)) rfl rfl (L0 w hSw)
    simp only [List.setIfInBounds_toArray, List.set_cons_zero, List.set_cons_succ]
    refine Ord.take (i := 18) (d := 50) (v := .bool true) rfl rfl (by as_aux_lemma => kernel_rfl) (by as_aux_lemma => kernel_rfl) (by as_aux_lemma => kernel_rfl) (fun _ _ _ h => h) (by rfl) ?h18 (by assumption) ?_
    case h18 => exact fun w _ => run_eql_op rfl rfl rfl hg (hq0 w)
    simp only [List.setIfInBounds_toArray, List.set_cons_zero, List.set_cons_succ]
    refine Ord.take (i := 19) (d := 51) (v := ?v19) rfl rfl (by as_aux_lemma => kernel_rfl) (by as_aux_lemma => kernel_rfl) (by as_aux_lemma => kernel_rfl) (fun _ _ _ h => h) (by rfl) ?h19 (by assumption) ?_
    case h19 => intro w hSw; go_simp; try with_reducible rfl
    simp only [List.setIfInBounds_toArray, List.set_cons_zero, List.set_cons_succ]
    refine Ord.take (i := 20) (d := 52) (v := ?v20) rfl rfl (by as_aux_lemma => kernel_rfl) (by as_aux_lemma => kernel_rfl) (by as_aux_lemma => kernel_rfl) (fun _ _ _ h => h) (by rfl) ?h20 (by assumption) ?_
    case h20 => intro w hSw; go_simp; try with_reducible rfl
    simp only [List.setIfInBounds_toArray, List.set_cons_zero, List.set_cons_succ]
    refine Ord.take (i := 21) (d := 53) (v := ?v21) rfl rfl (by as_aux_lemma => kernel_rfl) (by as_aux_lemma => kernel_rfl) (by as_aux_lemma => kernel_rfl) (fun _ _ _ h => h) (by rfl) ?h21 (by assumption) ?_
    case h21 => intro w hSw; go_simp; try with_reducible rfl
    simp only [List.setIfInBounds_toArray, List.set_cons_zero, List.set_cons_succ]
    refine Ord.take (i := 22) (d := 54) (v := ?v22) rfl rfl (by as_aux_lemma => kernel_rfl) (by as_aux_lemma => kernel_rfl) (by as_aux_lemma => kernel_rfl) (fun _ _ _ h => h) (by rfl) ?h22 (by assumption) ?_
    case h22 => intro w hSw; go_simp; try with_reducible rfl
    simp only [List.setIfInBounds_toArray, List.set_cons_zero, List.set_cons_succ]
    refine Ord.take (i := 23) (d := 55) (v := ?v23) rfl rfl (by as_aux_lemma => kernel_rfl) (by as_aux_lemma => kernel_rfl) (by as_aux_lemma => kernel_rfl) (fun _ _ _ h => h) (by rfl) ?h23 (by assumption) ?_
    case h23 => intro w hSw; go_simp; try with_reducible rfl
    simp only [List.setIfInBounds_toArray, List.set_cons_zero, List.set_cons_succ]
    refine Ord.take (i := 24) (d := 56) (v := ?v24) rfl rfl (by as_aux_lemma => kernel_rfl) (by as_aux_lemma => kernel_rfl) (by as_aux_lemma => kernel_rfl) (fun _ _ _ h => h) (by rfl) ?h24 (by assumption) ?_
    case h24 => intro w hSw; go_simp; try with_reducible rfl
    simp only [List.setIfInBounds_toArray, List.set_cons_zero, List.set_cons_succ]
    refine wpAnyH_ready (rs := [25]) (by as_aux_lemma => kernel_rfl) (by simp) (AllReadyH.cons rfl (fun K hK => ?_) AllReadyH.nil)
    go_simp
    refine (H12.out _ (HLV.out.later hS2)).mono ?_
    rintro _ x4 ⟨rfl, hb4⟩
    have hS4 := Bn hS2 hb4
    refine hK.out _ _ hS4 (fun _ => ?_)
    clear hK K hb4
    refine Ord.take (i := 26) (d := 58) (v := ?v26) rfl rfl (by as_aux_lemma => kernel_rfl) (by as_aux_lemma => kernel_rfl) (by as_aux_lemma => kernel_rfl) (fun _ _ _ h => h) (by rfl) ?h26 (by assumption) ?_
    case h26 => intro w hSw; go_simp; try with_reducible rfl
    simp only [List.setIfInBounds_toArray, List.set_cons_zero, List.set_cons_succ]
    refine Ord.take (i := 27) (d := 4) (v := ?v27) rfl rfl (by as_aux_lemma => kernel_rfl) (by as_aux_lemma => kernel_rfl) (by as_aux_lemma => kernel_rfl) (fun _ _ _ h => h) (by rfl) ?h27 (by assumption) ?_
    case h27 => intro w hSw; go_simp; try with_reducible rfl
    simp only [List.setIfInBounds_toArray, List.set_cons_zero, List.set_cons_succ]
    refine wpAnyH_done (by as_aux_lemma => kernel_rfl) ?_ _
    have HE := hid (Bn HBV.out hS4)
    clear hS hS1 hS2 hS4 hq0 hqD L0 L1 L2 L4
    go_wp2
    go_ret
    exact ⟨rfl, HE.out⟩

set_option maxRecDepth 100000 in
theorem lifted (os : Os) (started : os.Started) (H : Type) (enc : TypeId × Value → H) :
    ReturnsInHanded {} Tryd.checked os 5 .any (fun w args => (Rows.shaTextsSpec.pre enc Tryd.prog Tryd.f5 [] false w args ∧ laidMetH Tryd.prog laidL w) ∧ sizedMet enc Tryd.prog Tryd.f5 (OpenSpec.ofChange Rows.shaTextsSpec) false w args)
      (Rows.shaTextsSpec.post enc Tryd.prog Tryd.f5 false true false false) := by
  refine returnsInHanded_of_change_and (C := Tryd.checked) (X := fun w _ => laidMetH Tryd.prog laidL w) (fun _ _ _ hh h => h.of_heap hh) own started (by kernel_rfl) Tryd.func5
    (ChangeSpec.witness_shaped (enc := enc) (C := Tryd.checked) (os := os) (X := fun w _ => laidMetH Tryd.prog laidL w) false (World.doorLaid Tryd.prog 400 os) #[.agg (arr .u8 (List.replicate 32 0)), .string ⟨#[]⟩] 8 rfl (World.shaped_of_RefB (by kernel_rfl) (by kernel_rfl)) (by kernel_rfl) (by kernel_rfl) (by kernel_rfl) (door_met os _)) ?_
  intro W base args ds gs before hval0 hW _ _ hL _
  have hval : ∀ (j : Nat) t v, Tryd.f5.params[j]? = some t → args[j]? = some v → Value.okWide Tryd.prog W .any base t v := hval0
  have hW' := hW
  obtain ⟨p, q, hA0, hV, rfl, _, _⟩ := hW
  have hA : DataW.TrodAll enc Tryd.prog W 0 (fun _ => true) true Tryd.f5.params.toList args.toList ds p := hA0
  rw [Tryd.params5] at hA hval
  obtain ⟨v0, vs0, d0, ds0, p0, q0, hargs, rfl, rfl, h0, r0⟩ := trodAll_cons hA
  obtain ⟨v1, vs1, d1, ds1, p1, q1, rfl, rfl, rfl, h1, r1⟩ := trodAll_cons r0
  obtain ⟨rfl, rfl, rfl⟩ := trodAll_nil r1
  obtain rfl : args = #[v0, v1] := by cases args; simp_all
  obtain ⟨rfl, rfl⟩ := trodVars_none hV
  have hlaid := of_laid hL
  have hk0 := h0
  obtain ⟨l0, rfl, hl0, rfl, hb0⟩ := open_arr Tryd.underlying25 Tryd.underlying5 Tryd.cells5 Tryd.cells25 rfl (hval 0 25 v0 rfl rfl) h0
  clear hA0
  simp only [List.append_nil, List.nil_append] at hW'
  have hk1 := h1
  obtain ⟨s1, rfl, rfl, rfl, hsz1⟩ := Go.ChangeMaps.open_string Tryd.underlying9 (hval 1 9 v1 rfl rfl) h1
  have hlt1 : ∀ x ∈ ([] : List MemPlace), x.block < W.heap.size := fun _ h => by cases h
  clear hval0
  have hm8 : IntKind.u8.max = 255 := rfl
  have hb0' : ∀ j, l0.getD j 0 < 256 := fun j => by have := hb0 j; omega
  refine (walk l0 s1 W hlaid hl0 hb0' hsz1).mono fun e W' ⟨he, hb⟩ => ?_
  subst he
  exact ⟨_, rfl, _, _, _, [] ++ [], _, [], hW', trodAll_cons_mk (shut_bool Tryd.underlying4 _) trodAll_mk0, (trodAll_cons_mk (Below.trod Tryd.laidOut (by kernel_rfl) (of_decide_eq_true (by kernel_rfl)) hk0 hb (fun _ h => by cases h)) (trodAll_cons_mk (Below.trod Tryd.laidOut (by kernel_rfl) (of_decide_eq_true (by kernel_rfl)) hk1 hb hlt1) trodAll_mk0)), rfl, hb.frame _, fun h => by cases h⟩

theorem over : Rows.shaTextsRow.holds Tryd.pinned (OpenSpec.ofChange Rows.shaTextsSpec) :=
  OpenClaim.holds_of_wide 5 Tryd.f5 rfl rfl rfl rfl rfl rfl rfl ⟨rfl, rfl, rfl, rfl, rfl⟩ rfl rfl rfl rfl rfl (by kernel_rfl) Tryd.func5 (by kernel_rfl)
    (of_decide_eq_true (by kernel_rfl)) (by unfold Func.isWrapper; first | (rw [if_pos (by decide +kernel)]; kernel_rfl) | (rw [if_neg (by decide +kernel)]; exact ⟨rfl, rfl⟩))
    (fun os started H enc _ => lifted os started H enc)

theorem card : Rows.ShaTextsCardSaid :=
  Claim7.holds_tied_plain_at .later [] [.data, .data] true (true, "6c6f4a323530e6db23c53d62cf6eb094d8017c5b4fd6273f756ed505cd0c3c11") false
    over (fun _ h => by cases h) (by kernel_rfl) (fun _ h => by cases h) shaTexts_row_tie rfl ⟨rfl, rfl⟩ (by kernel_rfl) rfl
    (fun f fn hf hfn => by
      obtain rfl : f = 5 := Option.some.inj ((show Tryd.prog.funcNamed "saltern/salternlaw03.ShaTexts" = some 5 by kernel_rfl).symm.trans hf) |>.symm
      obtain rfl : fn = Tryd.f5 := (Option.some.inj (Tryd.func5.symm.trans hfn)).symm
      exact ⟨by kernel_rfl, fun j t ht => by
        rw [Tryd.params5] at ht
        have hm : t ∈ [25, 9] := by simpa using Array.mem_of_getElem? ht
        have hall : ([25, 9].all fun u => !Tryd.prog.wantsStandIn u) = true := by kernel_rfl
        exact (show Tryd.prog.wantsStandIn t = false by simpa using List.all_eq_true.1 hall t hm)⟩)
    (by kernel_rfl)

end Go.Proofs.YtkehhlbbnlnbcaaDoor.shaTexts
namespace Go.Proofs.YtkehhlbbnlnbcaaDoor
theorem shaTexts_holds : Rows.ShaTextsCardSaid := shaTexts.card
#print axioms shaTexts_holds
end Go.Proofs.YtkehhlbbnlnbcaaDoor
