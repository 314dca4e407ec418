/-
  The head behind a record: the contract of record's Next.
-/
import Derived.Test.YtplinkmagnihmaaDoorRcI
import Derived.Test.YtplinkmagnihmaaDoorBsh
namespace Go.Proofs.YtplinkmagnihmaaDoor
open Go.ChangeShapes Go.WideShapes Go.ChangeAt Go.RowKit Go.Deep Go.Lib

theorem list32 (d : List Int) (h : d.length = 32) : ∃ a0 a1 a2 a3 a4 a5 a6 a7 a8 a9 a10 a11 a12 a13 a14 a15 a16 a17 a18 a19 a20 a21 a22 a23 a24 a25 a26 a27 a28 a29 a30 a31 : Int, d = [a0, a1, a2, a3, a4, a5, a6, a7, a8, a9, a10, a11, a12, a13, a14, a15, a16, a17, a18, a19, a20, a21, a22, a23, a24, a25, a26, a27, a28, a29, a30, a31] := by
  match d, h with
  | [a0, a1, a2, a3, a4, a5, a6, a7, a8, a9, a10, a11, a12, a13, a14, a15, a16, a17, a18, a19, a20, a21, a22, a23, a24, a25, a26, a27, a28, a29, a30, a31], _ => exact ⟨_, _, _, _, _, _, _, _, _, _, _, _, _, _, _, _, _, _, _, _, _, _, _, _, _, _, _, _, _, _, _, _, rfl⟩
theorem built55 (n k : Int) (d : List Int) (h : d.length = 32) : Tryd.prog.built 27 [(0, .int .i64 n), (1, .int .i64 k), (2, .agg (u8A d))] = some (hdL n k d).toArray := by
  obtain ⟨a0, a1, a2, a3, a4, a5, a6, a7, a8, a9, a10, a11, a12, a13, a14, a15, a16, a17, a18, a19, a20, a21, a22, a23, a24, a25, a26, a27, a28, a29, a30, a31, rfl⟩ := list32 d h
  kernel_rfl
theorem wp_buildTo {P : Program} {o : Oper} {a : Act} {w : World} {K : Act → World → Prop} {Q : Exit → Act → World → Prop} (t : TypeId) (parts : Array (Nat × Operand)) (ho : o.op = .build t parts) (cells : Array Value) (hf : P.built t (parts.map fun (i, x) => (i, a.eval x)).toList = some cells)
    (h : K (a.put o.dst (.agg cells)) w) : o.wp P a w K Q := by
  refine wp_build t parts ho (by rw [hf]; rfl) ?_
  rw [hf]
  exact h
theorem Nx.drew {w W : World} {hs he : Int} {hc : List Int} {r : Rec} (h : Nx w W hs he hc r) : Nx w W.drew hs he hc r := ⟨⟨h.hd.blk, h.hd.len⟩, ⟨h.box.blk, h.box.len⟩, h.out, h.bel.drew⟩
def nxH (r : Rec) : List Value := hdL r.seq r.epoch (digL (wrB r))
set_option maxHeartbeats 3200000 in
set_option maxRecDepth 100000 in
theorem next_ok (hs he : Int) (hc : List Int) (r : Rec) (w : World) (hcl : hc.length = 32) (h : Rv w r) (hL : Sh.Laid w) (hf : fltO hs he hc r = 0) (hm : mayB r = true) (hwl : (wrB r).length ≤ 100000) (hw8 : ∀ j, (Lit.int .u8 ((wrB r).getD j 0)).wf = true) :
    Calls Tryd.prog 42 #[.agg (hdL hs he hc).toArray, .agg r.cs.toArray] w fun e w' => e = .returned (.tuple #[.agg (nxH r).toArray, .int .i64 0]) ∧ Below w.heap.size w w' := by
  have N0 := Nx.start w hs he hc r hcl h.len
  obtain ⟨W0, hW0⟩ : ∃ W0, W0 = ((w.alloc (.cells (hdL hs he hc).toArray 27)).alloc (.cells r.cs.toArray 58)).alloc (.cells (hdL 0 0 z32).toArray 27) := ⟨_, rfl⟩
  rw [← hW0] at N0
  have HW0 := hid hW0
  clear hW0
  have HN0 := hid N0
  have HHL := hid (hdL_len hs he hc hcl)
  have HRL := hid (Rec.cs_len h.len)
  have HR0 := hid N0.hd.range
  have HX0 := hid N0.box.range
  have HFW := hid (fault_word hs he hc r _ hcl (h.later N0.bel))
  have HWW := hid (fun V (hV : Below w.heap.size w V) => written_word r V (h.later hV) hm)
  have HLA := hid hL
  have HW8 := hid hw8
  have HWL := hid hwl
  have HNE : Hid (0 < (wrB r).length) := by
    show _ < _
    unfold wrB wrH
    split
    · simp
    · split <;> simp
  have s1 : (w.alloc (.cells (hdL hs he hc).toArray 27)).heap.size = w.heap.size + 1 := by simp
  have HS2 : Hid (w.heap.size + 2 = ((w.alloc (.cells (hdL hs he hc).toArray 27)).alloc (.cells r.cs.toArray 58)).heap.size) := by show _ = _; simp
  rw [hf] at HFW
  have HPS := hid (fun bx ox cx V (q1 : Sh.Laid V) q2 g q3 => psum_word bx ox cx (wrB r) V q1 q2 hwl g q3)
  have HDL := hid (digL_len (wrB r))
  unfold nxH
  generalize digL (wrB r) = D at *
  generalize wrB r = BB at *
  have HSD : Hid ((Tryd.prog.info? 27).map (·.size) = some (hdL r.seq r.epoch D).toArray.size) := size_hd HDL.out
  have HSE : Hid ((hdL 0 0 z32).toArray.size = (hdL r.seq r.epoch D).toArray.size) := by show _ = _; rw [List.size_toArray, List.size_toArray, hdL_len _ _ _ rfl, hdL_len _ _ _ HDL.out]
  have HBD := hid (built55 r.seq r.epoch D HDL.out)
  have HON := hid (all_oneCell_toArray (hdL_one r.seq r.epoch D))
  have HLH := hid (fun V (q : V.heap[w.heap.size + 2]? = _) => load_hd (W := V) (g := w.heap.size + 2) (n := r.seq) (k := r.epoch) (d := D) q HDL.out)
  generalize hdN : (hdL r.seq r.epoch D).toArray = DD at *
  clear N0 h hL hf hm hw8 hwl hdN
  go_enter Tryd.func42, Tryd.ntmps42
  go_wp2_with (first | refine wpList_alloc_to rfl 27 rfl (some 4) rfl _ Tryd.zero27 (w.heap.size + 2) HS2.out W0 HW0.out ?_ | refine wpList_load_g rfl 27 _ rfl w.heap.size 0 rfl (hdL hs he hc) _ HR0.out Tryd.underlying27 rfl (by rw [HHL.out]; exact Tryd.size27) ?_ | refine wpList_load_g rfl 58 _ rfl (w.heap.size + 1) 0 rfl r.cs _ HX0.out Tryd.underlying58 rfl (by rw [HRL.out]; exact Tryd.size58) ?_ | fail)
  refine HFW.out.mono ?_
  rintro _ W4 ⟨rfl, hb4⟩
  have HN4 := hid (HN0.out.later hb4)
  clear HFW hb4 HN0 HR0 HX0 s1
  go_wp2_with fail
  refine wp_region_held_drew (S := fun V => Bx V (w.heap.size + 1) r ∧ Below w.heap.size w V) (by kernel_rfl) ⟨HN4.out.drew.box, HN4.out.drew.bel⟩ (fun hS0 => ?_)
  have hN0 := HN4.out.drew
  generalize W4.drew = v0 at *
  simp only [List.size_toArray, List.length_cons, List.length_nil, Nat.reduceAdd]
  refine Ord.take (i := 0) (d := 14) (v := ?v0) rfl rfl (by as_aux_lemma => kernel_rfl) (by as_aux_lemma => kernel_rfl) (by as_aux_lemma => kernel_rfl) (fun _ _ _ h => h) (by rfl) ?hA0 (by assumption) ?_
  case hA0 => intro V hSw; go_simp; try with_reducible rfl
  try simp only [List.setIfInBounds_toArray, List.set_cons_zero, List.set_cons_succ]
  refine Ord.take (i := 1) (d := 15) (v := .int .i64 r.seq) rfl rfl (by as_aux_lemma => kernel_rfl) (by as_aux_lemma => kernel_rfl) (by as_aux_lemma => kernel_rfl) (fun _ _ _ h => h) (by rfl) ?hA1 (by assumption) ?_
  case hA1 => intro V hSw; have q := hSw.1.c0; go_simp; try with_reducible rfl
  try simp only [List.setIfInBounds_toArray, List.set_cons_zero, List.set_cons_succ]
  refine Ord.take (i := 2) (d := 16) (v := ?v2) rfl rfl (by as_aux_lemma => kernel_rfl) (by as_aux_lemma => kernel_rfl) (by as_aux_lemma => kernel_rfl) (fun _ _ _ h => h) (by rfl) ?hA2 (by assumption) ?_
  case hA2 => intro V hSw; go_simp; try with_reducible rfl
  try simp only [List.setIfInBounds_toArray, List.set_cons_zero, List.set_cons_succ]
  refine Ord.take (i := 3) (d := 17) (v := .int .i64 r.epoch) rfl rfl (by as_aux_lemma => kernel_rfl) (by as_aux_lemma => kernel_rfl) (by as_aux_lemma => kernel_rfl) (fun _ _ _ h => h) (by rfl) ?hA3 (by assumption) ?_
  case hA3 => intro V hSw; have q := hSw.1.c1; go_simp; try with_reducible rfl
  try simp only [List.setIfInBounds_toArray, List.set_cons_zero, List.set_cons_succ]
  refine Ord.take (i := 4) (d := 18) (v := .agg r.cs.toArray) rfl rfl (by as_aux_lemma => kernel_rfl) (by as_aux_lemma => kernel_rfl) (by as_aux_lemma => kernel_rfl) (fun _ _ _ h => h) (by rfl) ?hA4 (by assumption) ?_
  case hA4 => intro V hSw; exact exec_load 58 (.tmp 3) rfl (w.heap.size + 1) 0 rfl hSw.1.load
  try simp only [List.setIfInBounds_toArray, List.set_cons_zero, List.set_cons_succ]
  refine wpAnyH_ready (rs := [5]) (by as_aux_lemma => kernel_rfl) (by simp) (AllReadyH.cons rfl (fun K hK => ?_) AllReadyH.nil)
  go_simp
  refine (HWW.out v0 hS0.2).mono ?_
  rintro _ v1 ⟨v, rfl, ho, hb1⟩
  obtain ⟨ax, cx, rfl, hrx⟩ := Ri.own ho HW8.out
  obtain ⟨bx, ox, rfl, _, _⟩ := hrx.cells HNE.out
  have hN1 := hN0.later hb1
  have hS1 : Bx v1 (w.heap.size + 1) r ∧ Below w.heap.size w v1 := ⟨hN1.box, hN1.bel⟩
  have HRX := hid hrx
  refine hK.out _ _ hS1 (fun _ => ?_)
  clear hK K ho hrx hb1
  try simp only [List.setIfInBounds_toArray, List.set_cons_zero, List.set_cons_succ]
  refine wpAnyH_ready (rs := [6]) (by as_aux_lemma => kernel_rfl) (by simp) (AllReadyH.cons rfl (fun K hK => ?_) AllReadyH.nil)
  go_simp
  have hb2 := bel_alc v1 (.cells #[.slice (some ⟨bx, ox, none⟩) BB.length cx] 22)
  have hN2 := hN1.later hb2
  have hS2 := And.intro hN2.box hN2.bel
  refine hK.out _ _ hS2 (fun _ => ?_)
  clear hK K
  try simp only [List.setIfInBounds_toArray, List.set_cons_zero, List.set_cons_succ]
  refine wpAnyH_ready (rs := [7]) (by as_aux_lemma => kernel_rfl) (by simp) (AllReadyH.cons rfl (fun K hK => ?_) AllReadyH.nil)
  go_simp
  refine (HPS.out bx ox cx v1 (HLA.out.later hS1.2) HRX.out v1.heap.size rfl).mono ?_
  rintro _ v3 ⟨rfl, hb3⟩
  have hN3 := hN1.later hb3
  have hS3 : Bx v3 (w.heap.size + 1) r ∧ Below w.heap.size w v3 := ⟨hN3.box, hN3.bel⟩
  refine hK.out _ _ hS3 (fun _ => ?_)
  clear hK K hb2 hS2 hN2
  try simp only [List.setIfInBounds_toArray, List.set_cons_zero, List.set_cons_succ]
  refine wpAnyH_ready (rs := [8]) (by as_aux_lemma => kernel_rfl) (by simp) (AllReadyH.cons rfl (fun K hK => ?_) AllReadyH.nil)
  rw [if_pos (by rfl)]
  refine wp_buildTo 27 _ rfl DD ?hbuilt ?_
  case hbuilt =>
    refine Eq.trans (congrArg (Tryd.prog.built 27) ?_) HBD.out
    first | rfl | simp [go_sem] | trace_state
  refine hK.out _ _ hS3 (fun _ => ?_)
  clear hK K
  try simp only [List.setIfInBounds_toArray, List.set_cons_zero, List.set_cons_succ]
  refine wpAnyH_ready (rs := [9]) (by as_aux_lemma => kernel_rfl) (by simp) (AllReadyH.cons rfl (fun K hK => ?_) AllReadyH.nil)
  rw [if_pos (by rfl)]
  refine wp_store_row 27 _ _ rfl (w.heap.size + 2) DD rfl rfl 27 _ hN3.out HSD.out HSE.out HON.out ?_
  have hS4 : Bx (v3.setRow (w.heap.size + 2) DD) (w.heap.size + 1) r ∧ Below w.heap.size w (v3.setRow (w.heap.size + 2) DD) := ⟨⟨(other_setRow _ _ _ _ (by omega)).trans hS3.1.blk, hS3.1.len⟩, below_setRow hS3.2 (by omega) _⟩
  refine hK.out _ _ hS4 (fun _ => ?_)
  clear hK K
  have HE4 := hid (setRow_heap _ _ _ DD _ _ hN3.out)
  generalize v3.setRow (w.heap.size + 2) DD = v4 at *
  try simp only [List.setIfInBounds_toArray, List.set_cons_zero, List.set_cons_succ]
  refine Ord.take (i := 10) (d := 5) (v := ?v10) rfl rfl (by as_aux_lemma => kernel_rfl) (by as_aux_lemma => kernel_rfl) (by as_aux_lemma => kernel_rfl) (fun _ _ _ h => h) (by rfl) ?hA10 (by assumption) ?_
  case hA10 => intro V hSw; go_simp; try with_reducible rfl
  try simp only [List.setIfInBounds_toArray, List.set_cons_zero, List.set_cons_succ]
  refine wpAnyH_done (by as_aux_lemma => kernel_rfl) ?_ _
  go_wp2
  refine bodyPost_ret (results_row_tmp rfl _ _ (w.heap.size + 2) _ rfl (HLH.out _ HE4.out)) rfl ?_
  exact ⟨rfl, hS4.2⟩
end Go.Proofs.YtplinkmagnihmaaDoor
