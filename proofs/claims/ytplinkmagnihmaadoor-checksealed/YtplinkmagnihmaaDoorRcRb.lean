/-
  The document's side: a record that is made to follow.
-/
import Derived.Test.YtplinkmagnihmaaDoorRcR
namespace Go.Proofs.YtplinkmagnihmaaDoor
open Go.ChangeShapes Go.WideShapes Go.ChangeAt Go.RowKit Go.Deep

/-- What the document's Make answers. -/
def MkQ (hs he : Int) (hc : List Int) (r : Rec) (v : Value) (e : Int) : Prop :=
  e = fltO hs he hc (mkR hs he hc r) ∧ ((e ≠ 0 ∧ v = .agg recZ.cs.toArray) ∨ (e = 0 ∧ v = .agg (mkR hs he hc r).cs.toArray))
theorem flt_out (hs he : Int) (hc : List Int) (r : Rec) (hw : (Lit.int .i64 hs).wf = true) (h : hs < 0 ∨ 1073741824 ≤ hs) : fltO hs he hc (mkR hs he hc r) = 130 := by
  have hb := wf_i64 hw
  unfold fltO
  rw [if_neg]
  intro q
  have := (may_parts q).1
  have e : (mkR hs he hc r).seq = wrap64 (hs + 1) := rfl
  rw [e] at this
  unfold wrap64 at this
  omega
set_option maxHeartbeats 6400000 in
set_option maxRecDepth 100000 in
theorem dmake_out (hs he : Int) (hc : List Int) (r : Rec) (w : World) (hcl : hc.length = 32) (h : Rv w r) (hw : (Lit.int .i64 hs).wf = true) (hq : hs < 0 ∨ 1073741824 ≤ hs) :
    Calls Tryd.prog 29 #[.agg (hdL hs he hc).toArray, .agg r.cs.toArray] w fun e w' => ∃ v e', e = .returned (.tuple #[v, .int .i64 e']) ∧ Below w.heap.size w w' ∧ MkQ hs he hc r v e' := by
  have M0 := Mk.start w hs he hc r hcl h.len
  obtain ⟨W0, hW0⟩ : ∃ W0, W0 = ((w.alloc (.cells (hdL hs he hc).toArray 27)).alloc (.cells r.cs.toArray 58)).alloc (.cells recZ.cs.toArray 58) := ⟨_, rfl⟩
  rw [← hW0] at M0
  have HW0 := hid hW0
  clear hW0
  have s1 : (w.alloc (.cells (hdL hs he hc).toArray 27)).heap.size = w.heap.size + 1 := by simp
  have HS2 : Hid (w.heap.size + 2 = ((w.alloc (.cells (hdL hs he hc).toArray 27)).alloc (.cells r.cs.toArray 58)).heap.size) := by show _ = _; simp
  have d0 := M0.hd.c0
  have HO := hid M0.out
  have HB := hid M0.bel
  have HF := hid (flt_out hs he hc r hw hq)
  have HP : Hid (MkQ hs he hc r (.agg recZ.cs.toArray) 130) := ⟨HF.out.symm, .inl ⟨by decide, rfl⟩⟩
  clear M0 h hw
  rcases hq with hq | hq
  · have e1 : decide (1073741824 ≤ hs) = false := decide_eq_false (by omega)
    go_enter Tryd.func29, Tryd.ntmps29
    go_wp2_with (first | refine wpList_alloc_to rfl 58 rfl (some 4) rfl _ Tryd.zero58 (w.heap.size + 2) HS2.out W0 HW0.out ?_ | refine wpList_buildTo rfl 58 _ rfl (some 16) rfl recZ.cs.toArray Tryd.built27 ?_ | refine wpList_store_rowTo rfl 58 _ _ rfl rfl (w.heap.size + 2) recZ.cs.toArray rfl rfl 58 _ HO.out (size_recs rfl) rfl (all_oneCell_toArray (Rec.cs_one _)) ?_ | fail)
    refine bodyPost_ret (results_row_tmp rfl _ _ (w.heap.size + 2) _ rfl (load_recs (setRow_heap _ _ _ _ _ _ HO.out) rfl)) rfl ?_
    exact ⟨_, _, rfl, below_setRow HB.out (by omega) _, HP.out⟩
  · go_enter Tryd.func29, Tryd.ntmps29
    go_wp2_with (first | refine wpList_alloc_to rfl 58 rfl (some 4) rfl _ Tryd.zero58 (w.heap.size + 2) HS2.out W0 HW0.out ?_ | refine wpList_buildTo rfl 58 _ rfl (some 16) rfl recZ.cs.toArray Tryd.built27 ?_ | refine wpList_store_rowTo rfl 58 _ _ rfl rfl (w.heap.size + 2) recZ.cs.toArray rfl rfl 58 _ HO.out (size_recs rfl) rfl (all_oneCell_toArray (Rec.cs_one _)) ?_ | fail)
    refine bodyPost_ret (results_row_tmp rfl _ _ (w.heap.size + 2) _ rfl (load_recs (setRow_heap _ _ _ _ _ _ HO.out) rfl)) rfl ?_
    exact ⟨_, _, rfl, below_setRow HB.out (by omega) _, HP.out⟩
set_option maxHeartbeats 6400000 in
set_option maxRecDepth 100000 in
theorem dmake_lead (hs he : Int) (hc : List Int) (r : Rec) (w : World) (hcl : hc.length = 32) (hc8 : ∀ j, (Lit.int .u8 (hc.getD j 0)).wf = true) (h : Rv w r) (hn : r.ps.length ≤ 1000) (hq1 : 0 ≤ hs) (hq2 : hs < 1073741824) (hk : r.kind = 1) :
    Calls Tryd.prog 29 #[.agg (hdL hs he hc).toArray, .agg r.cs.toArray] w fun e w' => ∃ v e', e = .returned (.tuple #[v, .int .i64 e']) ∧ Below w.heap.size w w' ∧ MkQ hs he hc r v e' := by
  have M0 := Mk.start w hs he hc r hcl h.len
  obtain ⟨W0, hW0⟩ : ∃ W0, W0 = ((w.alloc (.cells (hdL hs he hc).toArray 27)).alloc (.cells r.cs.toArray 58)).alloc (.cells recZ.cs.toArray 58) := ⟨_, rfl⟩
  rw [← hW0] at M0
  have HW0 := hid hW0
  clear hW0
  have s1 : (w.alloc (.cells (hdL hs he hc).toArray 27)).heap.size = w.heap.size + 1 := by simp
  have HS2 : Hid (w.heap.size + 2 = ((w.alloc (.cells (hdL hs he hc).toArray 27)).alloc (.cells r.cs.toArray 58)).heap.size) := by show _ = _; simp
  have d0 := M0.hd.c0
  have HMR : Hid (mkR hs he hc r = { r with seq := hs + 1, prev := hc }) := by
    show _ = _
    unfold mkR
    rw [if_pos hk, IntWalk.wrap64_in (hs + 1) (by omega)]
  have h3 : Rv w (mkR hs he hc r) := by
    rw [HMR.out]
    exact ⟨hcl, hc8, wf_mk_i64 (x := hs + 1) (by omega) (by omega), h.epoch, h.kind, h.site, h.path, h.row⟩
  have HPR : Hid (∀ v e, MkQ hs he hc r v e ↔ (e = fltO hs he hc (mkR hs he hc r) ∧ ((e ≠ 0 ∧ v = .agg recZ.cs.toArray) ∨ (e = 0 ∧ v = .agg (mkR hs he hc r).cs.toArray)))) := fun _ _ => Iff.rfl
  have HNW := hid (fun V (hV : Below w.heap.size w V) => dnext_word hs he hc (mkR hs he hc r) V hcl (h3.later hV) hn)
  have HRL := hid (Rec.cs_len h3.len)
  have HRK := hid h3.len
  have HM0 := hid M0
  have HCL : Hid ((hc.map (Value.int .u8)).length = 32) := by show _ = _; simp [hcl]
  have HCA : Hid ((hc.map (Value.int .u8)).toArray.size = 32) := by show _ = _; simp [hcl]
  have HC23 : Hid ((Tryd.prog.info? 25).map (·.size) = some (hc.map (Value.int .u8)).toArray.size) := by show _ = _; rw [HCA.out]; exact Tryd.size25
  have HC1 : Hid (∀ v ∈ hc.map (Value.int .u8), v.oneCell' = true) := fun v hv => by obtain ⟨z, _, rfl⟩ := List.mem_map.1 hv; rfl
  have HHL := hid (hdL_len hs he hc hcl)
  have HHC := hid hcl
  have g1 : decide (1073741824 ≤ hs) = false := decide_eq_false (by omega)
  have g2 : decide (hs < 0) = false := decide_eq_false (by omega)
  clear M0 h3 h
  go_enter Tryd.func29, Tryd.ntmps29
  go_wp2_with (first | refine wpList_alloc_to rfl 58 rfl (some 4) rfl _ Tryd.zero58 (w.heap.size + 2) HS2.out W0 HW0.out ?_ | fail)
  refine wp_region_held_drew (S := fun V => Bh V w.heap.size hs he hc ∧ Below w.heap.size w V) (by kernel_rfl) ⟨⟨HM0.out.hd.blk, HM0.out.hd.len⟩, HM0.out.bel.drew⟩ (fun hS0 => ?_)
  have HM1 : Hid (Mk w W0.drew hs he hc r) := ⟨⟨HM0.out.hd.blk, HM0.out.hd.len⟩, ⟨HM0.out.box.blk, HM0.out.box.len⟩, HM0.out.out, HM0.out.bel.drew⟩
  generalize W0.drew = v0 at *
  clear HM0 d0
  simp only [List.size_toArray, List.length_cons, List.length_nil, Nat.reduceAdd]
  refine Ord.take (i := 0) (d := 17) (v := ?v0) rfl rfl (by as_aux_lemma => kernel_rfl) (by as_aux_lemma => kernel_rfl) (by as_aux_lemma => kernel_rfl) (fun _ _ _ h => h) (by rfl) ?hA0 (by assumption) ?_
  case hA0 => intro V hSw; go_simp; try with_reducible rfl
  try simp only [List.setIfInBounds_toArray, List.set_cons_zero, List.set_cons_succ]
  refine Ord.take (i := 1) (d := 18) (v := .int .i64 hs) rfl rfl (by as_aux_lemma => kernel_rfl) (by as_aux_lemma => kernel_rfl) (by as_aux_lemma => kernel_rfl) (fun _ _ _ h => h) (by rfl) ?hA1 (by assumption) ?_
  case hA1 => intro V hSw; have q := hSw.1.c0; go_simp; try with_reducible rfl
  try simp only [List.setIfInBounds_toArray, List.set_cons_zero, List.set_cons_succ]
  refine Ord.take (i := 2) (d := 19) (v := .int .i64 (hs + 1)) rfl rfl (by as_aux_lemma => kernel_rfl) (by as_aux_lemma => kernel_rfl) (by as_aux_lemma => kernel_rfl) (fun _ _ _ h => h) (by rfl) ?hA2 (by assumption) ?_
  case hA2 => intro V hSw; go_simp; exact IntWalk.i64_in _ (by omega)
  try simp only [List.setIfInBounds_toArray, List.set_cons_zero, List.set_cons_succ]
  refine Ord.take (i := 3) (d := 20) (v := ?v3) rfl rfl (by as_aux_lemma => kernel_rfl) (by as_aux_lemma => kernel_rfl) (by as_aux_lemma => kernel_rfl) (fun _ _ _ h => h) (by rfl) ?hA3 (by assumption) ?_
  case hA3 => intro V hSw; go_simp; try with_reducible rfl
  try simp only [List.setIfInBounds_toArray, List.set_cons_zero, List.set_cons_succ]
  refine Ord.take (i := 4) (d := 21) (v := .agg (hc.map (Value.int .u8)).toArray) rfl rfl (by as_aux_lemma => kernel_rfl) (by as_aux_lemma => kernel_rfl) (by as_aux_lemma => kernel_rfl) (fun _ _ _ h => h) (by rfl) ?hA4 (by assumption) ?_
  case hA4 => intro V hSw; exact exec_load 25 (.tmp 20) rfl w.heap.size 2 rfl (run_loadVar_mid V w.heap.size 2 25 _ _ hSw.1.chain Tryd.underlying25 rfl (by rw [HCL.out]; exact Tryd.size25))
  try simp only [List.setIfInBounds_toArray, List.set_cons_zero, List.set_cons_succ]
  refine Ord.take (i := 5) (d := 22) (v := ?v5) rfl rfl (by as_aux_lemma => kernel_rfl) (by as_aux_lemma => kernel_rfl) (by as_aux_lemma => kernel_rfl) (fun _ _ _ h => h) (by rfl) ?hA5 (by assumption) ?_
  case hA5 => intro V hSw; go_simp; try with_reducible rfl
  try simp only [List.setIfInBounds_toArray, List.set_cons_zero, List.set_cons_succ]
  refine wpAnyH_ready (rs := [6]) (by as_aux_lemma => kernel_rfl) (by simp) (AllReadyH.cons rfl (fun K hK => ?_) AllReadyH.nil)
  have HM2 := hid (HM1.out.seq (hs + 1))
  have cc0 := HM1.out.box.c0
  have uu0 := Joins.unfrozen_of_block HM1.out.box.blk 0
  go_simp
  clear cc0 uu0
  refine hK.out _ _ ⟨HM2.out.hd, HM2.out.bel⟩ (fun _ => ?_)
  clear hK K HM1
  generalize v0.setCell ⟨w.heap.size + 1, 0, none⟩ (.int .i64 (hs + 1)) = v1 at *
  try simp only [List.setIfInBounds_toArray, List.set_cons_zero, List.set_cons_succ]
  refine Ord.take (i := 7) (d := 23) (v := ?v7) rfl rfl (by as_aux_lemma => kernel_rfl) (by as_aux_lemma => kernel_rfl) (by as_aux_lemma => kernel_rfl) (fun _ _ _ h => h) (by rfl) ?hA7 (by assumption) ?_
  case hA7 => intro V hSw; go_simp; try with_reducible rfl
  try simp only [List.setIfInBounds_toArray, List.set_cons_zero, List.set_cons_succ]
  refine wpAnyH_ready (rs := [8]) (by as_aux_lemma => kernel_rfl) (by simp) (AllReadyH.cons rfl (fun K hK => ?_) AllReadyH.nil)
  rw [if_pos (by rfl)]
  have HM3 := hid (HM2.out.prev hc HHC.out)
  refine wp_store_mid 25 _ _ rfl (w.heap.size + 1) 2 (hc.map (Value.int .u8)).toArray rfl rfl (by rw [HCA.out]; exact HM2.out.box.there) HC23.out (all_oneCell_toArray HC1.out) ?_
  refine hK.out _ _ ⟨HM3.out.hd, HM3.out.bel⟩ (fun _ => ?_)
  clear hK K HM2
  generalize v1.setCells (w.heap.size + 1) 2 (hc.map (Value.int .u8)).toArray.toList = v2 at *
  try simp only [List.setIfInBounds_toArray, List.set_cons_zero, List.set_cons_succ]
  refine wpAnyH_done (by as_aux_lemma => kernel_rfl) ?_ _
  have c34 : v2.cell? ⟨w.heap.size + 1, 34, none⟩ = some (.int .i64 r.kind) := HM3.out.box.c34
  have d1 := HM3.out.hd.c1
  have e1 := HM3.out.box.c1
  have u1 := Joins.unfrozen_of_block HM3.out.box.blk 1
  have HM4 := hid (HM3.out)
  obtain ⟨R3, hR3⟩ : ∃ R3, R3 = mkR hs he hc r := ⟨_, rfl⟩
  have HM5 := hid (show Mk w v2 hs he hc R3 by rw [hR3, HMR.out]; exact HM4.out)
  rw [← hR3] at HNW HRL HRK HPR
  have HNX := hid (HNW.out _ HM5.out.bel)
  have HR5 := hid HM5.out.hd.range
  have HX5 := hid HM5.out.box.range
  clear HMR HM4 HM3 HNW hR3
  rw [hk] at c34
  go_wp2_with (first | refine wpList_load_g rfl 27 _ rfl w.heap.size 0 rfl (hdL hs he hc) _ HR5.out Tryd.underlying27 rfl (by rw [HHL.out]; exact Tryd.size27) ?_ | refine wpList_load_g rfl 58 _ rfl (w.heap.size + 1) 0 rfl R3.cs _ HX5.out Tryd.underlying58 rfl (by rw [HRL.out]; exact Tryd.size58) ?_ | fail)
  refine HNX.out.mono ?_
  rintro _ W4 ⟨rfl, hb4⟩
  obtain ⟨NN, hNN⟩ : ∃ NN, NN = nxO hs he hc R3 := ⟨_, rfl⟩
  have hNl : NN.2.2.length = 32 := by rw [hNN]; exact nxO_len _ _ _ _
  rw [← hNN]
  obtain ⟨na, nb, nc⟩ := NN
  have hNl' : nc.length = 32 := hNl
  have hbb := bel_alc W4 (.cells (hdL na nb nc).toArray 27)
  have HSN : Hid ((Tryd.prog.info? 27).map (·.size) = some (hdL na nb nc).toArray.size) := size_hd hNl'
  have HZS : Hid ((hdL 0 0 z32).toArray.size = (hdL na nb nc).toArray.size) := by show _ = _; rw [List.size_toArray, List.size_toArray, hdL_len _ _ _ rfl, hdL_len _ _ _ hNl']
  have HON := hid (all_oneCell_toArray (hdL_one na nb nc))
  have HM6 := hid (HM5.out.later (Bn hb4 hbb))
  obtain ⟨W5, hW5⟩ : ∃ W5, W5 = W4.alloc (.cells (hdL na nb nc).toArray 27) := ⟨_, rfl⟩
  have HW5 := hid hW5
  rw [← hW5] at HM6
  have HO6 := hid HM6.out.out
  have HB6 := hid HM6.out.bel
  have HX6 := hid HM6.out.box.range
  clear hb4 hbb hNN hNl hNl' HNX HM5 HR5 HX5 hW5 c34 d1 e1 u1
  generalize fltO hs he hc R3 = F at *
  by_cases h0 : F = 0
  · subst h0
    go_wp2_with (first | refine wpList_alloc_at rfl 27 rfl (some 6) rfl _ Tryd.zero27 W4.heap.size rfl ?_ | refine wpList_store_as' rfl 27 _ _ rfl rfl W4 (hdL 0 0 z32).toArray (hdL na nb nc).toArray rfl rfl rfl HSN.out HZS.out HON.out W5 HW5.out ?_ | refine wpList_load_g rfl 58 _ rfl (w.heap.size + 1) 0 rfl R3.cs _ HX6.out Tryd.underlying58 rfl (by rw [HRL.out]; exact Tryd.size58) ?_ | refine wpList_store_rowTo rfl 58 _ _ rfl rfl (w.heap.size + 2) R3.cs.toArray rfl rfl 58 _ HO6.out (size_recs HRK.out) (by rw [Rec.cs_size HRK.out]; rfl) (all_oneCell_toArray (Rec.cs_one _)) ?_ | fail)
    refine bodyPost_ret (results_row_tmp rfl _ _ (w.heap.size + 2) _ rfl (load_recs (setRow_heap _ _ _ _ _ _ HO6.out) HRK.out)) rfl ?_
    exact ⟨_, _, rfl, below_setRow HB6.out (by omega) _, (HPR.out _ _).2 ⟨rfl, .inr ⟨rfl, rfl⟩⟩⟩
  · have HF0 := hid h0
    go_wp2_with (first | refine wpList_alloc_at rfl 27 rfl (some 6) rfl _ Tryd.zero27 W4.heap.size rfl ?_ | refine wpList_store_as' rfl 27 _ _ rfl rfl W4 (hdL 0 0 z32).toArray (hdL na nb nc).toArray rfl rfl rfl HSN.out HZS.out HON.out W5 HW5.out ?_ | refine wpList_buildTo rfl 58 _ rfl (some 38) rfl recZ.cs.toArray Tryd.built27 ?_ | refine wpList_store_rowTo rfl 58 _ _ rfl rfl (w.heap.size + 2) recZ.cs.toArray rfl rfl 58 _ HO6.out (size_recs rfl) rfl (all_oneCell_toArray (Rec.cs_one _)) ?_ | fail)
    refine bodyPost_ret (results_row_tmp rfl _ _ (w.heap.size + 2) _ rfl (load_recs (setRow_heap _ _ _ _ _ _ HO6.out) rfl)) rfl ?_
    exact ⟨_, _, rfl, below_setRow HB6.out (by omega) _, (HPR.out _ _).2 ⟨rfl, .inl ⟨HF0.out, rfl⟩⟩⟩
set_option maxHeartbeats 6400000 in
set_option maxRecDepth 100000 in
theorem dmake_other (hs he : Int) (hc : List Int) (r : Rec) (w : World) (hcl : hc.length = 32) (hc8 : ∀ j, (Lit.int .u8 (hc.getD j 0)).wf = true) (hhe : (Lit.int .i64 he).wf = true) (h : Rv w r) (hn : r.ps.length ≤ 1000) (hq1 : 0 ≤ hs) (hq2 : hs < 1073741824) (hk : r.kind ≠ 1) :
    Calls Tryd.prog 29 #[.agg (hdL hs he hc).toArray, .agg r.cs.toArray] w fun e w' => ∃ v e', e = .returned (.tuple #[v, .int .i64 e']) ∧ Below w.heap.size w w' ∧ MkQ hs he hc r v e' := by
  have M0 := Mk.start w hs he hc r hcl h.len
  obtain ⟨W0, hW0⟩ : ∃ W0, W0 = ((w.alloc (.cells (hdL hs he hc).toArray 27)).alloc (.cells r.cs.toArray 58)).alloc (.cells recZ.cs.toArray 58) := ⟨_, rfl⟩
  rw [← hW0] at M0
  have HW0 := hid hW0
  clear hW0
  have s1 : (w.alloc (.cells (hdL hs he hc).toArray 27)).heap.size = w.heap.size + 1 := by simp
  have HS2 : Hid (w.heap.size + 2 = ((w.alloc (.cells (hdL hs he hc).toArray 27)).alloc (.cells r.cs.toArray 58)).heap.size) := by show _ = _; simp
  have d0 := M0.hd.c0
  have HMR : Hid (mkR hs he hc r = { r with seq := hs + 1, prev := hc, epoch := he }) := by
    show _ = _
    unfold mkR
    rw [if_neg hk, IntWalk.wrap64_in (hs + 1) (by omega)]
  have h3 : Rv w (mkR hs he hc r) := by
    rw [HMR.out]
    exact ⟨hcl, hc8, wf_mk_i64 (x := hs + 1) (by omega) (by omega), hhe, h.kind, h.site, h.path, h.row⟩
  have HPR : Hid (∀ v e, MkQ hs he hc r v e ↔ (e = fltO hs he hc (mkR hs he hc r) ∧ ((e ≠ 0 ∧ v = .agg recZ.cs.toArray) ∨ (e = 0 ∧ v = .agg (mkR hs he hc r).cs.toArray)))) := fun _ _ => Iff.rfl
  have HNW := hid (fun V (hV : Below w.heap.size w V) => dnext_word hs he hc (mkR hs he hc r) V hcl (h3.later hV) hn)
  have HRL := hid (Rec.cs_len h3.len)
  have HRK := hid h3.len
  have HM0 := hid M0
  have HCL : Hid ((hc.map (Value.int .u8)).length = 32) := by show _ = _; simp [hcl]
  have HCA : Hid ((hc.map (Value.int .u8)).toArray.size = 32) := by show _ = _; simp [hcl]
  have HC23 : Hid ((Tryd.prog.info? 25).map (·.size) = some (hc.map (Value.int .u8)).toArray.size) := by show _ = _; rw [HCA.out]; exact Tryd.size25
  have HC1 : Hid (∀ v ∈ hc.map (Value.int .u8), v.oneCell' = true) := fun v hv => by obtain ⟨z, _, rfl⟩ := List.mem_map.1 hv; rfl
  have HHL := hid (hdL_len hs he hc hcl)
  have HHC := hid hcl
  have g1 : decide (1073741824 ≤ hs) = false := decide_eq_false (by omega)
  have g2 : decide (hs < 0) = false := decide_eq_false (by omega)
  clear M0 h3 h hhe
  go_enter Tryd.func29, Tryd.ntmps29
  go_wp2_with (first | refine wpList_alloc_to rfl 58 rfl (some 4) rfl _ Tryd.zero58 (w.heap.size + 2) HS2.out W0 HW0.out ?_ | fail)
  refine wp_region_held_drew (S := fun V => Bh V w.heap.size hs he hc ∧ Below w.heap.size w V) (by kernel_rfl) ⟨⟨HM0.out.hd.blk, HM0.out.hd.len⟩, HM0.out.bel.drew⟩ (fun hS0 => ?_)
  have HM1 : Hid (Mk w W0.drew hs he hc r) := ⟨⟨HM0.out.hd.blk, HM0.out.hd.len⟩, ⟨HM0.out.box.blk, HM0.out.box.len⟩, HM0.out.out, HM0.out.bel.drew⟩
  generalize W0.drew = v0 at *
  clear HM0 d0
  simp only [List.size_toArray, List.length_cons, List.length_nil, Nat.reduceAdd]
  refine Ord.take (i := 0) (d := 17) (v := ?v0) rfl rfl (by as_aux_lemma => kernel_rfl) (by as_aux_lemma => kernel_rfl) (by as_aux_lemma => kernel_rfl) (fun _ _ _ h => h) (by rfl) ?hA0 (by assumption) ?_
  case hA0 => intro V hSw; go_simp; try with_reducible rfl
  try simp only [List.setIfInBounds_toArray, List.set_cons_zero, List.set_cons_succ]
  refine Ord.take (i := 1) (d := 18) (v := .int .i64 hs) rfl rfl (by as_aux_lemma => kernel_rfl) (by as_aux_lemma => kernel_rfl) (by as_aux_lemma => kernel_rfl) (fun _ _ _ h => h) (by rfl) ?hA1 (by assumption) ?_
  case hA1 => intro V hSw; have q := hSw.1.c0; go_simp; try with_reducible rfl
  try simp only [List.setIfInBounds_toArray, List.set_cons_zero, List.set_cons_succ]
  refine Ord.take (i := 2) (d := 19) (v := .int .i64 (hs + 1)) rfl rfl (by as_aux_lemma => kernel_rfl) (by as_aux_lemma => kernel_rfl) (by as_aux_lemma => kernel_rfl) (fun _ _ _ h => h) (by rfl) ?hA2 (by assumption) ?_
  case hA2 => intro V hSw; go_simp; exact IntWalk.i64_in _ (by omega)
  try simp only [List.setIfInBounds_toArray, List.set_cons_zero, List.set_cons_succ]
  refine Ord.take (i := 3) (d := 20) (v := ?v3) rfl rfl (by as_aux_lemma => kernel_rfl) (by as_aux_lemma => kernel_rfl) (by as_aux_lemma => kernel_rfl) (fun _ _ _ h => h) (by rfl) ?hA3 (by assumption) ?_
  case hA3 => intro V hSw; go_simp; try with_reducible rfl
  try simp only [List.setIfInBounds_toArray, List.set_cons_zero, List.set_cons_succ]
  refine Ord.take (i := 4) (d := 21) (v := .agg (hc.map (Value.int .u8)).toArray) rfl rfl (by as_aux_lemma => kernel_rfl) (by as_aux_lemma => kernel_rfl) (by as_aux_lemma => kernel_rfl) (fun _ _ _ h => h) (by rfl) ?hA4 (by assumption) ?_
  case hA4 => intro V hSw; exact exec_load 25 (.tmp 20) rfl w.heap.size 2 rfl (run_loadVar_mid V w.heap.size 2 25 _ _ hSw.1.chain Tryd.underlying25 rfl (by rw [HCL.out]; exact Tryd.size25))
  try simp only [List.setIfInBounds_toArray, List.set_cons_zero, List.set_cons_succ]
  refine Ord.take (i := 5) (d := 22) (v := ?v5) rfl rfl (by as_aux_lemma => kernel_rfl) (by as_aux_lemma => kernel_rfl) (by as_aux_lemma => kernel_rfl) (fun _ _ _ h => h) (by rfl) ?hA5 (by assumption) ?_
  case hA5 => intro V hSw; go_simp; try with_reducible rfl
  try simp only [List.setIfInBounds_toArray, List.set_cons_zero, List.set_cons_succ]
  refine wpAnyH_ready (rs := [6]) (by as_aux_lemma => kernel_rfl) (by simp) (AllReadyH.cons rfl (fun K hK => ?_) AllReadyH.nil)
  have HM2 := hid (HM1.out.seq (hs + 1))
  have cc0 := HM1.out.box.c0
  have uu0 := Joins.unfrozen_of_block HM1.out.box.blk 0
  go_simp
  clear cc0 uu0
  refine hK.out _ _ ⟨HM2.out.hd, HM2.out.bel⟩ (fun _ => ?_)
  clear hK K HM1
  generalize v0.setCell ⟨w.heap.size + 1, 0, none⟩ (.int .i64 (hs + 1)) = v1 at *
  try simp only [List.setIfInBounds_toArray, List.set_cons_zero, List.set_cons_succ]
  refine Ord.take (i := 7) (d := 23) (v := ?v7) rfl rfl (by as_aux_lemma => kernel_rfl) (by as_aux_lemma => kernel_rfl) (by as_aux_lemma => kernel_rfl) (fun _ _ _ h => h) (by rfl) ?hA7 (by assumption) ?_
  case hA7 => intro V hSw; go_simp; try with_reducible rfl
  try simp only [List.setIfInBounds_toArray, List.set_cons_zero, List.set_cons_succ]
  refine wpAnyH_ready (rs := [8]) (by as_aux_lemma => kernel_rfl) (by simp) (AllReadyH.cons rfl (fun K hK => ?_) AllReadyH.nil)
  rw [if_pos (by rfl)]
  have HM3 := hid (HM2.out.prev hc HHC.out)
  refine wp_store_mid 25 _ _ rfl (w.heap.size + 1) 2 (hc.map (Value.int .u8)).toArray rfl rfl (by rw [HCA.out]; exact HM2.out.box.there) HC23.out (all_oneCell_toArray HC1.out) ?_
  refine hK.out _ _ ⟨HM3.out.hd, HM3.out.bel⟩ (fun _ => ?_)
  clear hK K HM2
  generalize v1.setCells (w.heap.size + 1) 2 (hc.map (Value.int .u8)).toArray.toList = v2 at *
  try simp only [List.setIfInBounds_toArray, List.set_cons_zero, List.set_cons_succ]
  refine wpAnyH_done (by as_aux_lemma => kernel_rfl) ?_ _
  have c34 : v2.cell? ⟨w.heap.size + 1, 34, none⟩ = some (.int .i64 r.kind) := HM3.out.box.c34
  have d1 := HM3.out.hd.c1
  have e1 := HM3.out.box.c1
  have u1 := Joins.unfrozen_of_block HM3.out.box.blk 1
  have HM4 := hid (HM3.out.epoch he)
  obtain ⟨R3, hR3⟩ : ∃ R3, R3 = mkR hs he hc r := ⟨_, rfl⟩
  have HM5 := hid (show Mk w (v2.setCell ⟨w.heap.size + 1, 1, none⟩ (.int .i64 he)) hs he hc R3 by rw [hR3, HMR.out]; exact HM4.out)
  rw [← hR3] at HNW HRL HRK HPR
  have HNX := hid (HNW.out _ HM5.out.bel)
  have HR5 := hid HM5.out.hd.range
  have HX5 := hid HM5.out.box.range
  clear HMR HM4 HM3 HNW hR3
  skip
  go_wp2_with (first | refine wpList_load_g rfl 27 _ rfl w.heap.size 0 rfl (hdL hs he hc) _ HR5.out Tryd.underlying27 rfl (by rw [HHL.out]; exact Tryd.size27) ?_ | refine wpList_load_g rfl 58 _ rfl (w.heap.size + 1) 0 rfl R3.cs _ HX5.out Tryd.underlying58 rfl (by rw [HRL.out]; exact Tryd.size58) ?_ | fail)
  refine HNX.out.mono ?_
  rintro _ W4 ⟨rfl, hb4⟩
  obtain ⟨NN, hNN⟩ : ∃ NN, NN = nxO hs he hc R3 := ⟨_, rfl⟩
  have hNl : NN.2.2.length = 32 := by rw [hNN]; exact nxO_len _ _ _ _
  rw [← hNN]
  obtain ⟨na, nb, nc⟩ := NN
  have hNl' : nc.length = 32 := hNl
  have hbb := bel_alc W4 (.cells (hdL na nb nc).toArray 27)
  have HSN : Hid ((Tryd.prog.info? 27).map (·.size) = some (hdL na nb nc).toArray.size) := size_hd hNl'
  have HZS : Hid ((hdL 0 0 z32).toArray.size = (hdL na nb nc).toArray.size) := by show _ = _; rw [List.size_toArray, List.size_toArray, hdL_len _ _ _ rfl, hdL_len _ _ _ hNl']
  have HON := hid (all_oneCell_toArray (hdL_one na nb nc))
  have HM6 := hid (HM5.out.later (Bn hb4 hbb))
  obtain ⟨W5, hW5⟩ : ∃ W5, W5 = W4.alloc (.cells (hdL na nb nc).toArray 27) := ⟨_, rfl⟩
  have HW5 := hid hW5
  rw [← hW5] at HM6
  have HO6 := hid HM6.out.out
  have HB6 := hid HM6.out.bel
  have HX6 := hid HM6.out.box.range
  clear hb4 hbb hNN hNl hNl' HNX HM5 HR5 HX5 hW5 c34 d1 e1 u1
  generalize fltO hs he hc R3 = F at *
  by_cases h0 : F = 0
  · subst h0
    go_wp2_with (first | refine wpList_alloc_at rfl 27 rfl (some 6) rfl _ Tryd.zero27 W4.heap.size rfl ?_ | refine wpList_store_as' rfl 27 _ _ rfl rfl W4 (hdL 0 0 z32).toArray (hdL na nb nc).toArray rfl rfl rfl HSN.out HZS.out HON.out W5 HW5.out ?_ | refine wpList_load_g rfl 58 _ rfl (w.heap.size + 1) 0 rfl R3.cs _ HX6.out Tryd.underlying58 rfl (by rw [HRL.out]; exact Tryd.size58) ?_ | refine wpList_store_rowTo rfl 58 _ _ rfl rfl (w.heap.size + 2) R3.cs.toArray rfl rfl 58 _ HO6.out (size_recs HRK.out) (by rw [Rec.cs_size HRK.out]; rfl) (all_oneCell_toArray (Rec.cs_one _)) ?_ | fail)
    refine bodyPost_ret (results_row_tmp rfl _ _ (w.heap.size + 2) _ rfl (load_recs (setRow_heap _ _ _ _ _ _ HO6.out) HRK.out)) rfl ?_
    exact ⟨_, _, rfl, below_setRow HB6.out (by omega) _, (HPR.out _ _).2 ⟨rfl, .inr ⟨rfl, rfl⟩⟩⟩
  · have HF0 := hid h0
    go_wp2_with (first | refine wpList_alloc_at rfl 27 rfl (some 6) rfl _ Tryd.zero27 W4.heap.size rfl ?_ | refine wpList_store_as' rfl 27 _ _ rfl rfl W4 (hdL 0 0 z32).toArray (hdL na nb nc).toArray rfl rfl rfl HSN.out HZS.out HON.out W5 HW5.out ?_ | refine wpList_buildTo rfl 58 _ rfl (some 38) rfl recZ.cs.toArray Tryd.built27 ?_ | refine wpList_store_rowTo rfl 58 _ _ rfl rfl (w.heap.size + 2) recZ.cs.toArray rfl rfl 58 _ HO6.out (size_recs rfl) rfl (all_oneCell_toArray (Rec.cs_one _)) ?_ | fail)
    refine bodyPost_ret (results_row_tmp rfl _ _ (w.heap.size + 2) _ rfl (load_recs (setRow_heap _ _ _ _ _ _ HO6.out) rfl)) rfl ?_
    exact ⟨_, _, rfl, below_setRow HB6.out (by omega) _, (HPR.out _ _).2 ⟨rfl, .inl ⟨HF0.out, rfl⟩⟩⟩
end Go.Proofs.YtplinkmagnihmaaDoor
