/-
  A record that is made to follow: the contract of record's Make.
-/
import Derived.Test.YtpbaacplgohniaaDoorRcG
namespace Go.Proofs.YtpbaacplgohniaaDoor
open Go.ChangeShapes Go.WideShapes Go.ChangeAt Go.RowKit Go.Deep Go.Lib

def recZ : Rec := ⟨0, 0, z32, 0, 0, ByteArray.empty, none, 0, []⟩
theorem Tryd.zero27 : ∀ w, (zeroValue 27).run Tryd.prog w = .ok (.agg recZ.cs.toArray) w := fun w => by kernel_rfl
theorem Tryd.built27 : Tryd.prog.built 27 [] = some recZ.cs.toArray := by kernel_rfl
theorem recZ_rv (w : World) : Rv w recZ := ⟨rfl, fun j => get_u8 (x := z32) (fun z hz => by rw [List.eq_of_mem_replicate hz]; rfl) j, rfl, rfl, rfl, rfl, by unfold maxLen; exact Nat.zero_le _, ⟨Nat.le_refl _, by unfold maxLen; exact Nat.zero_le _, fun _ => rfl, fun h => absurd h (by simp [recZ]), fun x hx => by cases hx⟩⟩
/-- The record that Make looks at. -/
def mkR (hs he : Int) (hc : List Int) (r : Rec) : Rec := { r with seq := wrap64 (hs + 1), prev := hc, epoch := if r.kind = 1 then r.epoch else he }
/-- Make's boxes: the head's, the record's, and what it answers. -/
structure Mk (w W : World) (hs he : Int) (hc : List Int) (r : Rec) : Prop where
  hd : Bh W w.heap.size hs he hc
  box : Bx W (w.heap.size + 1) r
  out : W.heap[w.heap.size + 2]? = some (.cells recZ.cs.toArray 27)
  bel : Below w.heap.size w W
theorem Mk.later {w W W' : World} {hs he : Int} {hc : List Int} {r : Rec} (h : Mk w W hs he hc r) (hb : Below W.heap.size W W') : Mk w W' hs he hc r :=
  ⟨h.hd.later hb, h.box.later hb, (hb.block _ (Array.getElem?_eq_some_iff.1 h.out).1).trans h.out, Bn h.bel hb⟩
theorem Mk.start (w : World) (hs he : Int) (hc : List Int) (r : Rec) (h1 : hc.length = 32) (h2 : r.prev.length = 32) : Mk w (((w.alloc (.cells (hdL hs he hc).toArray 55)).alloc (.cells r.cs.toArray 27)).alloc (.cells recZ.cs.toArray 27)) hs he hc r := by
  have s1 : (w.alloc (.cells (hdL hs he hc).toArray 55)).heap.size = w.heap.size + 1 := by simp
  have s2 : ((w.alloc (.cells (hdL hs he hc).toArray 55)).alloc (.cells r.cs.toArray 27)).heap.size = w.heap.size + 2 := by simp
  have BX := (Bx.mk' (w.alloc (.cells (hdL hs he hc).toArray 55)) r h2).later (bel_alc _ (.cells recZ.cs.toArray 27))
  rw [s1] at BX
  have HO := heap_alc ((w.alloc (.cells (hdL hs he hc).toArray 55)).alloc (.cells r.cs.toArray 27)) (.cells recZ.cs.toArray 27)
  rw [s2] at HO
  exact ⟨((Bh.mk' w hs he hc h1).later (bel_alc _ _)).later (bel_alc _ _), BX, HO, Bn (Bn (bel_alc _ _) (bel_alc _ _)) (bel_alc _ _)⟩
theorem Mk.put {w W W' : World} {hs he : Int} {hc : List Int} {r r' : Rec} (h : Mk w W hs he hc r) (hx : Bx W' (w.heap.size + 1) r') (hb : Below (w.heap.size + 1) W W') (ho : W'.heap[w.heap.size + 2]? = W.heap[w.heap.size + 2]?) : Mk w W' hs he hc r' :=
  ⟨⟨(hb.block _ (Nat.lt_succ_self _)).trans h.hd.blk, h.hd.len⟩, hx, ho.trans h.out, h.bel.trans (hb.mono (Nat.le_succ _))⟩
theorem Mk.seq {w W : World} {hs he : Int} {hc : List Int} {r : Rec} (h : Mk w W hs he hc r) (x : Int) : Mk w (W.setCell ⟨w.heap.size + 1, 0, none⟩ (.int .i64 x)) hs he hc { r with seq := x } :=
  h.put (h.box.setSeq x) ((Below.refl _ W).setCell (p := ⟨w.heap.size + 1, 0, none⟩) (Nat.le_refl _) _) (Deep.blk_setCell_other _ _ _ _ (by show w.heap.size + 2 ≠ w.heap.size + 1; omega))
theorem Mk.epoch {w W : World} {hs he : Int} {hc : List Int} {r : Rec} (h : Mk w W hs he hc r) (x : Int) : Mk w (W.setCell ⟨w.heap.size + 1, 1, none⟩ (.int .i64 x)) hs he hc { r with epoch := x } :=
  h.put (h.box.setEpoch x) ((Below.refl _ W).setCell (p := ⟨w.heap.size + 1, 1, none⟩) (Nat.le_refl _) _) (Deep.blk_setCell_other _ _ _ _ (by show w.heap.size + 2 ≠ w.heap.size + 1; omega))
theorem Mk.row {w W : World} {hs he : Int} {hc : List Int} {r : Rec} (h : Mk w W hs he hc r) (a' : Option Addr) (cap' : Nat) : Mk w (W.setCell ⟨w.heap.size + 1, 37, none⟩ (.slice a' r.ps.length cap')) hs he hc { r with a := a', cap := cap' } :=
  h.put (h.box.setRow a' cap') ((Below.refl _ W).setCell (p := ⟨w.heap.size + 1, 37, none⟩) (Nat.le_refl _) _) (Deep.blk_setCell_other _ _ _ _ (by show w.heap.size + 2 ≠ w.heap.size + 1; omega))
theorem other_setCells (b i : Nat) (hne : i ≠ b) : ∀ (vs : List Value) (o : Nat) (w : World), (w.setCells b o vs).heap[i]? = w.heap[i]?
  | [], _, _ => rfl
  | _ :: vs, o, _ => (other_setCells b i hne vs (o + 1) _).trans (Deep.blk_setCell_other _ _ _ _ hne)
theorem Mk.prev {w W : World} {hs he : Int} {hc : List Int} {r : Rec} (h : Mk w W hs he hc r) (d : List Int) (hd : d.length = 32) : Mk w (W.setCells (w.heap.size + 1) 2 (d.map (Value.int .u8))) hs he hc { r with prev := d } :=
  h.put (h.box.setPrev d hd) (below_setCells (Nat.le_refl _) _ _ _ (Below.refl _ W)) (other_setCells _ _ (by omega) _ _ _)
/-- What Make answers. -/
def MkP (w' : World) (hs he : Int) (hc : List Int) (r : Rec) (v : Value) (e : Int) : Prop :=
  e = fltO hs he hc (mkR hs he hc r) ∧ ((e ≠ 0 ∧ v = .agg recZ.cs.toArray) ∨ (e = 0 ∧ ∃ a' cap', v = .agg ({ mkR hs he hc r with a := a', cap := cap' } : Rec).cs.toArray ∧ Rp w' a' cap' r.ps))
theorem flt_few {hs he : Int} {hc : List Int} {r : Rec} (h : fltO hs he hc r = 0) : r.ps.length ≤ 4096 := by
  unfold fltO at h
  split at h
  · rename_i hm
    unfold mayB at hm
    simp only [Bool.and_eq_true, decide_eq_true_eq] at hm
    have hk := hm.2
    have hz : ∀ q, (sizO q).2 = 0 → q.length ≤ 4096 := fun q hq => by
      unfold sizO at hq
      split at hq
      · cases hq
      · omega
    unfold kindB at hk
    split at hk
    · simp at hk; simp [hk.2]
    · split at hk
      · simp at hk; simp [hk.1]
      · split at hk
        · simp at hk; exact hz _ hk.2
        · cases hk
  · cases h
theorem wrap_wf (x : Int) : (Lit.int .i64 (wrap64 x)).wf = true := by
  refine wf_mk_i64 ?_ ?_ <;> unfold wrap64 <;> omega
theorem wpList_alloc_to {P : Program} {ops : Array Oper} {rest : List Oper} {o : Oper} {a : Act} {w : World} {Q : Exit → Act → World → Prop} (hgd : o.guard = none) (ty : TypeId) (ho : o.op = .alloc ty) (d : Option Tmp) (hd : o.dst = d) (cs : Array Value)
    (hz : ∀ w, (zeroValue ty).run P w = .ok (.agg cs) w) (N : Nat) (hN : N = w.heap.size) (W : World) (hW : W = w.alloc (.cells cs ty)) (h : wpList P ops Q rest (a.put d (.pointer (some ⟨N, 0, none⟩))) W) : wpList P ops Q (o :: rest) a w := by
  subst hW
  exact wpList_alloc_at hgd ty ho d hd cs hz N hN h
theorem size_recs {r : Rec} (h : r.prev.length = 32) : (Tryd.prog.info? 27).map (·.size) = some r.cs.toArray.size := by rw [Rec.cs_size h]; exact Tryd.size27
theorem load_recs {W : World} {g : Nat} {r : Rec} (h : W.heap[g]? = some (.cells r.cs.toArray 27)) (hl : r.prev.length = 32) : (loadVar 27 ⟨g, 0, none⟩).run Tryd.prog W = .ok (.agg r.cs.toArray) W := (Bx.mk h hl).load
set_option maxHeartbeats 3200000 in
set_option maxRecDepth 100000 in
theorem make_lead (hs he : Int) (hc : List Int) (r : Rec) (w : World) (hcl : hc.length = 32) (hc8 : ∀ j, (Lit.int .u8 (hc.getD j 0)).wf = true) (h : Rv w r) (hk : r.kind = 1) :
    Calls Tryd.prog 30 #[.agg (hdL hs he hc).toArray, .agg r.cs.toArray] w fun e w' => ∃ v e', e = .returned (.tuple #[v, .int .i64 e']) ∧ Below w.heap.size w w' ∧ MkP w' hs he hc r v e' := by
  have M0 := Mk.start w hs he hc r hcl h.len
  obtain ⟨W0, hW0⟩ : ∃ W0, W0 = ((w.alloc (.cells (hdL hs he hc).toArray 55)).alloc (.cells r.cs.toArray 27)).alloc (.cells recZ.cs.toArray 27) := ⟨_, rfl⟩
  rw [← hW0] at M0
  have HW0 := hid hW0
  clear hW0
  have M1 := M0.seq (wrap64 (hs + 1))
  have M2 := M1.prev hc hcl
  have M3 := M2
  have HMR : Hid (mkR hs he hc r = { r with seq := wrap64 (hs + 1), prev := hc }) := by
    show _ = _
    unfold mkR
    rw [if_pos hk]
  have h3 : Rv w (mkR hs he hc r) := by
    rw [HMR.out]
    exact ⟨hcl, hc8, wrap_wf _, h.epoch, h.kind, h.site, h.path, h.row⟩
  have s1 : (w.alloc (.cells (hdL hs he hc).toArray 55)).heap.size = w.heap.size + 1 := by simp
  have HS2 : Hid (w.heap.size + 2 = ((w.alloc (.cells (hdL hs he hc).toArray 55)).alloc (.cells r.cs.toArray 27)).heap.size) := by show _ = _; simp
  have d0 := M0.hd.c0
  have d1 := M2.hd.c1
  have c0 := M0.box.c0
  have u0 := Joins.unfrozen_of_block M0.box.blk 0
  have c34 := M2.box.c34
  have e1 := M2.box.c1
  have u1 := Joins.unfrozen_of_block M2.box.blk 1
  have HCH := hid M1.hd.chain
  have HCL : Hid ((hc.map (Value.int .u8)).length = 32) := by show _ = _; simp [hcl]
  have HTH := hid M1.box.there
  have HCA : Hid ((hc.map (Value.int .u8)).toArray.size = 32) := by show _ = _; simp [hcl]
  have HC23 : Hid ((Tryd.prog.info? 23).map (·.size) = some (hc.map (Value.int .u8)).toArray.size) := by show _ = _; rw [HCA.out]; exact Tryd.size23
  have HC1 : Hid (∀ v ∈ hc.map (Value.int .u8), v.oneCell' = true) := fun v hv => by obtain ⟨z, _, rfl⟩ := List.mem_map.1 hv; rfl
  have HHL := hid (hdL_len hs he hc hcl)
  have HM3 := hid M3
  have HR3 := hid M3.hd.range
  have HX3 := hid M3.box.range
  have HFW := hid (fault_word hs he hc (mkR hs he hc r) _ hcl (h3.later M3.bel))
  obtain ⟨R3, hR3⟩ : ∃ R3, R3 = mkR hs he hc r := ⟨_, rfl⟩
  rw [← HMR.out, ← hR3] at HM3 HX3
  rw [← hR3] at HFW h3
  have HRL := hid (Rec.cs_len h3.len)
  have HRR := hid hR3
  have HPS : Hid (R3.ps = r.ps ∧ R3.a = r.a ∧ R3.cap = r.cap) := by rw [HRR.out]; exact ⟨rfl, rfl, rfl⟩
  have HV := hid h
  have H3 := hid h3
  have HPR : Hid (MkP = MkP) := rfl
  rw [hk] at c34
  clear M0 M1 M2 M3 h3 hR3 h HMR
  go_enter Tryd.func30, Tryd.ntmps30
  go_wp2_with (first | refine wpList_load_g rfl 23 _ rfl w.heap.size 2 rfl (hc.map (Value.int .u8)) _ HCH.out Tryd.underlying23 rfl (by rw [HCL.out]; exact Tryd.size23) ?_ | refine wpList_alloc_to rfl 27 rfl (some 4) rfl _ Tryd.zero27 (w.heap.size + 2) HS2.out W0 HW0.out ?_ | refine wpList_store_mid rfl 23 _ _ rfl (w.heap.size + 1) 2 (hc.map (Value.int .u8)).toArray rfl rfl (by rw [HCA.out]; exact HTH.out) HC23.out (all_oneCell_toArray HC1.out) ?_ | refine wpList_load_g rfl 55 _ rfl w.heap.size 0 rfl (hdL hs he hc) _ HR3.out Tryd.underlying55 rfl (by rw [HHL.out]; exact Tryd.size55) ?_ | refine wpList_load_g rfl 27 _ rfl (w.heap.size + 1) 0 rfl R3.cs _ HX3.out Tryd.underlying27 rfl (by rw [HRL.out]; exact Tryd.size27) ?_ | fail)
  refine HFW.out.mono ?_
  rintro _ W4 ⟨rfl, hb4⟩
  have M4 := HM3.out.later hb4
  have HM4 := hid M4
  have c37 := M4.box.c37
  have HO4 := hid M4.out
  have HB4 := hid M4.bel
  obtain ⟨F, hF⟩ : ∃ F, F = fltO hs he hc R3 := ⟨_, rfl⟩
  rw [← hF]
  have HF := hid hF
  clear HFW hb4 HM3 HR3 HX3 hF M4 d0 d1 c0 u0 c34 e1 u1 HCH HTH s1
  by_cases h0 : F = 0
  · subst h0
    have hfew := flt_few HF.out.symm
    have HCW := hid (clone_word R3.a R3.cap R3.ps W4 (H3.out.row.later HB4.out) hfew)
    have hro := H3.out.row.room
    have hmo := H3.out.row.most
    unfold maxLen at hmo
    go_wp2_with fail
    refine HCW.out.mono ?_
    rintro _ W5 ⟨a5, cap5, rfl, hr5, hge5, hb5⟩
    have M5 := HM4.out.later hb5
    have hlt4 : w.heap.size + 2 < W4.heap.size := (Array.getElem?_eq_some_iff.1 HO4.out).1
    have M6 := M5.row a5 cap5
    have e37 := M5.box.c37
    have u37 := Joins.unfrozen_of_block M5.box.blk 37
    obtain ⟨R6, hR6⟩ : ∃ R6 : Rec, R6 = { R3 with a := a5, cap := cap5 } := ⟨_, rfl⟩
    have HR6 := hid hR6
    rw [← hR6] at M6
    have HX6 := hid M6.box.range
    have HL6 := hid (Rec.cs_len M6.box.len)
    have HO6 := hid M6.out
    have HB6 := hid M6.bel
    have HK6 := hid M6.box.len
    have HR5 := hid hr5
    have HG5 : Hid (∀ b off, a5 = some ⟨b, off, none⟩ → w.heap.size + 2 < b) := fun b off e => Nat.lt_of_lt_of_le hlt4 (hge5 b off e)
    clear hR6 hr5 hge5 hb5 M5 M6 HM4 HO4 HB4 HCW c37 hlt4
    go_wp2_with (first | refine wpList_load_g rfl 27 _ rfl (w.heap.size + 1) 0 rfl R6.cs _ HX6.out Tryd.underlying27 rfl (by rw [HL6.out]; exact Tryd.size27) ?_ | refine wpList_store_rowTo rfl 27 _ _ rfl rfl (w.heap.size + 2) R6.cs.toArray rfl rfl 27 _ HO6.out (size_recs HK6.out) (by rw [Rec.cs_size HK6.out]; rfl) (all_oneCell_toArray (Rec.cs_one _)) ?_ | fail)
    refine bodyPost_ret (results_row_tmp rfl _ _ (w.heap.size + 2) _ rfl (load_recs (setRow_heap _ _ _ _ _ _ HO6.out) HK6.out)) rfl ?_
    refine ⟨_, _, rfl, below_setRow HB6.out (by omega) _, ?_⟩
    refine ⟨?_, .inr ⟨rfl, a5, cap5, ?_, ?_⟩⟩
    · rw [← HRR.out]; exact HF.out
    · rw [← HRR.out, ← HR6.out]
    · rw [← HPS.out.1]
      refine HR5.out.kept (fun b off e => ?_)
      have := HG5.out b off e
      exact (other_setRow _ _ _ _ (by omega)).trans (Deep.blk_setCell_other _ _ _ _ (by show b ≠ w.heap.size + 1; omega))
  · have HF0 := hid h0
    go_wp2_with (first | refine wpList_buildTo rfl 27 _ rfl (some 25) rfl recZ.cs.toArray Tryd.built27 ?_ | refine wpList_store_rowTo rfl 27 _ _ rfl rfl (w.heap.size + 2) recZ.cs.toArray rfl rfl 27 _ HO4.out (size_recs rfl) rfl (all_oneCell_toArray (Rec.cs_one _)) ?_ | fail)
    refine bodyPost_ret (results_row_tmp rfl _ _ (w.heap.size + 2) _ rfl (load_recs (setRow_heap _ _ _ _ _ _ HO4.out) rfl)) rfl ?_
    refine ⟨_, _, rfl, below_setRow HB4.out (by omega) _, ?_⟩
    exact ⟨by rw [← HRR.out]; exact HF.out, .inl ⟨HF0.out, rfl⟩⟩
set_option maxHeartbeats 3200000 in
set_option maxRecDepth 100000 in
theorem make_other (hs he : Int) (hc : List Int) (r : Rec) (w : World) (hcl : hc.length = 32) (hc8 : ∀ j, (Lit.int .u8 (hc.getD j 0)).wf = true) (hhe : (Lit.int .i64 he).wf = true) (h : Rv w r) (hk : r.kind ≠ 1) :
    Calls Tryd.prog 30 #[.agg (hdL hs he hc).toArray, .agg r.cs.toArray] w fun e w' => ∃ v e', e = .returned (.tuple #[v, .int .i64 e']) ∧ Below w.heap.size w w' ∧ MkP w' hs he hc r v e' := by
  have M0 := Mk.start w hs he hc r hcl h.len
  obtain ⟨W0, hW0⟩ : ∃ W0, W0 = ((w.alloc (.cells (hdL hs he hc).toArray 55)).alloc (.cells r.cs.toArray 27)).alloc (.cells recZ.cs.toArray 27) := ⟨_, rfl⟩
  rw [← hW0] at M0
  have HW0 := hid hW0
  clear hW0
  have M1 := M0.seq (wrap64 (hs + 1))
  have M2 := M1.prev hc hcl
  have M3 := M2.epoch he
  have HMR : Hid (mkR hs he hc r = { r with seq := wrap64 (hs + 1), prev := hc, epoch := he }) := by
    show _ = _
    unfold mkR
    rw [if_neg hk]
  have h3 : Rv w (mkR hs he hc r) := by
    rw [HMR.out]
    exact ⟨hcl, hc8, wrap_wf _, hhe, h.kind, h.site, h.path, h.row⟩
  have s1 : (w.alloc (.cells (hdL hs he hc).toArray 55)).heap.size = w.heap.size + 1 := by simp
  have HS2 : Hid (w.heap.size + 2 = ((w.alloc (.cells (hdL hs he hc).toArray 55)).alloc (.cells r.cs.toArray 27)).heap.size) := by show _ = _; simp
  have d0 := M0.hd.c0
  have d1 := M2.hd.c1
  have c0 := M0.box.c0
  have u0 := Joins.unfrozen_of_block M0.box.blk 0
  have c34 := M2.box.c34
  have e1 := M2.box.c1
  have u1 := Joins.unfrozen_of_block M2.box.blk 1
  have HCH := hid M1.hd.chain
  have HCL : Hid ((hc.map (Value.int .u8)).length = 32) := by show _ = _; simp [hcl]
  have HTH := hid M1.box.there
  have HCA : Hid ((hc.map (Value.int .u8)).toArray.size = 32) := by show _ = _; simp [hcl]
  have HC23 : Hid ((Tryd.prog.info? 23).map (·.size) = some (hc.map (Value.int .u8)).toArray.size) := by show _ = _; rw [HCA.out]; exact Tryd.size23
  have HC1 : Hid (∀ v ∈ hc.map (Value.int .u8), v.oneCell' = true) := fun v hv => by obtain ⟨z, _, rfl⟩ := List.mem_map.1 hv; rfl
  have HHL := hid (hdL_len hs he hc hcl)
  have HM3 := hid M3
  have HR3 := hid M3.hd.range
  have HX3 := hid M3.box.range
  have HFW := hid (fault_word hs he hc (mkR hs he hc r) _ hcl (h3.later M3.bel))
  obtain ⟨R3, hR3⟩ : ∃ R3, R3 = mkR hs he hc r := ⟨_, rfl⟩
  rw [← HMR.out, ← hR3] at HM3 HX3
  rw [← hR3] at HFW h3
  have HRL := hid (Rec.cs_len h3.len)
  have HRR := hid hR3
  have HPS : Hid (R3.ps = r.ps ∧ R3.a = r.a ∧ R3.cap = r.cap) := by rw [HRR.out]; exact ⟨rfl, rfl, rfl⟩
  have HV := hid h
  have H3 := hid h3
  have HPR : Hid (MkP = MkP) := rfl
  rw [show r.kind = r.kind from rfl] at c34
  clear M0 M1 M2 M3 h3 hR3 h HMR hhe
  go_enter Tryd.func30, Tryd.ntmps30
  go_wp2_with (first | refine wpList_load_g rfl 23 _ rfl w.heap.size 2 rfl (hc.map (Value.int .u8)) _ HCH.out Tryd.underlying23 rfl (by rw [HCL.out]; exact Tryd.size23) ?_ | refine wpList_alloc_to rfl 27 rfl (some 4) rfl _ Tryd.zero27 (w.heap.size + 2) HS2.out W0 HW0.out ?_ | refine wpList_store_mid rfl 23 _ _ rfl (w.heap.size + 1) 2 (hc.map (Value.int .u8)).toArray rfl rfl (by rw [HCA.out]; exact HTH.out) HC23.out (all_oneCell_toArray HC1.out) ?_ | refine wpList_load_g rfl 55 _ rfl w.heap.size 0 rfl (hdL hs he hc) _ HR3.out Tryd.underlying55 rfl (by rw [HHL.out]; exact Tryd.size55) ?_ | refine wpList_load_g rfl 27 _ rfl (w.heap.size + 1) 0 rfl R3.cs _ HX3.out Tryd.underlying27 rfl (by rw [HRL.out]; exact Tryd.size27) ?_ | fail)
  refine HFW.out.mono ?_
  rintro _ W4 ⟨rfl, hb4⟩
  have M4 := HM3.out.later hb4
  have HM4 := hid M4
  have c37 := M4.box.c37
  have HO4 := hid M4.out
  have HB4 := hid M4.bel
  obtain ⟨F, hF⟩ : ∃ F, F = fltO hs he hc R3 := ⟨_, rfl⟩
  rw [← hF]
  have HF := hid hF
  clear HFW hb4 HM3 HR3 HX3 hF M4 d0 d1 c0 u0 c34 e1 u1 HCH HTH s1
  by_cases h0 : F = 0
  · subst h0
    have hfew := flt_few HF.out.symm
    have HCW := hid (clone_word R3.a R3.cap R3.ps W4 (H3.out.row.later HB4.out) hfew)
    have hro := H3.out.row.room
    have hmo := H3.out.row.most
    unfold maxLen at hmo
    go_wp2_with fail
    refine HCW.out.mono ?_
    rintro _ W5 ⟨a5, cap5, rfl, hr5, hge5, hb5⟩
    have M5 := HM4.out.later hb5
    have hlt4 : w.heap.size + 2 < W4.heap.size := (Array.getElem?_eq_some_iff.1 HO4.out).1
    have M6 := M5.row a5 cap5
    have e37 := M5.box.c37
    have u37 := Joins.unfrozen_of_block M5.box.blk 37
    obtain ⟨R6, hR6⟩ : ∃ R6 : Rec, R6 = { R3 with a := a5, cap := cap5 } := ⟨_, rfl⟩
    have HR6 := hid hR6
    rw [← hR6] at M6
    have HX6 := hid M6.box.range
    have HL6 := hid (Rec.cs_len M6.box.len)
    have HO6 := hid M6.out
    have HB6 := hid M6.bel
    have HK6 := hid M6.box.len
    have HR5 := hid hr5
    have HG5 : Hid (∀ b off, a5 = some ⟨b, off, none⟩ → w.heap.size + 2 < b) := fun b off e => Nat.lt_of_lt_of_le hlt4 (hge5 b off e)
    clear hR6 hr5 hge5 hb5 M5 M6 HM4 HO4 HB4 HCW c37 hlt4
    go_wp2_with (first | refine wpList_load_g rfl 27 _ rfl (w.heap.size + 1) 0 rfl R6.cs _ HX6.out Tryd.underlying27 rfl (by rw [HL6.out]; exact Tryd.size27) ?_ | refine wpList_store_rowTo rfl 27 _ _ rfl rfl (w.heap.size + 2) R6.cs.toArray rfl rfl 27 _ HO6.out (size_recs HK6.out) (by rw [Rec.cs_size HK6.out]; rfl) (all_oneCell_toArray (Rec.cs_one _)) ?_ | fail)
    refine bodyPost_ret (results_row_tmp rfl _ _ (w.heap.size + 2) _ rfl (load_recs (setRow_heap _ _ _ _ _ _ HO6.out) HK6.out)) rfl ?_
    refine ⟨_, _, rfl, below_setRow HB6.out (by omega) _, ?_⟩
    refine ⟨?_, .inr ⟨rfl, a5, cap5, ?_, ?_⟩⟩
    · rw [← HRR.out]; exact HF.out
    · rw [← HRR.out, ← HR6.out]
    · rw [← HPS.out.1]
      refine HR5.out.kept (fun b off e => ?_)
      have := HG5.out b off e
      exact (other_setRow _ _ _ _ (by omega)).trans (Deep.blk_setCell_other _ _ _ _ (by show b ≠ w.heap.size + 1; omega))
  · have HF0 := hid h0
    go_wp2_with (first | refine wpList_buildTo rfl 27 _ rfl (some 25) rfl recZ.cs.toArray Tryd.built27 ?_ | refine wpList_store_rowTo rfl 27 _ _ rfl rfl (w.heap.size + 2) recZ.cs.toArray rfl rfl 27 _ HO4.out (size_recs rfl) rfl (all_oneCell_toArray (Rec.cs_one _)) ?_ | fail)
    refine bodyPost_ret (results_row_tmp rfl _ _ (w.heap.size + 2) _ rfl (load_recs (setRow_heap _ _ _ _ _ _ HO4.out) rfl)) rfl ?_
    refine ⟨_, _, rfl, below_setRow HB4.out (by omega) _, ?_⟩
    exact ⟨by rw [← HRR.out]; exact HF.out, .inl ⟨HF0.out, rfl⟩⟩
theorem make_word (hs he : Int) (hc : List Int) (r : Rec) (w : World) (hcl : hc.length = 32) (hc8 : ∀ j, (Lit.int .u8 (hc.getD j 0)).wf = true) (hhe : (Lit.int .i64 he).wf = true) (h : Rv w r) :
    Calls Tryd.prog 30 #[.agg (hdL hs he hc).toArray, .agg r.cs.toArray] w fun e w' => ∃ v e', e = .returned (.tuple #[v, .int .i64 e']) ∧ Below w.heap.size w w' ∧ MkP w' hs he hc r v e' := by
  by_cases hk : r.kind = 1
  · exact make_lead hs he hc r w hcl hc8 h hk
  · exact make_other hs he hc r w hcl hc8 hhe h hk
end Go.Proofs.YtpbaacplgohniaaDoor
