/-
  The document's side: which records follow, the head behind one.
-/
import Derived.Test.YtplinkmagnihmaaDoorRcW
namespace Go.Proofs.YtplinkmagnihmaaDoor
open Go.ChangeShapes Go.WideShapes Go.ChangeAt Go.RowKit Go.Deep

set_option maxHeartbeats 3200000 in
set_option maxRecDepth 100000 in
theorem dfollows_word (hs he : Int) (hc : List Int) (r : Rec) (w : World) (hcl : hc.length = 32) (h : r.prev.length = 32) (hq : 1 ≤ r.seq ∧ r.seq ≤ 1073741824) :
    Calls Tryd.prog 44 #[.agg (hdL hs he hc).toArray, .agg r.cs.toArray] w fun e w' => e = .returned (.bool (folB hs he hc r)) ∧ Below w.heap.size w w' := by
  have b1 := bel_alc w (.cells (hdL hs he hc).toArray 27)
  have b2 := bel_alc (w.alloc (.cells (hdL hs he hc).toArray 27)) (.cells r.cs.toArray 58)
  have s1 : (w.alloc (.cells (hdL hs he hc).toArray 27)).heap.size = w.heap.size + 1 := by simp
  have BH := (Bh.mk' w hs he hc hcl).later b2
  have BX := Bx.mk' (w.alloc (.cells (hdL hs he hc).toArray 27)) r h
  rw [s1] at BX
  have HB := hid (Bn b1 b2)
  have d0 := BH.c0
  have d1 := BH.c1
  have c0 := BX.c0
  have c1 := BX.c1
  have c34 := BX.c34
  have HRC := hid BH.chain
  have HRP := hid BX.prev
  have HF : Hid (folB hs he hc r = (decide (r.seq - 1 = hs ∧ r.prev = hc) && (if r.kind = 1 then decide (he < r.epoch) else decide (r.epoch = he)))) := rfl
  have heq : ∀ V, (Op.equalIn 10000 25 (.agg (r.prev.map (Value.int .u8)).toArray) (.agg (hc.map (Value.int .u8)).toArray)).run Tryd.prog V = .ok (decide (r.prev = hc)) V := fun V => eq37 r.prev hc h hcl V
  have hgd := guard37
  have HPL : Hid ((r.prev.map (Value.int .u8)).length = 32) := by show _ = _; simp [h]
  have HCL : Hid ((hc.map (Value.int .u8)).length = 32) := by show _ = _; simp [hcl]
  have hq1 := hq.1
  have hq2 := hq.2
  clear BH BX hq b1 b2
  generalize folB hs he hc r = F at *
  generalize (hdL hs he hc).toArray = A1 at *
  generalize r.cs.toArray = A2 at *
  generalize r.prev.map (Value.int .u8) = P at *
  generalize hc.map (Value.int .u8) = C at *
  generalize r.seq = sq at *
  generalize r.epoch = ep at *
  generalize r.kind = ki at *
  by_cases h1 : sq - 1 = hs
  · subst h1
    by_cases h2 : r.prev = hc
    · have hd2 : decide (r.prev = hc) = true := decide_eq_true h2
      rw [hd2] at heq
      have HF2 : Hid (F = if ki = 1 then decide (he < ep) else decide (ep = he)) := by show _ = _; rw [HF.out, h2]; simp
      clear HF h2 hd2
      by_cases h3 : ki = 1
      · subst h3
        go_enter Tryd.func44, Tryd.ntmps44
        go_wp2_with (first | refine wpList_load_g rfl 25 _ rfl (w.heap.size + 1) 2 rfl P _ HRP.out Tryd.underlying25 rfl (by rw [HPL.out]; exact Tryd.size25) ?_ | refine wpList_load_g rfl 25 _ rfl w.heap.size 2 rfl C _ HRC.out Tryd.underlying25 rfl (by rw [HCL.out]; exact Tryd.size25) ?_)
        go_ret
        exact ⟨by rw [HF2.out]; simp, HB.out⟩
      · go_enter Tryd.func44, Tryd.ntmps44
        go_wp2_with (first | refine wpList_load_g rfl 25 _ rfl (w.heap.size + 1) 2 rfl P _ HRP.out Tryd.underlying25 rfl (by rw [HPL.out]; exact Tryd.size25) ?_ | refine wpList_load_g rfl 25 _ rfl w.heap.size 2 rfl C _ HRC.out Tryd.underlying25 rfl (by rw [HCL.out]; exact Tryd.size25) ?_)
        go_ret
        exact ⟨by rw [HF2.out, if_neg h3]; rfl, HB.out⟩
    · have hd2 : decide (r.prev = hc) = false := decide_eq_false h2
      rw [hd2] at heq
      have HF2 : Hid (F = false) := by show _ = _; rw [HF.out]; simp [h2]
      clear HF h2 hd2
      go_enter Tryd.func44, Tryd.ntmps44
      go_wp2_with (first | refine wpList_load_g rfl 25 _ rfl (w.heap.size + 1) 2 rfl P _ HRP.out Tryd.underlying25 rfl (by rw [HPL.out]; exact Tryd.size25) ?_ | refine wpList_load_g rfl 25 _ rfl w.heap.size 2 rfl C _ HRC.out Tryd.underlying25 rfl (by rw [HCL.out]; exact Tryd.size25) ?_)
      go_ret
      exact ⟨by rw [HF2.out]; rfl, HB.out⟩
  · have HF2 : Hid (F = false) := by show _ = _; rw [HF.out]; simp [h1]
    clear HF heq
    go_enter Tryd.func44, Tryd.ntmps44
    go_wp2
    go_ret
    exact ⟨by rw [HF2.out]; rfl, HB.out⟩
theorem wpList_store_as' {P : Program} {ops : Array Oper} {rest : List Oper} {o : Oper} {a : Act} {w : World} {Q : Exit → Act → World → Prop} (hgd : o.guard = none) (ty : TypeId) (x y : Operand) (ho : o.op = .store ty x y) (hd : o.dst = none)
    (W : World) (old cells : Array Value) (hw : w = W.alloc (.cells old ty)) (hx : a.eval x = .pointer (some ⟨W.heap.size, 0, none⟩)) (hy : a.eval y = .agg cells) (hi : (P.info? ty).map (·.size) = some cells.size)
    (hold : old.size = cells.size) (h1 : cells.all (·.oneCell') = true) (V : World) (hV : V = W.alloc (.cells cells ty)) (h : wpList P ops Q rest a V) : wpList P ops Q (o :: rest) a w := by
  subst hV
  exact wpList_store_new hgd ty x y ho hd W old cells hw hx hy hi hold h1 h
set_option maxHeartbeats 6400000 in
set_option maxRecDepth 100000 in
theorem dnext_word (hs he : Int) (hc : List Int) (r : Rec) (w : World) (hcl : hc.length = 32) (h : Rv w r) (hn : r.ps.length ≤ 1000) :
    Calls Tryd.prog 30 #[.agg (hdL hs he hc).toArray, .agg r.cs.toArray] w fun e w' => e = .returned (.tuple #[.agg (hdL (nxO hs he hc r).1 (nxO hs he hc r).2.1 (nxO hs he hc r).2.2).toArray, .int .i64 (fltO hs he hc r)]) ∧ Below w.heap.size w w' := by
  have N0 := Nx.start w hs he hc r hcl h.len
  obtain ⟨W0, hW0⟩ : ∃ W0, W0 = ((w.alloc (.cells (hdL hs he hc).toArray 27)).alloc (.cells r.cs.toArray 58)).alloc (.cells (hdL 0 0 z32).toArray 27) := ⟨_, rfl⟩
  rw [← hW0] at N0
  have HW0 := hid hW0
  clear hW0
  have HN0 := hid N0
  have HHL := hid (hdL_len hs he hc hcl)
  have HRL := hid (Rec.cs_len h.len)
  have HX0 := hid N0.box.range
  have HCH := hid (dchain_word r _ (h.later N0.bel) hn)
  have HFW := hid (fun V q => dfollows_word hs he hc r V hcl h.len q)
  have HMQ : Hid (mayB r = true → 1 ≤ r.seq ∧ r.seq ≤ 1073741824) := fun q => (may_parts q).1
  have HNX : Hid (nxO hs he hc r = if fltO hs he hc r = 0 then (r.seq, r.epoch, digL (wrB r)) else (0, 0, z32)) := rfl
  have HFL : Hid (fltO hs he hc r = if mayB r = true then (if folB hs he hc r = true then 0 else 131) else 130) := rfl
  have HCD : Hid (mayB r = true → chnD r = digL (wrB r)) := fun q => by unfold chnD; rw [if_pos q]
  have HCL := hid (chnD_len r)
  have s1 : (w.alloc (.cells (hdL hs he hc).toArray 27)).heap.size = w.heap.size + 1 := by simp
  have HS2 : Hid (w.heap.size + 2 = ((w.alloc (.cells (hdL hs he hc).toArray 27)).alloc (.cells r.cs.toArray 58)).heap.size) := by show _ = _; simp
  clear N0 h
  generalize nxO hs he hc r = NX at *
  generalize fltO hs he hc r = F at *
  generalize chnD r = CD at *
  generalize mayB r = MB at *
  generalize folB hs he hc r = FB at *
  generalize digL (wrB r) = DG at *
  go_enter Tryd.func30, Tryd.ntmps30
  go_wp2_with (first | refine wpList_alloc_to rfl 27 rfl (some 4) rfl _ Tryd.zero27 (w.heap.size + 2) HS2.out W0 HW0.out ?_ | refine wpList_load_g rfl 58 _ rfl (w.heap.size + 1) 0 rfl r.cs _ HX0.out Tryd.underlying58 rfl (by rw [HRL.out]; exact Tryd.size58) ?_ | fail)
  refine HCH.out.mono ?_
  rintro _ W4 ⟨rfl, hb4⟩
  have hbb := bel_alc W4 (.cells (u8A CD) 25)
  have HN4 := hid (HN0.out.later (Bn hb4 hbb))
  have HZX : Hid ((u8A z32).size = (u8A CD).size) := by show _ = _; rw [u8A_size, u8A_size, HCL.out]; rfl
  have HEC := hid (heap_alc W4 (.cells (u8A CD) 25))
  obtain ⟨W5, hW5⟩ : ∃ W5, W5 = W4.alloc (.cells (u8A CD) 25) := ⟨_, rfl⟩
  have HW5 := hid hW5
  rw [← hW5] at HN4 HEC
  have HO4 := hid HN4.out.out
  have HB4 := hid HN4.out.bel
  have HR5 := hid HN4.out.hd.range
  have HX5 := hid HN4.out.box.range
  clear HCH hb4 HN0 HX0 s1 hbb hW5
  cases MB with
  | false =>
    have HE : Hid (F = 130) := HFL.out
    have HX : Hid (NX = (0, 0, z32)) := by show _ = _; rw [HNX.out, HE.out]; rfl
    go_wp2_with (first | refine wpList_alloc_at rfl 25 rfl (some 6) rfl _ Tryd.zero25 W4.heap.size rfl ?_ | refine wpList_store_as' rfl 25 _ _ rfl rfl W4 (u8A z32) (u8A CD) rfl rfl rfl (size_dig HCL.out) HZX.out (u8A_one _) W5 HW5.out ?_ | refine wpList_buildTo rfl 27 _ rfl (some 15) rfl (hdL 0 0 z32).toArray Tryd.built55 ?_ | refine wpList_store_rowTo rfl 27 _ _ rfl rfl (w.heap.size + 2) (hdL 0 0 z32).toArray rfl rfl 27 _ HO4.out (size_hd rfl) rfl (all_oneCell_toArray (hdL_one _ _ _)) ?_ | fail)
    refine bodyPost_ret (results_row_tmp rfl _ _ (w.heap.size + 2) _ rfl (load_hd (setRow_heap _ _ _ _ _ _ HO4.out) rfl)) rfl ?_
    exact ⟨by rw [HX.out, HE.out]; rfl, below_setRow HB4.out (by omega) _⟩
  | true =>
    have HCE := HCD.out rfl
    subst HCE
    have HFW2 := hid (HFW.out W5 (HMQ.out rfl))
    clear HFW HMQ
    go_wp2_with (first | refine wpList_alloc_at rfl 25 rfl (some 6) rfl _ Tryd.zero25 W4.heap.size rfl ?_ | refine wpList_store_as' rfl 25 _ _ rfl rfl W4 (u8A z32) (u8A CD) rfl rfl rfl (size_dig HCL.out) HZX.out (u8A_one _) W5 HW5.out ?_ | refine wpList_load_g rfl 58 _ rfl (w.heap.size + 1) 0 rfl r.cs _ HX5.out Tryd.underlying58 rfl (by rw [HRL.out]; exact Tryd.size58) ?_ | refine wpList_load_g rfl 27 _ rfl w.heap.size 0 rfl (hdL hs he hc) _ HR5.out Tryd.underlying27 rfl (by rw [HHL.out]; exact Tryd.size27) ?_ | fail)
    refine HFW2.out.mono ?_
    rintro _ W6 ⟨rfl, hb6⟩
    have HN6 := hid (HN4.out.later hb6)
    have HO6 := hid HN6.out.out
    have HB6 := hid HN6.out.bel
    have c0 := HN6.out.box.c0
    have c1 := HN6.out.box.c1
    have HEC6 := hid ((hb6.block _ (Array.getElem?_eq_some_iff.1 HEC.out).1).trans HEC.out)
    have HRC : Hid (W6.rangeAt W4.heap.size 0 (CD.map (Value.int .u8))) := fun j v hv => by
      rw [Nat.zero_add, Joins.cell_of_block HEC6.out j]
      unfold u8A
      rw [List.getElem?_toArray]
      exact hv
    have HML : Hid ((CD.map (Value.int .u8)).length = 32) := by show _ = _; simp [HCL.out]
    clear HFW2 hb6 HN4 HO4 HB4 HR5 HX5 HEC
    cases FB with
    | false =>
      have HE : Hid (F = 131) := HFL.out
      have HX : Hid (NX = (0, 0, z32)) := by show _ = _; rw [HNX.out, HE.out]; rfl
      go_wp2_with (first | refine wpList_buildTo rfl 27 _ rfl (some 21) rfl (hdL 0 0 z32).toArray Tryd.built55 ?_ | refine wpList_store_rowTo rfl 27 _ _ rfl rfl (w.heap.size + 2) (hdL 0 0 z32).toArray rfl rfl 27 _ HO6.out (size_hd rfl) rfl (all_oneCell_toArray (hdL_one _ _ _)) ?_ | fail)
      refine bodyPost_ret (results_row_tmp rfl _ _ (w.heap.size + 2) _ rfl (load_hd (setRow_heap _ _ _ _ _ _ HO6.out) rfl)) rfl ?_
      exact ⟨by rw [HX.out, HE.out]; rfl, below_setRow HB6.out (by omega) _⟩
    | true =>
      have HE : Hid (F = 0) := HFL.out
      have HX : Hid (NX = (r.seq, r.epoch, CD)) := by show _ = _; rw [HNX.out, HE.out]; rfl
      have HBD := hid (built55 r.seq r.epoch CD HCL.out)
      have HZH : Hid ((hdL 0 0 z32).toArray.size = (hdL r.seq r.epoch CD).toArray.size) := by show _ = _; rw [List.size_toArray, List.size_toArray, hdL_len _ _ _ rfl, hdL_len _ _ _ HCL.out]
      go_wp2_with (first | refine wpList_load_g rfl 25 _ rfl W4.heap.size 0 rfl (CD.map (Value.int .u8)) _ HRC.out Tryd.underlying25 rfl (by rw [HML.out]; exact Tryd.size25) ?_ | refine wpList_buildTo rfl 27 _ rfl (some 27) rfl (hdL r.seq r.epoch CD).toArray (Eq.trans (congrArg (Tryd.prog.built 27) (by first | rfl | (simp [go_sem]; rfl))) HBD.out) ?_ | refine wpList_store_rowTo rfl 27 _ _ rfl rfl (w.heap.size + 2) (hdL r.seq r.epoch CD).toArray rfl rfl 27 _ HO6.out (size_hd HCL.out) HZH.out (all_oneCell_toArray (hdL_one _ _ _)) ?_ | fail)
      refine bodyPost_ret (results_row_tmp rfl _ _ (w.heap.size + 2) _ rfl (load_hd (setRow_heap _ _ _ _ _ _ HO6.out) HCL.out)) rfl ?_
      exact ⟨by rw [HX.out, HE.out]; rfl, below_setRow HB6.out (by omega) _⟩
end Go.Proofs.YtplinkmagnihmaaDoor
