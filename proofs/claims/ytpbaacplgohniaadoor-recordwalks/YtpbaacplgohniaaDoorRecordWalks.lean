/-
  RecordWalks is proved for every input, as a tied card: which records follow a head, one behind the other, the head behind them, and the record that is made to follow; no condition but that the tables of package sha start as the text lays them.
-/
import Derived.Test.YtpbaacplgohniaaDoorRcW
import Derived.Test.YtpbaacplgohniaaDoorRcO
import Derived.Test.YtpbaacplgohniaaDoorRcP
import Derived.Test.YtpbaacplgohniaaDoorRcQ
import Derived.Test.YtpbaacplgohniaaDoorRcZ
namespace Go.Proofs.YtpbaacplgohniaaDoor
open Go.ChangeShapes Go.WideShapes Go.ChangeAt Go.RowKit Go.Deep

set_option maxHeartbeats 3200000 in
set_option maxRecDepth 100000 in
theorem dfollows_word (hs he : Int) (hc : List Int) (r : Rec) (w : World) (hcl : hc.length = 32) (h : r.prev.length = 32) (hq : 1 ≤ r.seq ∧ r.seq ≤ 1073741824) :
    Calls Tryd.prog 51 #[.agg (hdL hs he hc).toArray, .agg r.cs.toArray] w fun e w' => e = .returned (.bool (folB hs he hc r)) ∧ Below w.heap.size w w' := by
  have b1 := bel_alc w (.cells (hdL hs he hc).toArray 55)
  have b2 := bel_alc (w.alloc (.cells (hdL hs he hc).toArray 55)) (.cells r.cs.toArray 27)
  have s1 : (w.alloc (.cells (hdL hs he hc).toArray 55)).heap.size = w.heap.size + 1 := by simp
  have BH := (Bh.mk' w hs he hc hcl).later b2
  have BX := Bx.mk' (w.alloc (.cells (hdL hs he hc).toArray 55)) r h
  rw [s1] at BX
  have HB := hid (Bn b1 b2)
  have d0 := BH.c0
  have d1 := BH.c1
  have c0 := BX.c0
  have c1 := BX.c1
  have c34 := BX.c34
  have HRC := hid BH.chain
  have HRP := hid BX.prev
  have HF : Hid (folB hs he hc r = (decide (r.seq - 1 = hs ∧ r.prev = hc) && (if r.kind = 1 then decide (he < r.epoch) else decide (r.epoch = he)))) := rfl
  have heq : ∀ V, (Op.equalIn 10000 23 (.agg (r.prev.map (Value.int .u8)).toArray) (.agg (hc.map (Value.int .u8)).toArray)).run Tryd.prog V = .ok (decide (r.prev = hc)) V := fun V => eq37 r.prev hc h hcl V
  have hgd := guard37
  have HPL : Hid ((r.prev.map (Value.int .u8)).length = 32) := by show _ = _; simp [h]
  have HCL : Hid ((hc.map (Value.int .u8)).length = 32) := by show _ = _; simp [hcl]
  have hq1 := hq.1
  have hq2 := hq.2
  clear BH BX hq b1 b2
  generalize folB hs he hc r = F at *
  generalize (hdL hs he hc).toArray = A1 at *
  generalize r.cs.toArray = A2 at *
  generalize r.prev.map (Value.int .u8) = P at *
  generalize hc.map (Value.int .u8) = C at *
  generalize r.seq = sq at *
  generalize r.epoch = ep at *
  generalize r.kind = ki at *
  by_cases h1 : sq - 1 = hs
  · subst h1
    by_cases h2 : r.prev = hc
    · have hd2 : decide (r.prev = hc) = true := decide_eq_true h2
      rw [hd2] at heq
      have HF2 : Hid (F = if ki = 1 then decide (he < ep) else decide (ep = he)) := by show _ = _; rw [HF.out, h2]; simp
      clear HF h2 hd2
      by_cases h3 : ki = 1
      · subst h3
        go_enter Tryd.func51, Tryd.ntmps51
        go_wp2_with (first | refine wpList_load_g rfl 23 _ rfl (w.heap.size + 1) 2 rfl P _ HRP.out Tryd.underlying23 rfl (by rw [HPL.out]; exact Tryd.size23) ?_ | refine wpList_load_g rfl 23 _ rfl w.heap.size 2 rfl C _ HRC.out Tryd.underlying23 rfl (by rw [HCL.out]; exact Tryd.size23) ?_)
        go_ret
        exact ⟨by rw [HF2.out]; simp, HB.out⟩
      · go_enter Tryd.func51, Tryd.ntmps51
        go_wp2_with (first | refine wpList_load_g rfl 23 _ rfl (w.heap.size + 1) 2 rfl P _ HRP.out Tryd.underlying23 rfl (by rw [HPL.out]; exact Tryd.size23) ?_ | refine wpList_load_g rfl 23 _ rfl w.heap.size 2 rfl C _ HRC.out Tryd.underlying23 rfl (by rw [HCL.out]; exact Tryd.size23) ?_)
        go_ret
        exact ⟨by rw [HF2.out, if_neg h3]; rfl, HB.out⟩
    · have hd2 : decide (r.prev = hc) = false := decide_eq_false h2
      rw [hd2] at heq
      have HF2 : Hid (F = false) := by show _ = _; rw [HF.out]; simp [h2]
      clear HF h2 hd2
      go_enter Tryd.func51, Tryd.ntmps51
      go_wp2_with (first | refine wpList_load_g rfl 23 _ rfl (w.heap.size + 1) 2 rfl P _ HRP.out Tryd.underlying23 rfl (by rw [HPL.out]; exact Tryd.size23) ?_ | refine wpList_load_g rfl 23 _ rfl w.heap.size 2 rfl C _ HRC.out Tryd.underlying23 rfl (by rw [HCL.out]; exact Tryd.size23) ?_)
      go_ret
      exact ⟨by rw [HF2.out]; rfl, HB.out⟩
  · have HF2 : Hid (F = false) := by show _ = _; rw [HF.out]; simp [h1]
    clear HF heq
    go_enter Tryd.func51, Tryd.ntmps51
    go_wp2
    go_ret
    exact ⟨by rw [HF2.out]; rfl, HB.out⟩
theorem wpList_store_as' {P : Program} {ops : Array Oper} {rest : List Oper} {o : Oper} {a : Act} {w : World} {Q : Exit → Act → World → Prop} (hgd : o.guard = none) (ty : TypeId) (x y : Operand) (ho : o.op = .store ty x y) (hd : o.dst = none)
    (W : World) (old cells : Array Value) (hw : w = W.alloc (.cells old ty)) (hx : a.eval x = .pointer (some ⟨W.heap.size, 0, none⟩)) (hy : a.eval y = .agg cells) (hi : (P.info? ty).map (·.size) = some cells.size)
    (hold : old.size = cells.size) (h1 : cells.all (·.oneCell') = true) (V : World) (hV : V = W.alloc (.cells cells ty)) (h : wpList P ops Q rest a V) : wpList P ops Q (o :: rest) a w := by
  subst hV
  exact wpList_store_new hgd ty x y ho hd W old cells hw hx hy hi hold h1 h
set_option maxHeartbeats 6400000 in
set_option maxRecDepth 100000 in
theorem dnext_word (hs he : Int) (hc : List Int) (r : Rec) (w : World) (hcl : hc.length = 32) (h : Rv w r) (hn : r.ps.length ≤ 1000) :
    Calls Tryd.prog 29 #[.agg (hdL hs he hc).toArray, .agg r.cs.toArray] w fun e w' => e = .returned (.tuple #[.agg (hdL (nxO hs he hc r).1 (nxO hs he hc r).2.1 (nxO hs he hc r).2.2).toArray, .int .i64 (fltO hs he hc r)]) ∧ Below w.heap.size w w' := by
  have N0 := Nx.start w hs he hc r hcl h.len
  obtain ⟨W0, hW0⟩ : ∃ W0, W0 = ((w.alloc (.cells (hdL hs he hc).toArray 55)).alloc (.cells r.cs.toArray 27)).alloc (.cells (hdL 0 0 z32).toArray 55) := ⟨_, rfl⟩
  rw [← hW0] at N0
  have HW0 := hid hW0
  clear hW0
  have HN0 := hid N0
  have HHL := hid (hdL_len hs he hc hcl)
  have HRL := hid (Rec.cs_len h.len)
  have HX0 := hid N0.box.range
  have HCH := hid (dchain_word r _ (h.later N0.bel) hn)
  have HFW := hid (fun V q => dfollows_word hs he hc r V hcl h.len q)
  have HMQ : Hid (mayB r = true → 1 ≤ r.seq ∧ r.seq ≤ 1073741824) := fun q => (may_parts q).1
  have HNX : Hid (nxO hs he hc r = if fltO hs he hc r = 0 then (r.seq, r.epoch, digL (wrB r)) else (0, 0, z32)) := rfl
  have HFL : Hid (fltO hs he hc r = if mayB r = true then (if folB hs he hc r = true then 0 else 131) else 130) := rfl
  have HCD : Hid (mayB r = true → chnD r = digL (wrB r)) := fun q => by unfold chnD; rw [if_pos q]
  have HCL := hid (chnD_len r)
  have s1 : (w.alloc (.cells (hdL hs he hc).toArray 55)).heap.size = w.heap.size + 1 := by simp
  have HS2 : Hid (w.heap.size + 2 = ((w.alloc (.cells (hdL hs he hc).toArray 55)).alloc (.cells r.cs.toArray 27)).heap.size) := by show _ = _; simp
  clear N0 h
  generalize nxO hs he hc r = NX at *
  generalize fltO hs he hc r = F at *
  generalize chnD r = CD at *
  generalize mayB r = MB at *
  generalize folB hs he hc r = FB at *
  generalize digL (wrB r) = DG at *
  go_enter Tryd.func29, Tryd.ntmps29
  go_wp2_with (first | refine wpList_alloc_to rfl 55 rfl (some 4) rfl _ Tryd.zero55 (w.heap.size + 2) HS2.out W0 HW0.out ?_ | refine wpList_load_g rfl 27 _ rfl (w.heap.size + 1) 0 rfl r.cs _ HX0.out Tryd.underlying27 rfl (by rw [HRL.out]; exact Tryd.size27) ?_ | fail)
  refine HCH.out.mono ?_
  rintro _ W4 ⟨rfl, hb4⟩
  have hbb := bel_alc W4 (.cells (u8A CD) 23)
  have HN4 := hid (HN0.out.later (Bn hb4 hbb))
  have HZX : Hid ((u8A z32).size = (u8A CD).size) := by show _ = _; rw [u8A_size, u8A_size, HCL.out]; rfl
  have HEC := hid (heap_alc W4 (.cells (u8A CD) 23))
  obtain ⟨W5, hW5⟩ : ∃ W5, W5 = W4.alloc (.cells (u8A CD) 23) := ⟨_, rfl⟩
  have HW5 := hid hW5
  rw [← hW5] at HN4 HEC
  have HO4 := hid HN4.out.out
  have HB4 := hid HN4.out.bel
  have HR5 := hid HN4.out.hd.range
  have HX5 := hid HN4.out.box.range
  clear HCH hb4 HN0 HX0 s1 hbb hW5
  cases MB with
  | false =>
    have HE : Hid (F = 130) := HFL.out
    have HX : Hid (NX = (0, 0, z32)) := by show _ = _; rw [HNX.out, HE.out]; rfl
    go_wp2_with (first | refine wpList_alloc_at rfl 23 rfl (some 6) rfl _ Tryd.zero23 W4.heap.size rfl ?_ | refine wpList_store_as' rfl 23 _ _ rfl rfl W4 (u8A z32) (u8A CD) rfl rfl rfl (size_dig HCL.out) HZX.out (u8A_one _) W5 HW5.out ?_ | refine wpList_buildTo rfl 55 _ rfl (some 15) rfl (hdL 0 0 z32).toArray Tryd.built55 ?_ | refine wpList_store_rowTo rfl 55 _ _ rfl rfl (w.heap.size + 2) (hdL 0 0 z32).toArray rfl rfl 55 _ HO4.out (size_hd rfl) rfl (all_oneCell_toArray (hdL_one _ _ _)) ?_ | fail)
    refine bodyPost_ret (results_row_tmp rfl _ _ (w.heap.size + 2) _ rfl (load_hd (setRow_heap _ _ _ _ _ _ HO4.out) rfl)) rfl ?_
    exact ⟨by rw [HX.out, HE.out]; rfl, below_setRow HB4.out (by omega) _⟩
  | true =>
    have HCE := HCD.out rfl
    subst HCE
    have HFW2 := hid (HFW.out W5 (HMQ.out rfl))
    clear HFW HMQ
    go_wp2_with (first | refine wpList_alloc_at rfl 23 rfl (some 6) rfl _ Tryd.zero23 W4.heap.size rfl ?_ | refine wpList_store_as' rfl 23 _ _ rfl rfl W4 (u8A z32) (u8A CD) rfl rfl rfl (size_dig HCL.out) HZX.out (u8A_one _) W5 HW5.out ?_ | refine wpList_load_g rfl 27 _ rfl (w.heap.size + 1) 0 rfl r.cs _ HX5.out Tryd.underlying27 rfl (by rw [HRL.out]; exact Tryd.size27) ?_ | refine wpList_load_g rfl 55 _ rfl w.heap.size 0 rfl (hdL hs he hc) _ HR5.out Tryd.underlying55 rfl (by rw [HHL.out]; exact Tryd.size55) ?_ | fail)
    refine HFW2.out.mono ?_
    rintro _ W6 ⟨rfl, hb6⟩
    have HN6 := hid (HN4.out.later hb6)
    have HO6 := hid HN6.out.out
    have HB6 := hid HN6.out.bel
    have c0 := HN6.out.box.c0
    have c1 := HN6.out.box.c1
    have HEC6 := hid ((hb6.block _ (Array.getElem?_eq_some_iff.1 HEC.out).1).trans HEC.out)
    have HRC : Hid (W6.rangeAt W4.heap.size 0 (CD.map (Value.int .u8))) := fun j v hv => by
      rw [Nat.zero_add, Joins.cell_of_block HEC6.out j]
      unfold u8A
      rw [List.getElem?_toArray]
      exact hv
    have HML : Hid ((CD.map (Value.int .u8)).length = 32) := by show _ = _; simp [HCL.out]
    clear HFW2 hb6 HN4 HO4 HB4 HR5 HX5 HEC
    cases FB with
    | false =>
      have HE : Hid (F = 131) := HFL.out
      have HX : Hid (NX = (0, 0, z32)) := by show _ = _; rw [HNX.out, HE.out]; rfl
      go_wp2_with (first | refine wpList_buildTo rfl 55 _ rfl (some 21) rfl (hdL 0 0 z32).toArray Tryd.built55 ?_ | refine wpList_store_rowTo rfl 55 _ _ rfl rfl (w.heap.size + 2) (hdL 0 0 z32).toArray rfl rfl 55 _ HO6.out (size_hd rfl) rfl (all_oneCell_toArray (hdL_one _ _ _)) ?_ | fail)
      refine bodyPost_ret (results_row_tmp rfl _ _ (w.heap.size + 2) _ rfl (load_hd (setRow_heap _ _ _ _ _ _ HO6.out) rfl)) rfl ?_
      exact ⟨by rw [HX.out, HE.out]; rfl, below_setRow HB6.out (by omega) _⟩
    | true =>
      have HE : Hid (F = 0) := HFL.out
      have HX : Hid (NX = (r.seq, r.epoch, CD)) := by show _ = _; rw [HNX.out, HE.out]; rfl
      have HBD := hid (built55 r.seq r.epoch CD HCL.out)
      have HZH : Hid ((hdL 0 0 z32).toArray.size = (hdL r.seq r.epoch CD).toArray.size) := by show _ = _; rw [List.size_toArray, List.size_toArray, hdL_len _ _ _ rfl, hdL_len _ _ _ HCL.out]
      go_wp2_with (first | refine wpList_load_g rfl 23 _ rfl W4.heap.size 0 rfl (CD.map (Value.int .u8)) _ HRC.out Tryd.underlying23 rfl (by rw [HML.out]; exact Tryd.size23) ?_ | refine wpList_buildTo rfl 55 _ rfl (some 27) rfl (hdL r.seq r.epoch CD).toArray (Eq.trans (congrArg (Tryd.prog.built 55) (by first | rfl | (simp [go_sem]; rfl))) HBD.out) ?_ | refine wpList_store_rowTo rfl 55 _ _ rfl rfl (w.heap.size + 2) (hdL r.seq r.epoch CD).toArray rfl rfl 55 _ HO6.out (size_hd HCL.out) HZH.out (all_oneCell_toArray (hdL_one _ _ _)) ?_ | fail)
      refine bodyPost_ret (results_row_tmp rfl _ _ (w.heap.size + 2) _ rfl (load_hd (setRow_heap _ _ _ _ _ _ HO6.out) HCL.out)) rfl ?_
      exact ⟨by rw [HX.out, HE.out]; rfl, below_setRow HB6.out (by omega) _⟩
end Go.Proofs.YtpbaacplgohniaaDoor

namespace Go.Proofs.YtpbaacplgohniaaDoor
open Go.ChangeShapes Go.WideShapes Go.ChangeAt Go.RowKit Go.Deep

theorem Rr.own2 {w : World} {base : Nat} {v : Value} {l : List Rec} (h : w.ownsRow base 27 38 v l.length (l.flatMap Rec.cs)) (hf : ∀ r ∈ l, Rv w r) : ∃ a cap, v = .slice a l.length cap ∧ Rr w a cap l ∧ ∀ b off, a = some ⟨b, off, none⟩ → base ≤ b := by
  obtain ⟨a, cap, hv, hr⟩ := Rr.own h hf
  refine ⟨a, cap, hv, hr, fun b off e => ?_⟩
  rcases h.2 with ⟨h1, _⟩ | ⟨g, cap2, cur, h1, h2, _⟩
  · rw [hv, e] at h1
    cases h1
  · rw [hv, e] at h1
    injection h1 with h1
    injection h1 with h1
    injection h1 with h1
    omega
/-- A row of records behind a store elsewhere. -/
theorem Rr.kept {w w' : World} {a : Option Addr} {cap : Nat} {l : List Rec} (h : Rr w a cap l) (hk : ∀ b off, a = some ⟨b, off, none⟩ → w'.heap[b]? = w.heap[b]?) (hf : ∀ r ∈ l, Rv w' r) : Rr w' a cap l := by
  refine ⟨h.room, h.most, h.none0, fun h0 => ?_, hf⟩
  obtain ⟨b, off, ha, hb, hc⟩ := h.cells h0
  have e := hk b off ha
  refine ⟨b, off, ha, ?_, fun j hj i u hu => (World.cell?_of_block (w := w) (a := ⟨b, off + j * 38 + i, none⟩) e).trans (hc j hj i u hu)⟩
  have : w.heap[b]? ≠ none := by simp; omega
  rw [← e] at this
  simpa using this
set_option maxHeartbeats 3200000 in
set_option maxRecDepth 100000 in
theorem few_own (a : Option Addr) (cap : Nat) (l : List Rec) (w : World) (hr : Rr w a cap l) :
    Calls Tryd.prog 25 #[.slice a l.length cap] w fun e w' => ∃ a' cap', e = .returned (.slice a' (fewL l).length cap') ∧ Rr w' a' cap' (fewL l) ∧ (∀ b off, a' = some ⟨b, off, none⟩ → w.heap.size ≤ b) ∧ Below w.heap.size w w' := by
  have hroom := hr.room
  have hmost := hr.most
  unfold maxLen at hmost
  have HR := hid hr
  obtain ⟨i0, hi, hz0, hz1, hz2⟩ := info_parts Tryd.info27
  obtain ⟨len, hle⟩ : ∃ n, n = l.length := ⟨_, rfl⟩
  have HL := hid hle
  rw [← hle] at hroom ⊢
  clear hr hle
  go_enter Tryd.func25, Tryd.ntmps25
  go_wp2
  go_loopw [3, 4] (fun x3 x4 wr => ∃ k : Nat, k ≤ len ∧ k ≤ 20 ∧ x4 = .int .i64 (k : Int) ∧ Hid (wr.ownsRow w.heap.size 27 38 x3 ((l.take k).map cutR).length (((l.take k).map cutR).flatMap Rec.cs)) ∧ Hid (Below w.heap.size w wr)) (fun _ x4 _ => 20 - (intOf x4).toNat)
  case atStart => exact ⟨0, by omega, by omega, rfl, World.ownsRow_nil _ _ _ _, Below.refl _ _⟩
  case round =>
    obtain ⟨k, hk, hk20, rfl, HO, HB⟩ := hrel
    by_cases hlt : k < len
    · by_cases h20 : k < 20
      · have hkz : (k : Int) < (len : Int) := by omega
        have hk2 : (k : Int) < 20 := by omega
        obtain ⟨b, off, rfl, hbw, hc⟩ := HR.out.cells (by rw [← HL.out]; omega)
        have hrg := (hc k (by rw [← HL.out]; exact hlt))
        have HRG : Hid (wr.rangeAt b (off + k * 38) (l.getD k recZ).cs) := fun j v hv => (HB.out.cell (p := ⟨b, off + k * 38 + j, none⟩) hbw).trans (hrg j v hv)
        have hok := (HR.out.get (j := k) (by rw [← HL.out]; exact hlt)).later HB.out
        have HTK : Hid ((l.take (k + 1)).map cutR = (l.take k).map cutR ++ [cutR (l.getD k recZ)]) := by
          show _ = _
          have hkl : k < l.length := by rw [← HL.out]; exact hlt
          have e : l.take (k + 1) = l.take k ++ [l.getD k recZ] := by
            rw [List.take_add_one]
            simp [List.getD, List.getElem?_eq_getElem hkl]
          rw [e, List.map_append]
          rfl
        have HTL : Hid (((l.take k).map cutR).length = k) := by show _ = _; simp; rw [← HL.out]; omega
        generalize l.getD k recZ = x at *
        have HLX := hid (Rec.cs_len hok.len)
        have HCW := hid (cut_word x wr hok)
        have HCL : Hid ((cutR x).prev.length = 32) := hok.len
        have HS0 : Hid (w.heap.size ≤ wr.heap.size) := HB.out.size
        clear hrg hc hok
        go_wp2_with (first | refine wpList_load_g rfl 27 _ rfl b (off + k * 38) rfl x.cs _ HRG.out Tryd.underlying27 rfl (by rw [HLX.out]; exact Tryd.size27) ?_ | fail)
        refine HCW.out.mono ?_
        rintro _ W1 ⟨rfl, hb1⟩
        have HB1 := hid (Bn HB.out hb1)
        have HO1 := hid ((own_later HO.out hb1).alloc (.cells (cutR x).cs.toArray 27))
        have HBA := hid (Bn HB1.out (bel_alc W1 (.cells (cutR x).cs.toArray 27)))
        have HNW : Hid (∀ j u, (cutR x).cs[j]? = some u → (W1.alloc (.cells (cutR x).cs.toArray 27)).cell? ((⟨W1.heap.size, 0, none⟩ : Addr).add j) = some u) := fun j u hu => by
          rw [add_plain, Nat.zero_add]
          exact (Joins.cell_of_block (heap_alc W1 _) j).trans (by rw [List.getElem?_toArray]; exact hu)
        have HS1 : Hid (w.heap.size ≤ (W1.alloc (.cells (cutR x).cs.toArray 27)).heap.size) := HBA.out.size
        clear hb1 HCW HO
        go_wp2_with (first | refine wpList_buildOne rfl 56 27 _ rfl (some 21) rfl (cutR x).cs.toArray i0 _ Tryd.underlying56 hi hz0 (by rw [hz1, Rec.cs_size HCL.out]) (by rw [Rec.cs_size HCL.out]; decide) (by rw [Rec.cs_size HCL.out]; decide) rfl ?_ | (at_builtin; refine wpList_append_own _ rfl _ _ 56 rfl w.heap.size 27 i0 _ 38 104 Tryd.underlying56 hi hz0 hz1 hz2 rfl (by decide) _ _ _ rfl HO1.out ⟨W1.heap.size, 0, none⟩ 1 1 (cutR x).cs rfl (by rw [Rec.cs_len HCL.out]) HNW.out (Rec.cs_one _) (by rw [HTL.out]; unfold maxLen; omega) (by rw [HTL.out]; omega) HS1.out ?_))
        intro v2 W2 ho2 hg2 _
        have HO2 : Hid (W2.ownsRow w.heap.size 27 38 v2 ((l.take (k + 1)).map cutR).length (((l.take (k + 1)).map cutR).flatMap Rec.cs)) := by
          show World.ownsRow _ _ _ _ _ _ _
          rw [HTK.out, List.length_append, List.flatMap_append]
          simpa using ho2
        have HB2 : Hid (Below w.heap.size w W2) := HBA.out.trans ((Below.refl _ _).grown hg2 HS1.out (fun j hj => (HO1.out.lt j hj).1))
        clear ho2 hg2 HO1 HNW
        go_wp2
        go_round
        case rel => exact ⟨k + 1, by omega, by omega, by go_num, HO2.out, HB2.out⟩
        case measure => simp [intOf]; omega
      · have hkz : (k : Int) < (len : Int) := by omega
        have hk2 : ¬ (k : Int) < 20 := by omega
        have hke : k = 20 := by omega
        subst hke
        obtain ⟨a', cap', hv', hr', hge⟩ := Rr.own2 HO.out (fun r q => by
          obtain ⟨y, hy, rfl⟩ := List.mem_map.1 q
          exact cut_rv ((HR.out.fits y (List.mem_of_mem_take hy)).later HB.out))
        have HRR : Hid (Rr wr a' cap' (fewL l)) := hr'
        have HGE := hid hge
        clear hr' hge
        have hv2 : _ = Value.slice a' (fewL l).length cap' := hv'
        subst hv2
        clear hv'
        go_wp2
        go_ret
        exact ⟨_, _, rfl, HRR.out, HGE.out, HB.out⟩
    · have hkl : k = len := by omega
      have hkz : ¬ (k : Int) < (len : Int) := by omega
      have HT : Hid (l.take k = l.take 20) := by
        show _ = _
        rw [List.take_of_length_le (by rw [← HL.out]; omega), List.take_of_length_le (by rw [← HL.out]; omega)]
      rw [HT.out] at HO
      obtain ⟨a', cap', hv', hr', hge⟩ := Rr.own2 HO.out (fun r q => by
        obtain ⟨y, hy, rfl⟩ := List.mem_map.1 q
        exact cut_rv ((HR.out.fits y (List.mem_of_mem_take hy)).later HB.out))
      have HRR : Hid (Rr wr a' cap' (fewL l)) := hr'
      have HGE := hid hge
      clear hr' hge
      have hv2 : _ = Value.slice a' (fewL l).length cap' := hv'
      subst hv2
      clear hv'
      go_wp2
      go_ret
      exact ⟨_, _, rfl, HRR.out, HGE.out, HB.out⟩
end Go.Proofs.YtpbaacplgohniaaDoor

namespace Go.Proofs.YtpbaacplgohniaaDoor
open Go.ChangeShapes Go.WideShapes Go.ChangeAt Go.RowKit Go.Deep

theorem wp_alloc55 {o : Oper} {a : Act} {w : World} {K : Act → World → Prop} {Q : Exit → Act → World → Prop} (ho : o.op = .alloc 55) (d : Option Tmp) (hd : o.dst = d) (N : Nat) (hN : N = w.heap.size) (h : K (a.put d (.pointer (some ⟨N, 0, none⟩))) (w.alloc (.cells (hdL 0 0 z32).toArray 55))) : o.wp Tryd.prog a w K Q := by
  subst hd hN
  unfold Oper.wp execOp
  simp only [ho, Sem.run_bind, Instr.alloc, Tryd.zero55, newVar, newRow, run_newObj_alloc, Sem.run_pure, Result.andThen_ok, Value.cells]
  exact h
set_option maxHeartbeats 16000000 in
set_option maxRecDepth 100000 in
theorem dwalk_word (h0 : Hd) (a : Option Addr) (cap : Nat) (l : List Rec) (w : World) (hcl : h0.2.2.length = 32) (hr : Rr w a cap l) (hn : ∀ r ∈ l, r.ps.length ≤ 1000) :
    Calls Tryd.prog 27 #[.agg (hdV h0).toArray, .slice a l.length cap] w fun e w' => e = .returned (.tuple #[.agg (hdV (wlk h0 l 0).1).toArray, .int .i64 ((wlk h0 l 0).2.1 : Int), .int .i64 (wlk h0 l 0).2.2]) ∧ Below w.heap.size w w' := by
  have hroom := hr.room
  have hmost := hr.most
  unfold maxLen at hmost
  have HR := hid hr
  have HN := hid hn
  have b1 := bel_alc w (.cells (hdV h0).toArray 55)
  have b2 := bel_alc (w.alloc (.cells (hdV h0).toArray 55)) (.cells (hdL 0 0 z32).toArray 55)
  have s1 : (w.alloc (.cells (hdV h0).toArray 55)).heap.size = w.heap.size + 1 := by simp
  obtain ⟨W0, hW0⟩ : ∃ W0, W0 = (w.alloc (.cells (hdV h0).toArray 55)).alloc (.cells (hdL 0 0 z32).toArray 55) := ⟨_, rfl⟩
  have HW0 := hid hW0
  have e0 : W0.heap[w.heap.size]? = some (.cells (hdV h0).toArray 55) := by rw [hW0]; exact (b2.block _ (by rw [s1]; omega)).trans (heap_alc w _)
  have e1 : W0.heap[w.heap.size + 1]? = some (.cells (hdL 0 0 z32).toArray 55) := by
    rw [hW0]
    have := heap_alc (w.alloc (.cells (hdV h0).toArray 55)) (.cells (hdL 0 0 z32).toArray 55)
    rw [s1] at this
    exact this
  have HE0 := hid e0
  have HE1 := hid e1
  have HB0 : Hid (Below w.heap.size w W0) := by rw [hW0]; exact Bn b1 b2
  have HS1 : Hid (w.heap.size + 1 = (w.alloc (.cells (hdV h0).toArray 55)).heap.size) := s1.symm
  have HHL := hid hcl
  obtain ⟨len, hle⟩ : ∃ n, n = l.length := ⟨_, rfl⟩
  have HL := hid hle
  rw [← hle] at hroom ⊢
  obtain ⟨RR, hRR⟩ : ∃ RR, RR = wlk h0 l 0 := ⟨_, rfl⟩
  rw [← hRR]
  have HRR := hid hRR
  clear hr hle hn b1 b2 s1 hW0 e0 e1 hcl hRR
  go_enter Tryd.func27, Tryd.ntmps27
  go_wp2_with (first | refine wpList_alloc_to rfl 55 rfl (some 4) rfl _ Tryd.zero55 (w.heap.size + 1) HS1.out W0 HW0.out ?_ | fail)
  go_loopw [7] (fun x7 wr => ∃ (k : Nat) (h : Hd), k ≤ len ∧ x7 = .int .i64 (k : Int) ∧ Hid (h.2.2.length = 32) ∧ Hid (wr.heap[w.heap.size]? = some (.cells (hdV h).toArray 55)) ∧ Hid (wr.heap[w.heap.size + 1]? = some (.cells (hdL 0 0 z32).toArray 55)) ∧ Hid (Below w.heap.size w wr) ∧ Hid (RR = wlk h (l.drop k) k)) (fun x7 _ => len - (intOf x7).toNat)
  case atStart => exact ⟨0, h0, by omega, rfl, HHL, HE0, HE1, HB0, HRR.out⟩
  case round =>
    obtain ⟨k, h, hk, rfl, HHL2, HH, HO, HB, HW⟩ := hrel
    clear HE0 HE1 HB0 HHL HRR HW0 HS1
    by_cases hlt : k < len
    · have hkz : (k : Int) < (len : Int) := by omega
      obtain ⟨b, off, rfl, hbw, hc⟩ := HR.out.cells (by rw [← HL.out]; omega)
      have hrg := (hc k (by rw [← HL.out]; exact hlt))
      have HRG : Hid (wr.rangeAt b (off + k * 38) (l.getD k recZ).cs) := fun j v hv => (HB.out.cell (p := ⟨b, off + k * 38 + j, none⟩) hbw).trans (hrg j v hv)
      have HBL : Hid (b < wr.heap.size) := Nat.lt_of_lt_of_le hbw HB.out.size
      have hok := hid (HR.out.get (j := k) (by rw [← HL.out]; exact hlt))
      have HNK := hid (HN.out (l.getD k recZ) (by simp [List.getD, List.getElem?_eq_getElem (show k < l.length by rw [← HL.out]; exact hlt)]))
      have HST := hid (wlk_step h (show k < l.length by rw [← HL.out]; exact hlt))
      generalize l.getD k recZ = x at *
      have HLX := hid hok.out.len
      have HHV : Hid ((hdV h).length = 34) := hdL_len _ _ _ HHL2.out
      obtain ⟨N, hN⟩ : ∃ N, N = nxtH h x := ⟨_, rfl⟩
      have HNE := hid hN
      have hNl : N.2.2.length = 32 := by rw [hN]; exact nxO_len _ _ _ _
      have HNL := hid hNl
      have HNV : Hid ((hdV N).length = 34) := hdL_len _ _ _ hNl
      have HZS : Hid ((hdL 0 0 z32).toArray.size = (hdV N).toArray.size) := by show _ = _; rw [List.size_toArray, List.size_toArray, HNV.out]; rfl
      have HHS : Hid ((hdV h).toArray.size = (hdV N).toArray.size) := by show _ = _; rw [List.size_toArray, List.size_toArray, HNV.out, HHV.out]
      have HZH : Hid ((hdL 0 0 z32).toArray.size = (hdV h).toArray.size) := by show _ = _; rw [List.size_toArray, List.size_toArray, HHV.out]; rfl
      have HSN : Hid ((Tryd.prog.info? 55).map (·.size) = some (hdV N).toArray.size) := size_hd hNl
      have HSH : Hid ((Tryd.prog.info? 55).map (·.size) = some (hdV h).toArray.size) := size_hd HHL2.out
      have HON := hid (all_oneCell_toArray (show ∀ u ∈ hdV N, u.oneCell' = true from hdL_one _ _ _))
      have HOH := hid (all_oneCell_toArray (show ∀ u ∈ hdV h, u.oneCell' = true from hdL_one _ _ _))
      have HST2 : Hid (RR = if fltO h.1 h.2.1 h.2.2 x = 0 then wlk N (l.drop (k + 1)) (k + 1) else (h, k, fltO h.1 h.2.1 h.2.2 x)) := by show _ = _; rw [hN]; exact HW.out.trans HST.out
      clear hrg hc hbw hN hNl HST
      go_wp2_with fail
      refine wp_region_held_drew (S := fun V => Below wr.heap.size wr V) (by kernel_rfl) (Below.refl _ _).drew (fun hS0 => ?_)
      generalize wr.drew = v0 at *
      simp only [List.size_toArray, List.length_cons, List.length_nil, Nat.reduceAdd]
      refine Ord.take (i := 0) (d := 17) (v := .agg (hdV h).toArray) rfl rfl (by as_aux_lemma => kernel_rfl) (by as_aux_lemma => kernel_rfl) (by as_aux_lemma => kernel_rfl) (fun _ _ _ h => h) (by rfl) ?hA0 (by assumption) ?_
      case hA0 => intro V hSw; exact exec_load 55 (.tmp 2) rfl w.heap.size 0 rfl (load_hd ((hSw.block _ (Array.getElem?_eq_some_iff.1 HH.out).1).trans HH.out) HHL2.out)
      try simp only [List.setIfInBounds_toArray, List.set_cons_zero, List.set_cons_succ]
      refine Ord.take (i := 1) (d := 18) (v := ?v1) rfl rfl (by as_aux_lemma => kernel_rfl) (by as_aux_lemma => kernel_rfl) (by as_aux_lemma => kernel_rfl) (fun _ _ _ h => h) (by rfl) ?hA1 (by assumption) ?_
      case hA1 => intro V hSw; go_simp; try with_reducible rfl
      try simp only [List.setIfInBounds_toArray, List.set_cons_zero, List.set_cons_succ]
      refine Ord.take (i := 2) (d := 19) (v := ?v2) rfl rfl (by as_aux_lemma => kernel_rfl) (by as_aux_lemma => kernel_rfl) (by as_aux_lemma => kernel_rfl) (fun _ _ _ h => h) (by rfl) ?hA2 (by assumption) ?_
      case hA2 => intro V hSw; go_simp; try with_reducible rfl
      try simp only [List.setIfInBounds_toArray, List.set_cons_zero, List.set_cons_succ]
      refine Ord.take (i := 3) (d := 20) (v := .pointer (some ⟨b, off + k * 38, none⟩)) rfl rfl (by as_aux_lemma => kernel_rfl) (by as_aux_lemma => kernel_rfl) (by as_aux_lemma => kernel_rfl) (fun _ _ _ h => h) (by rfl) ?hA3 (by assumption) ?_
      case hA3 => intro V hSw; go_simp; try with_reducible rfl
      try simp only [List.setIfInBounds_toArray, List.set_cons_zero, List.set_cons_succ]
      refine Ord.take (i := 4) (d := 21) (v := .agg x.cs.toArray) rfl rfl (by as_aux_lemma => kernel_rfl) (by as_aux_lemma => kernel_rfl) (by as_aux_lemma => kernel_rfl) (fun _ _ _ h => h) (by rfl) ?hA4 (by assumption) ?_
      case hA4 => intro V hSw; exact exec_load 27 (.tmp 20) rfl b (off + k * 38) rfl (run_loadVar_mid V b (off + k * 38) 27 x.cs _ (range_later HRG.out hSw HBL.out) Tryd.underlying27 rfl (by rw [Rec.cs_len HLX.out]; exact Tryd.size27))
      try simp only [List.setIfInBounds_toArray, List.set_cons_zero, List.set_cons_succ]
      refine wpAnyH_ready (rs := [5, 9]) (by as_aux_lemma => kernel_rfl) (by simp) (AllReadyH.cons rfl (fun K hK => ?_) (AllReadyH.cons rfl (fun K hK => ?_) AllReadyH.nil))
      · go_simp
        refine (dnext_word h.1 h.2.1 h.2.2 x v0 HHL2.out (hok.out.later (Bn HB.out hS0)) HNK.out).mono ?_
        rintro _ v1 ⟨rfl, hb_v1⟩
        rw [show hdL (nxO h.1 h.2.1 h.2.2 x).1 (nxO h.1 h.2.1 h.2.2 x).2.1 (nxO h.1 h.2.1 h.2.2 x).2.2 = hdV N from by rw [HNE.out]; rfl]
        have hS_v1 := Bn hS0 hb_v1
        refine hK.out _ _ hS_v1 (fun _ => ?_)
        clear hK K
        try simp only [List.setIfInBounds_toArray, List.set_cons_zero, List.set_cons_succ]
        generalize fltO h.1 h.2.1 h.2.2 x = F at *
        refine Ord.take (i := 6) (d := 16) (v := ?v6B) rfl rfl (by as_aux_lemma => kernel_rfl) (by as_aux_lemma => kernel_rfl) (by as_aux_lemma => kernel_rfl) (fun _ _ _ h => h) (by rfl) ?hB6 (by assumption) ?_
        case hB6 => intro V hSw; go_simp; try with_reducible rfl
        try simp only [List.setIfInBounds_toArray, List.set_cons_zero, List.set_cons_succ]
        refine Ord.take (i := 7) (d := 23) (v := .agg (hdV N).toArray) rfl rfl (by as_aux_lemma => kernel_rfl) (by as_aux_lemma => kernel_rfl) (by as_aux_lemma => kernel_rfl) (fun _ _ _ h => h) (by rfl) ?hB7 (by assumption) ?_
        case hB7 => intro V hSw; go_simp; try with_reducible rfl
        try simp only [List.setIfInBounds_toArray, List.set_cons_zero, List.set_cons_succ]
        refine Ord.take (i := 8) (d := 24) (v := ?v8B) rfl rfl (by as_aux_lemma => kernel_rfl) (by as_aux_lemma => kernel_rfl) (by as_aux_lemma => kernel_rfl) (fun _ _ _ h => h) (by rfl) ?hB8 (by assumption) ?_
        case hB8 => intro V hSw; go_simp; try with_reducible rfl
        try simp only [List.setIfInBounds_toArray, List.set_cons_zero, List.set_cons_succ]
        refine wpAnyH_ready (rs := [9]) (by as_aux_lemma => kernel_rfl) (by simp) (AllReadyH.cons rfl (fun K hK => ?_) AllReadyH.nil)
        rw [if_pos (by rfl)]
        refine wp_alloc55 rfl (some 8) rfl v1.heap.size rfl ?_
        have HZv2 := hid (heap_alc v1 (.cells (hdL 0 0 z32).toArray 55))
        have hS_v2 := Bn hS_v1 (bel_alc v1 (.cells (hdL 0 0 z32).toArray 55))
        have HGv2 : Hid (wr.heap.size ≤ v1.heap.size) := hS_v1.size
        refine hK.out _ _ hS_v2 (fun _ => ?_)
        clear hK K
        generalize hv2 : v1.alloc (.cells (hdL 0 0 z32).toArray 55) = v2 at *
        clear hv2
        try simp only [List.setIfInBounds_toArray, List.set_cons_zero, List.set_cons_succ]
        refine wpAnyH_ready (rs := [10]) (by as_aux_lemma => kernel_rfl) (by simp) (AllReadyH.cons rfl (fun K hK => ?_) AllReadyH.nil)
        rw [if_pos (by rfl)]
        refine wp_store_row 55 _ _ rfl v1.heap.size (hdV N).toArray rfl rfl 55 _ HZv2.out HSN.out HZS.out HON.out ?_
        have hS_e : Below wr.heap.size wr (v2.setRow v1.heap.size (hdV N).toArray) := below_setRow hS_v2 HGv2.out _
        refine hK.out _ _ hS_e (fun _ => ?_)
        clear hK K
        have HEN := hid (setRow_heap _ _ _ (hdV N).toArray _ _ HZv2.out)
        generalize v2.setRow v1.heap.size (hdV N).toArray = ve at *
        try simp only [List.setIfInBounds_toArray, List.set_cons_zero, List.set_cons_succ]
        refine Ord.take (i := 11) (d := 9) (v := ?v11B) rfl rfl (by as_aux_lemma => kernel_rfl) (by as_aux_lemma => kernel_rfl) (by as_aux_lemma => kernel_rfl) (fun _ _ _ h => h) (by rfl) ?hB11 (by assumption) ?_
        case hB11 => intro V hSw; go_simp; try with_reducible rfl
        try simp only [List.setIfInBounds_toArray, List.set_cons_zero, List.set_cons_succ]
        refine wpAnyH_done (by as_aux_lemma => kernel_rfl) ?_ _
        have HB3 := hid (Bn HB.out hS_e)
        have HH3 := hid ((hS_e.block _ (Array.getElem?_eq_some_iff.1 HH.out).1).trans HH.out)
        have HO3 := hid ((hS_e.block _ (Array.getElem?_eq_some_iff.1 HO.out).1).trans HO.out)
        have HR3 : Hid (ve.rangeAt w.heap.size 0 (hdV h)) := fun j v hv => by
          rw [Nat.zero_add, Joins.cell_of_block HH3.out j, List.getElem?_toArray]
          exact hv
        have HN3 : Hid (ve.rangeAt v1.heap.size 0 (hdV N)) := fun j v hv => by
          rw [Nat.zero_add, Joins.cell_of_block HEN.out j, List.getElem?_toArray]
          exact hv
        by_cases hF : F = 0
        · subst hF
          go_wp2_with (first | refine wpList_load_g rfl 55 _ rfl v1.heap.size 0 rfl (hdV N) _ HN3.out Tryd.underlying55 rfl (by rw [HNV.out]; exact Tryd.size55) ?_ | refine wpList_store_rowTo rfl 55 _ _ rfl rfl w.heap.size (hdV N).toArray rfl rfl 55 _ HH3.out HSN.out HHS.out HON.out ?_ | fail)
          go_round
          case rel => exact ⟨k + 1, N, by omega, by go_num, HNL, setRow_heap _ _ _ _ _ _ HH3.out, (other_setRow _ _ _ _ (by omega)).trans HO3.out, below_setRow HB3.out (Nat.le_refl _) _, by show _ = _; rw [HST2.out]; simp⟩
          case measure => simp [intOf]; omega
        · have HF0 := hid hF
          go_wp2_with (first | refine wpList_load_g rfl 55 _ rfl w.heap.size 0 rfl (hdV h) _ HR3.out Tryd.underlying55 rfl (by rw [HHV.out]; exact Tryd.size55) ?_ | refine wpList_store_rowTo rfl 55 _ _ rfl rfl (w.heap.size + 1) (hdV h).toArray rfl rfl 55 _ HO3.out HSH.out HZH.out HOH.out ?_ | fail)
          refine bodyPost_ret (results_row_tmp2 rfl _ _ (w.heap.size + 1) _ rfl (load_hd (setRow_heap _ _ _ _ _ _ HO3.out) HHL2.out)) rfl ?_
          exact ⟨by rw [HST2.out, if_neg HF0.out]; rfl, below_setRow HB3.out (by omega) _⟩
      · rw [if_pos (by rfl)]
        refine wp_alloc55 rfl (some 8) rfl v0.heap.size rfl ?_
        have HZv1 := hid (heap_alc v0 (.cells (hdL 0 0 z32).toArray 55))
        have hS_v1 := Bn hS0 (bel_alc v0 (.cells (hdL 0 0 z32).toArray 55))
        have HGv1 : Hid (wr.heap.size ≤ v0.heap.size) := hS0.size
        refine hK.out _ _ hS_v1 (fun _ => ?_)
        clear hK K
        generalize hv1 : v0.alloc (.cells (hdL 0 0 z32).toArray 55) = v1 at *
        clear hv1
        try simp only [List.setIfInBounds_toArray, List.set_cons_zero, List.set_cons_succ]
        refine wpAnyH_ready (rs := [5]) (by as_aux_lemma => kernel_rfl) (by simp) (AllReadyH.cons rfl (fun K hK => ?_) AllReadyH.nil)
        go_simp
        refine (dnext_word h.1 h.2.1 h.2.2 x v1 HHL2.out (hok.out.later (Bn HB.out hS_v1)) HNK.out).mono ?_
        rintro _ v2 ⟨rfl, hb_v2⟩
        rw [show hdL (nxO h.1 h.2.1 h.2.2 x).1 (nxO h.1 h.2.1 h.2.2 x).2.1 (nxO h.1 h.2.1 h.2.2 x).2.2 = hdV N from by rw [HNE.out]; rfl]
        have hS_v2 := Bn hS_v1 hb_v2
        refine hK.out _ _ hS_v2 (fun _ => ?_)
        clear hK K
        try simp only [List.setIfInBounds_toArray, List.set_cons_zero, List.set_cons_succ]
        have HZv2 := hid ((hb_v2.block _ (Array.getElem?_eq_some_iff.1 HZv1.out).1).trans HZv1.out)
        have HGv2 := HGv1
        generalize fltO h.1 h.2.1 h.2.2 x = F at *
        refine Ord.take (i := 6) (d := 16) (v := ?v6C) rfl rfl (by as_aux_lemma => kernel_rfl) (by as_aux_lemma => kernel_rfl) (by as_aux_lemma => kernel_rfl) (fun _ _ _ h => h) (by rfl) ?hC6 (by assumption) ?_
        case hC6 => intro V hSw; go_simp; try with_reducible rfl
        try simp only [List.setIfInBounds_toArray, List.set_cons_zero, List.set_cons_succ]
        refine Ord.take (i := 7) (d := 23) (v := .agg (hdV N).toArray) rfl rfl (by as_aux_lemma => kernel_rfl) (by as_aux_lemma => kernel_rfl) (by as_aux_lemma => kernel_rfl) (fun _ _ _ h => h) (by rfl) ?hC7 (by assumption) ?_
        case hC7 => intro V hSw; go_simp; try with_reducible rfl
        try simp only [List.setIfInBounds_toArray, List.set_cons_zero, List.set_cons_succ]
        refine Ord.take (i := 8) (d := 24) (v := ?v8C) rfl rfl (by as_aux_lemma => kernel_rfl) (by as_aux_lemma => kernel_rfl) (by as_aux_lemma => kernel_rfl) (fun _ _ _ h => h) (by rfl) ?hC8 (by assumption) ?_
        case hC8 => intro V hSw; go_simp; try with_reducible rfl
        try simp only [List.setIfInBounds_toArray, List.set_cons_zero, List.set_cons_succ]
        refine wpAnyH_ready (rs := [10]) (by as_aux_lemma => kernel_rfl) (by simp) (AllReadyH.cons rfl (fun K hK => ?_) AllReadyH.nil)
        rw [if_pos (by rfl)]
        refine wp_store_row 55 _ _ rfl v0.heap.size (hdV N).toArray rfl rfl 55 _ HZv2.out HSN.out HZS.out HON.out ?_
        have hS_e : Below wr.heap.size wr (v2.setRow v0.heap.size (hdV N).toArray) := below_setRow hS_v2 HGv2.out _
        refine hK.out _ _ hS_e (fun _ => ?_)
        clear hK K
        have HEN := hid (setRow_heap _ _ _ (hdV N).toArray _ _ HZv2.out)
        generalize v2.setRow v0.heap.size (hdV N).toArray = ve at *
        try simp only [List.setIfInBounds_toArray, List.set_cons_zero, List.set_cons_succ]
        refine Ord.take (i := 11) (d := 9) (v := ?v11C) rfl rfl (by as_aux_lemma => kernel_rfl) (by as_aux_lemma => kernel_rfl) (by as_aux_lemma => kernel_rfl) (fun _ _ _ h => h) (by rfl) ?hC11 (by assumption) ?_
        case hC11 => intro V hSw; go_simp; try with_reducible rfl
        try simp only [List.setIfInBounds_toArray, List.set_cons_zero, List.set_cons_succ]
        refine wpAnyH_done (by as_aux_lemma => kernel_rfl) ?_ _
        have HB3 := hid (Bn HB.out hS_e)
        have HH3 := hid ((hS_e.block _ (Array.getElem?_eq_some_iff.1 HH.out).1).trans HH.out)
        have HO3 := hid ((hS_e.block _ (Array.getElem?_eq_some_iff.1 HO.out).1).trans HO.out)
        have HR3 : Hid (ve.rangeAt w.heap.size 0 (hdV h)) := fun j v hv => by
          rw [Nat.zero_add, Joins.cell_of_block HH3.out j, List.getElem?_toArray]
          exact hv
        have HN3 : Hid (ve.rangeAt v0.heap.size 0 (hdV N)) := fun j v hv => by
          rw [Nat.zero_add, Joins.cell_of_block HEN.out j, List.getElem?_toArray]
          exact hv
        by_cases hF : F = 0
        · subst hF
          go_wp2_with (first | refine wpList_load_g rfl 55 _ rfl v0.heap.size 0 rfl (hdV N) _ HN3.out Tryd.underlying55 rfl (by rw [HNV.out]; exact Tryd.size55) ?_ | refine wpList_store_rowTo rfl 55 _ _ rfl rfl w.heap.size (hdV N).toArray rfl rfl 55 _ HH3.out HSN.out HHS.out HON.out ?_ | fail)
          go_round
          case rel => exact ⟨k + 1, N, by omega, by go_num, HNL, setRow_heap _ _ _ _ _ _ HH3.out, (other_setRow _ _ _ _ (by omega)).trans HO3.out, below_setRow HB3.out (Nat.le_refl _) _, by show _ = _; rw [HST2.out]; simp⟩
          case measure => simp [intOf]; omega
        · have HF0 := hid hF
          go_wp2_with (first | refine wpList_load_g rfl 55 _ rfl w.heap.size 0 rfl (hdV h) _ HR3.out Tryd.underlying55 rfl (by rw [HHV.out]; exact Tryd.size55) ?_ | refine wpList_store_rowTo rfl 55 _ _ rfl rfl (w.heap.size + 1) (hdV h).toArray rfl rfl 55 _ HO3.out HSH.out HZH.out HOH.out ?_ | fail)
          refine bodyPost_ret (results_row_tmp2 rfl _ _ (w.heap.size + 1) _ rfl (load_hd (setRow_heap _ _ _ _ _ _ HO3.out) HHL2.out)) rfl ?_
          exact ⟨by rw [HST2.out, if_neg HF0.out]; rfl, below_setRow HB3.out (by omega) _⟩
    · have hkl : k = len := by omega
      have hkz : ¬ (k : Int) < (len : Int) := by omega
      have HHV : Hid ((hdV h).length = 34) := hdL_len _ _ _ HHL2.out
      have HR3 : Hid (wr.rangeAt w.heap.size 0 (hdV h)) := fun j v hv => by
        rw [Nat.zero_add, Joins.cell_of_block HH.out j, List.getElem?_toArray]
        exact hv
      have HZH : Hid ((hdL 0 0 z32).toArray.size = (hdV h).toArray.size) := by show _ = _; rw [List.size_toArray, List.size_toArray, HHV.out]; rfl
      have HSH : Hid ((Tryd.prog.info? 55).map (·.size) = some (hdV h).toArray.size) := size_hd HHL2.out
      have HOH := hid (all_oneCell_toArray (show ∀ u ∈ hdV h, u.oneCell' = true from hdL_one _ _ _))
      have HEN : Hid (RR = (h, k, 0)) := by
        show _ = _
        rw [HW.out, List.drop_eq_nil_of_le (by rw [← HL.out]; omega), wlk]
      subst hkl
      go_wp2_with (first | refine wpList_load_g rfl 55 _ rfl w.heap.size 0 rfl (hdV h) _ HR3.out Tryd.underlying55 rfl (by rw [HHV.out]; exact Tryd.size55) ?_ | refine wpList_store_rowTo rfl 55 _ _ rfl rfl (w.heap.size + 1) (hdV h).toArray rfl rfl 55 _ HO.out HSH.out HZH.out HOH.out ?_ | fail)
      refine bodyPost_ret (results_row_tmp2 rfl _ _ (w.heap.size + 1) _ rfl (load_hd (setRow_heap _ _ _ _ _ _ HO.out) HHL2.out)) rfl ?_
      exact ⟨by rw [HEN.out]; rfl, below_setRow HB.out (by omega) _⟩
end Go.Proofs.YtpbaacplgohniaaDoor

namespace Go.Proofs.YtpbaacplgohniaaDoor
open Go.ChangeShapes Go.WideShapes Go.ChangeAt Go.RowKit Go.Deep

/-- What the document's Make answers. -/
def MkQ (hs he : Int) (hc : List Int) (r : Rec) (v : Value) (e : Int) : Prop :=
  e = fltO hs he hc (mkR hs he hc r) ∧ ((e ≠ 0 ∧ v = .agg recZ.cs.toArray) ∨ (e = 0 ∧ v = .agg (mkR hs he hc r).cs.toArray))
theorem flt_out (hs he : Int) (hc : List Int) (r : Rec) (hw : (Lit.int .i64 hs).wf = true) (h : hs < 0 ∨ 1073741824 ≤ hs) : fltO hs he hc (mkR hs he hc r) = 130 := by
  have hb := wf_i64 hw
  unfold fltO
  rw [if_neg]
  intro q
  have := (may_parts q).1
  have e : (mkR hs he hc r).seq = wrap64 (hs + 1) := rfl
  rw [e] at this
  unfold wrap64 at this
  omega
set_option maxHeartbeats 6400000 in
set_option maxRecDepth 100000 in
theorem dmake_out (hs he : Int) (hc : List Int) (r : Rec) (w : World) (hcl : hc.length = 32) (h : Rv w r) (hw : (Lit.int .i64 hs).wf = true) (hq : hs < 0 ∨ 1073741824 ≤ hs) :
    Calls Tryd.prog 31 #[.agg (hdL hs he hc).toArray, .agg r.cs.toArray] w fun e w' => ∃ v e', e = .returned (.tuple #[v, .int .i64 e']) ∧ Below w.heap.size w w' ∧ MkQ hs he hc r v e' := by
  have M0 := Mk.start w hs he hc r hcl h.len
  obtain ⟨W0, hW0⟩ : ∃ W0, W0 = ((w.alloc (.cells (hdL hs he hc).toArray 55)).alloc (.cells r.cs.toArray 27)).alloc (.cells recZ.cs.toArray 27) := ⟨_, rfl⟩
  rw [← hW0] at M0
  have HW0 := hid hW0
  clear hW0
  have s1 : (w.alloc (.cells (hdL hs he hc).toArray 55)).heap.size = w.heap.size + 1 := by simp
  have HS2 : Hid (w.heap.size + 2 = ((w.alloc (.cells (hdL hs he hc).toArray 55)).alloc (.cells r.cs.toArray 27)).heap.size) := by show _ = _; simp
  have d0 := M0.hd.c0
  have HO := hid M0.out
  have HB := hid M0.bel
  have HF := hid (flt_out hs he hc r hw hq)
  have HP : Hid (MkQ hs he hc r (.agg recZ.cs.toArray) 130) := ⟨HF.out.symm, .inl ⟨by decide, rfl⟩⟩
  clear M0 h hw
  rcases hq with hq | hq
  · have e1 : decide (1073741824 ≤ hs) = false := decide_eq_false (by omega)
    go_enter Tryd.func31, Tryd.ntmps31
    go_wp2_with (first | refine wpList_alloc_to rfl 27 rfl (some 4) rfl _ Tryd.zero27 (w.heap.size + 2) HS2.out W0 HW0.out ?_ | refine wpList_buildTo rfl 27 _ rfl (some 16) rfl recZ.cs.toArray Tryd.built27 ?_ | refine wpList_store_rowTo rfl 27 _ _ rfl rfl (w.heap.size + 2) recZ.cs.toArray rfl rfl 27 _ HO.out (size_recs rfl) rfl (all_oneCell_toArray (Rec.cs_one _)) ?_ | fail)
    refine bodyPost_ret (results_row_tmp rfl _ _ (w.heap.size + 2) _ rfl (load_recs (setRow_heap _ _ _ _ _ _ HO.out) rfl)) rfl ?_
    exact ⟨_, _, rfl, below_setRow HB.out (by omega) _, HP.out⟩
  · go_enter Tryd.func31, Tryd.ntmps31
    go_wp2_with (first | refine wpList_alloc_to rfl 27 rfl (some 4) rfl _ Tryd.zero27 (w.heap.size + 2) HS2.out W0 HW0.out ?_ | refine wpList_buildTo rfl 27 _ rfl (some 16) rfl recZ.cs.toArray Tryd.built27 ?_ | refine wpList_store_rowTo rfl 27 _ _ rfl rfl (w.heap.size + 2) recZ.cs.toArray rfl rfl 27 _ HO.out (size_recs rfl) rfl (all_oneCell_toArray (Rec.cs_one _)) ?_ | fail)
    refine bodyPost_ret (results_row_tmp rfl _ _ (w.heap.size + 2) _ rfl (load_recs (setRow_heap _ _ _ _ _ _ HO.out) rfl)) rfl ?_
    exact ⟨_, _, rfl, below_setRow HB.out (by omega) _, HP.out⟩
set_option maxHeartbeats 6400000 in
set_option maxRecDepth 100000 in
theorem dmake_lead (hs he : Int) (hc : List Int) (r : Rec) (w : World) (hcl : hc.length = 32) (hc8 : ∀ j, (Lit.int .u8 (hc.getD j 0)).wf = true) (h : Rv w r) (hn : r.ps.length ≤ 1000) (hq1 : 0 ≤ hs) (hq2 : hs < 1073741824) (hk : r.kind = 1) :
    Calls Tryd.prog 31 #[.agg (hdL hs he hc).toArray, .agg r.cs.toArray] w fun e w' => ∃ v e', e = .returned (.tuple #[v, .int .i64 e']) ∧ Below w.heap.size w w' ∧ MkQ hs he hc r v e' := by
  have M0 := Mk.start w hs he hc r hcl h.len
  obtain ⟨W0, hW0⟩ : ∃ W0, W0 = ((w.alloc (.cells (hdL hs he hc).toArray 55)).alloc (.cells r.cs.toArray 27)).alloc (.cells recZ.cs.toArray 27) := ⟨_, rfl⟩
  rw [← hW0] at M0
  have HW0 := hid hW0
  clear hW0
  have s1 : (w.alloc (.cells (hdL hs he hc).toArray 55)).heap.size = w.heap.size + 1 := by simp
  have HS2 : Hid (w.heap.size + 2 = ((w.alloc (.cells (hdL hs he hc).toArray 55)).alloc (.cells r.cs.toArray 27)).heap.size) := by show _ = _; simp
  have d0 := M0.hd.c0
  have HMR : Hid (mkR hs he hc r = { r with seq := hs + 1, prev := hc }) := by
    show _ = _
    unfold mkR
    rw [if_pos hk, IntWalk.wrap64_in (hs + 1) (by omega)]
  have h3 : Rv w (mkR hs he hc r) := by
    rw [HMR.out]
    exact ⟨hcl, hc8, wf_mk_i64 (x := hs + 1) (by omega) (by omega), h.epoch, h.kind, h.site, h.path, h.row⟩
  have HPR : Hid (∀ v e, MkQ hs he hc r v e ↔ (e = fltO hs he hc (mkR hs he hc r) ∧ ((e ≠ 0 ∧ v = .agg recZ.cs.toArray) ∨ (e = 0 ∧ v = .agg (mkR hs he hc r).cs.toArray)))) := fun _ _ => Iff.rfl
  have HNW := hid (fun V (hV : Below w.heap.size w V) => dnext_word hs he hc (mkR hs he hc r) V hcl (h3.later hV) hn)
  have HRL := hid (Rec.cs_len h3.len)
  have HRK := hid h3.len
  have HM0 := hid M0
  have HCL : Hid ((hc.map (Value.int .u8)).length = 32) := by show _ = _; simp [hcl]
  have HCA : Hid ((hc.map (Value.int .u8)).toArray.size = 32) := by show _ = _; simp [hcl]
  have HC23 : Hid ((Tryd.prog.info? 23).map (·.size) = some (hc.map (Value.int .u8)).toArray.size) := by show _ = _; rw [HCA.out]; exact Tryd.size23
  have HC1 : Hid (∀ v ∈ hc.map (Value.int .u8), v.oneCell' = true) := fun v hv => by obtain ⟨z, _, rfl⟩ := List.mem_map.1 hv; rfl
  have HHL := hid (hdL_len hs he hc hcl)
  have HHC := hid hcl
  have g1 : decide (1073741824 ≤ hs) = false := decide_eq_false (by omega)
  have g2 : decide (hs < 0) = false := decide_eq_false (by omega)
  clear M0 h3 h
  go_enter Tryd.func31, Tryd.ntmps31
  go_wp2_with (first | refine wpList_alloc_to rfl 27 rfl (some 4) rfl _ Tryd.zero27 (w.heap.size + 2) HS2.out W0 HW0.out ?_ | fail)
  refine wp_region_held_drew (S := fun V => Bh V w.heap.size hs he hc ∧ Below w.heap.size w V) (by kernel_rfl) ⟨⟨HM0.out.hd.blk, HM0.out.hd.len⟩, HM0.out.bel.drew⟩ (fun hS0 => ?_)
  have HM1 : Hid (Mk w W0.drew hs he hc r) := ⟨⟨HM0.out.hd.blk, HM0.out.hd.len⟩, ⟨HM0.out.box.blk, HM0.out.box.len⟩, HM0.out.out, HM0.out.bel.drew⟩
  generalize W0.drew = v0 at *
  clear HM0 d0
  simp only [List.size_toArray, List.length_cons, List.length_nil, Nat.reduceAdd]
  refine Ord.take (i := 0) (d := 17) (v := ?v0) rfl rfl (by as_aux_lemma => kernel_rfl) (by as_aux_lemma => kernel_rfl) (by as_aux_lemma => kernel_rfl) (fun _ _ _ h => h) (by rfl) ?hA0 (by assumption) ?_
  case hA0 => intro V hSw; go_simp; try with_reducible rfl
  try simp only [List.setIfInBounds_toArray, List.set_cons_zero, List.set_cons_succ]
  refine Ord.take (i := 1) (d := 18) (v := .int .i64 hs) rfl rfl (by as_aux_lemma => kernel_rfl) (by as_aux_lemma => kernel_rfl) (by as_aux_lemma => kernel_rfl) (fun _ _ _ h => h) (by rfl) ?hA1 (by assumption) ?_
  case hA1 => intro V hSw; have q := hSw.1.c0; go_simp; try with_reducible rfl
  try simp only [List.setIfInBounds_toArray, List.set_cons_zero, List.set_cons_succ]
  refine Ord.take (i := 2) (d := 19) (v := .int .i64 (hs + 1)) rfl rfl (by as_aux_lemma => kernel_rfl) (by as_aux_lemma => kernel_rfl) (by as_aux_lemma => kernel_rfl) (fun _ _ _ h => h) (by rfl) ?hA2 (by assumption) ?_
  case hA2 => intro V hSw; go_simp; exact IntWalk.i64_in _ (by omega)
  try simp only [List.setIfInBounds_toArray, List.set_cons_zero, List.set_cons_succ]
  refine Ord.take (i := 3) (d := 20) (v := ?v3) rfl rfl (by as_aux_lemma => kernel_rfl) (by as_aux_lemma => kernel_rfl) (by as_aux_lemma => kernel_rfl) (fun _ _ _ h => h) (by rfl) ?hA3 (by assumption) ?_
  case hA3 => intro V hSw; go_simp; try with_reducible rfl
  try simp only [List.setIfInBounds_toArray, List.set_cons_zero, List.set_cons_succ]
  refine Ord.take (i := 4) (d := 21) (v := .agg (hc.map (Value.int .u8)).toArray) rfl rfl (by as_aux_lemma => kernel_rfl) (by as_aux_lemma => kernel_rfl) (by as_aux_lemma => kernel_rfl) (fun _ _ _ h => h) (by rfl) ?hA4 (by assumption) ?_
  case hA4 => intro V hSw; exact exec_load 23 (.tmp 20) rfl w.heap.size 2 rfl (run_loadVar_mid V w.heap.size 2 23 _ _ hSw.1.chain Tryd.underlying23 rfl (by rw [HCL.out]; exact Tryd.size23))
  try simp only [List.setIfInBounds_toArray, List.set_cons_zero, List.set_cons_succ]
  refine Ord.take (i := 5) (d := 22) (v := ?v5) rfl rfl (by as_aux_lemma => kernel_rfl) (by as_aux_lemma => kernel_rfl) (by as_aux_lemma => kernel_rfl) (fun _ _ _ h => h) (by rfl) ?hA5 (by assumption) ?_
  case hA5 => intro V hSw; go_simp; try with_reducible rfl
  try simp only [List.setIfInBounds_toArray, List.set_cons_zero, List.set_cons_succ]
  refine wpAnyH_ready (rs := [6]) (by as_aux_lemma => kernel_rfl) (by simp) (AllReadyH.cons rfl (fun K hK => ?_) AllReadyH.nil)
  have HM2 := hid (HM1.out.seq (hs + 1))
  have cc0 := HM1.out.box.c0
  have uu0 := Joins.unfrozen_of_block HM1.out.box.blk 0
  go_simp
  clear cc0 uu0
  refine hK.out _ _ ⟨HM2.out.hd, HM2.out.bel⟩ (fun _ => ?_)
  clear hK K HM1
  generalize v0.setCell ⟨w.heap.size + 1, 0, none⟩ (.int .i64 (hs + 1)) = v1 at *
  try simp only [List.setIfInBounds_toArray, List.set_cons_zero, List.set_cons_succ]
  refine Ord.take (i := 7) (d := 23) (v := ?v7) rfl rfl (by as_aux_lemma => kernel_rfl) (by as_aux_lemma => kernel_rfl) (by as_aux_lemma => kernel_rfl) (fun _ _ _ h => h) (by rfl) ?hA7 (by assumption) ?_
  case hA7 => intro V hSw; go_simp; try with_reducible rfl
  try simp only [List.setIfInBounds_toArray, List.set_cons_zero, List.set_cons_succ]
  refine wpAnyH_ready (rs := [8]) (by as_aux_lemma => kernel_rfl) (by simp) (AllReadyH.cons rfl (fun K hK => ?_) AllReadyH.nil)
  rw [if_pos (by rfl)]
  have HM3 := hid (HM2.out.prev hc HHC.out)
  refine wp_store_mid 23 _ _ rfl (w.heap.size + 1) 2 (hc.map (Value.int .u8)).toArray rfl rfl (by rw [HCA.out]; exact HM2.out.box.there) HC23.out (all_oneCell_toArray HC1.out) ?_
  refine hK.out _ _ ⟨HM3.out.hd, HM3.out.bel⟩ (fun _ => ?_)
  clear hK K HM2
  generalize v1.setCells (w.heap.size + 1) 2 (hc.map (Value.int .u8)).toArray.toList = v2 at *
  try simp only [List.setIfInBounds_toArray, List.set_cons_zero, List.set_cons_succ]
  refine wpAnyH_done (by as_aux_lemma => kernel_rfl) ?_ _
  have c34 : v2.cell? ⟨w.heap.size + 1, 34, none⟩ = some (.int .i64 r.kind) := HM3.out.box.c34
  have d1 := HM3.out.hd.c1
  have e1 := HM3.out.box.c1
  have u1 := Joins.unfrozen_of_block HM3.out.box.blk 1
  have HM4 := hid (HM3.out)
  obtain ⟨R3, hR3⟩ : ∃ R3, R3 = mkR hs he hc r := ⟨_, rfl⟩
  have HM5 := hid (show Mk w v2 hs he hc R3 by rw [hR3, HMR.out]; exact HM4.out)
  rw [← hR3] at HNW HRL HRK HPR
  have HNX := hid (HNW.out _ HM5.out.bel)
  have HR5 := hid HM5.out.hd.range
  have HX5 := hid HM5.out.box.range
  clear HMR HM4 HM3 HNW hR3
  rw [hk] at c34
  go_wp2_with (first | refine wpList_load_g rfl 55 _ rfl w.heap.size 0 rfl (hdL hs he hc) _ HR5.out Tryd.underlying55 rfl (by rw [HHL.out]; exact Tryd.size55) ?_ | refine wpList_load_g rfl 27 _ rfl (w.heap.size + 1) 0 rfl R3.cs _ HX5.out Tryd.underlying27 rfl (by rw [HRL.out]; exact Tryd.size27) ?_ | fail)
  refine HNX.out.mono ?_
  rintro _ W4 ⟨rfl, hb4⟩
  obtain ⟨NN, hNN⟩ : ∃ NN, NN = nxO hs he hc R3 := ⟨_, rfl⟩
  have hNl : NN.2.2.length = 32 := by rw [hNN]; exact nxO_len _ _ _ _
  rw [← hNN]
  obtain ⟨na, nb, nc⟩ := NN
  have hNl' : nc.length = 32 := hNl
  have hbb := bel_alc W4 (.cells (hdL na nb nc).toArray 55)
  have HSN : Hid ((Tryd.prog.info? 55).map (·.size) = some (hdL na nb nc).toArray.size) := size_hd hNl'
  have HZS : Hid ((hdL 0 0 z32).toArray.size = (hdL na nb nc).toArray.size) := by show _ = _; rw [List.size_toArray, List.size_toArray, hdL_len _ _ _ rfl, hdL_len _ _ _ hNl']
  have HON := hid (all_oneCell_toArray (hdL_one na nb nc))
  have HM6 := hid (HM5.out.later (Bn hb4 hbb))
  obtain ⟨W5, hW5⟩ : ∃ W5, W5 = W4.alloc (.cells (hdL na nb nc).toArray 55) := ⟨_, rfl⟩
  have HW5 := hid hW5
  rw [← hW5] at HM6
  have HO6 := hid HM6.out.out
  have HB6 := hid HM6.out.bel
  have HX6 := hid HM6.out.box.range
  clear hb4 hbb hNN hNl hNl' HNX HM5 HR5 HX5 hW5 c34 d1 e1 u1
  generalize fltO hs he hc R3 = F at *
  by_cases h0 : F = 0
  · subst h0
    go_wp2_with (first | refine wpList_alloc_at rfl 55 rfl (some 6) rfl _ Tryd.zero55 W4.heap.size rfl ?_ | refine wpList_store_as' rfl 55 _ _ rfl rfl W4 (hdL 0 0 z32).toArray (hdL na nb nc).toArray rfl rfl rfl HSN.out HZS.out HON.out W5 HW5.out ?_ | refine wpList_load_g rfl 27 _ rfl (w.heap.size + 1) 0 rfl R3.cs _ HX6.out Tryd.underlying27 rfl (by rw [HRL.out]; exact Tryd.size27) ?_ | refine wpList_store_rowTo rfl 27 _ _ rfl rfl (w.heap.size + 2) R3.cs.toArray rfl rfl 27 _ HO6.out (size_recs HRK.out) (by rw [Rec.cs_size HRK.out]; rfl) (all_oneCell_toArray (Rec.cs_one _)) ?_ | fail)
    refine bodyPost_ret (results_row_tmp rfl _ _ (w.heap.size + 2) _ rfl (load_recs (setRow_heap _ _ _ _ _ _ HO6.out) HRK.out)) rfl ?_
    exact ⟨_, _, rfl, below_setRow HB6.out (by omega) _, (HPR.out _ _).2 ⟨rfl, .inr ⟨rfl, rfl⟩⟩⟩
  · have HF0 := hid h0
    go_wp2_with (first | refine wpList_alloc_at rfl 55 rfl (some 6) rfl _ Tryd.zero55 W4.heap.size rfl ?_ | refine wpList_store_as' rfl 55 _ _ rfl rfl W4 (hdL 0 0 z32).toArray (hdL na nb nc).toArray rfl rfl rfl HSN.out HZS.out HON.out W5 HW5.out ?_ | refine wpList_buildTo rfl 27 _ rfl (some 38) rfl recZ.cs.toArray Tryd.built27 ?_ | refine wpList_store_rowTo rfl 27 _ _ rfl rfl (w.heap.size + 2) recZ.cs.toArray rfl rfl 27 _ HO6.out (size_recs rfl) rfl (all_oneCell_toArray (Rec.cs_one _)) ?_ | fail)
    refine bodyPost_ret (results_row_tmp rfl _ _ (w.heap.size + 2) _ rfl (load_recs (setRow_heap _ _ _ _ _ _ HO6.out) rfl)) rfl ?_
    exact ⟨_, _, rfl, below_setRow HB6.out (by omega) _, (HPR.out _ _).2 ⟨rfl, .inl ⟨HF0.out, rfl⟩⟩⟩
set_option maxHeartbeats 6400000 in
set_option maxRecDepth 100000 in
theorem dmake_other (hs he : Int) (hc : List Int) (r : Rec) (w : World) (hcl : hc.length = 32) (hc8 : ∀ j, (Lit.int .u8 (hc.getD j 0)).wf = true) (hhe : (Lit.int .i64 he).wf = true) (h : Rv w r) (hn : r.ps.length ≤ 1000) (hq1 : 0 ≤ hs) (hq2 : hs < 1073741824) (hk : r.kind ≠ 1) :
    Calls Tryd.prog 31 #[.agg (hdL hs he hc).toArray, .agg r.cs.toArray] w fun e w' => ∃ v e', e = .returned (.tuple #[v, .int .i64 e']) ∧ Below w.heap.size w w' ∧ MkQ hs he hc r v e' := by
  have M0 := Mk.start w hs he hc r hcl h.len
  obtain ⟨W0, hW0⟩ : ∃ W0, W0 = ((w.alloc (.cells (hdL hs he hc).toArray 55)).alloc (.cells r.cs.toArray 27)).alloc (.cells recZ.cs.toArray 27) := ⟨_, rfl⟩
  rw [← hW0] at M0
  have HW0 := hid hW0
  clear hW0
  have s1 : (w.alloc (.cells (hdL hs he hc).toArray 55)).heap.size = w.heap.size + 1 := by simp
  have HS2 : Hid (w.heap.size + 2 = ((w.alloc (.cells (hdL hs he hc).toArray 55)).alloc (.cells r.cs.toArray 27)).heap.size) := by show _ = _; simp
  have d0 := M0.hd.c0
  have HMR : Hid (mkR hs he hc r = { r with seq := hs + 1, prev := hc, epoch := he }) := by
    show _ = _
    unfold mkR
    rw [if_neg hk, IntWalk.wrap64_in (hs + 1) (by omega)]
  have h3 : Rv w (mkR hs he hc r) := by
    rw [HMR.out]
    exact ⟨hcl, hc8, wf_mk_i64 (x := hs + 1) (by omega) (by omega), hhe, h.kind, h.site, h.path, h.row⟩
  have HPR : Hid (∀ v e, MkQ hs he hc r v e ↔ (e = fltO hs he hc (mkR hs he hc r) ∧ ((e ≠ 0 ∧ v = .agg recZ.cs.toArray) ∨ (e = 0 ∧ v = .agg (mkR hs he hc r).cs.toArray)))) := fun _ _ => Iff.rfl
  have HNW := hid (fun V (hV : Below w.heap.size w V) => dnext_word hs he hc (mkR hs he hc r) V hcl (h3.later hV) hn)
  have HRL := hid (Rec.cs_len h3.len)
  have HRK := hid h3.len
  have HM0 := hid M0
  have HCL : Hid ((hc.map (Value.int .u8)).length = 32) := by show _ = _; simp [hcl]
  have HCA : Hid ((hc.map (Value.int .u8)).toArray.size = 32) := by show _ = _; simp [hcl]
  have HC23 : Hid ((Tryd.prog.info? 23).map (·.size) = some (hc.map (Value.int .u8)).toArray.size) := by show _ = _; rw [HCA.out]; exact Tryd.size23
  have HC1 : Hid (∀ v ∈ hc.map (Value.int .u8), v.oneCell' = true) := fun v hv => by obtain ⟨z, _, rfl⟩ := List.mem_map.1 hv; rfl
  have HHL := hid (hdL_len hs he hc hcl)
  have HHC := hid hcl
  have g1 : decide (1073741824 ≤ hs) = false := decide_eq_false (by omega)
  have g2 : decide (hs < 0) = false := decide_eq_false (by omega)
  clear M0 h3 h hhe
  go_enter Tryd.func31, Tryd.ntmps31
  go_wp2_with (first | refine wpList_alloc_to rfl 27 rfl (some 4) rfl _ Tryd.zero27 (w.heap.size + 2) HS2.out W0 HW0.out ?_ | fail)
  refine wp_region_held_drew (S := fun V => Bh V w.heap.size hs he hc ∧ Below w.heap.size w V) (by kernel_rfl) ⟨⟨HM0.out.hd.blk, HM0.out.hd.len⟩, HM0.out.bel.drew⟩ (fun hS0 => ?_)
  have HM1 : Hid (Mk w W0.drew hs he hc r) := ⟨⟨HM0.out.hd.blk, HM0.out.hd.len⟩, ⟨HM0.out.box.blk, HM0.out.box.len⟩, HM0.out.out, HM0.out.bel.drew⟩
  generalize W0.drew = v0 at *
  clear HM0 d0
  simp only [List.size_toArray, List.length_cons, List.length_nil, Nat.reduceAdd]
  refine Ord.take (i := 0) (d := 17) (v := ?v0) rfl rfl (by as_aux_lemma => kernel_rfl) (by as_aux_lemma => kernel_rfl) (by as_aux_lemma => kernel_rfl) (fun _ _ _ h => h) (by rfl) ?hA0 (by assumption) ?_
  case hA0 => intro V hSw; go_simp; try with_reducible rfl
  try simp only [List.setIfInBounds_toArray, List.set_cons_zero, List.set_cons_succ]
  refine Ord.take (i := 1) (d := 18) (v := .int .i64 hs) rfl rfl (by as_aux_lemma => kernel_rfl) (by as_aux_lemma => kernel_rfl) (by as_aux_lemma => kernel_rfl) (fun _ _ _ h => h) (by rfl) ?hA1 (by assumption) ?_
  case hA1 => intro V hSw; have q := hSw.1.c0; go_simp; try with_reducible rfl
  try simp only [List.setIfInBounds_toArray, List.set_cons_zero, List.set_cons_succ]
  refine Ord.take (i := 2) (d := 19) (v := .int .i64 (hs + 1)) rfl rfl (by as_aux_lemma => kernel_rfl) (by as_aux_lemma => kernel_rfl) (by as_aux_lemma => kernel_rfl) (fun _ _ _ h => h) (by rfl) ?hA2 (by assumption) ?_
  case hA2 => intro V hSw; go_simp; exact IntWalk.i64_in _ (by omega)
  try simp only [List.setIfInBounds_toArray, List.set_cons_zero, List.set_cons_succ]
  refine Ord.take (i := 3) (d := 20) (v := ?v3) rfl rfl (by as_aux_lemma => kernel_rfl) (by as_aux_lemma => kernel_rfl) (by as_aux_lemma => kernel_rfl) (fun _ _ _ h => h) (by rfl) ?hA3 (by assumption) ?_
  case hA3 => intro V hSw; go_simp; try with_reducible rfl
  try simp only [List.setIfInBounds_toArray, List.set_cons_zero, List.set_cons_succ]
  refine Ord.take (i := 4) (d := 21) (v := .agg (hc.map (Value.int .u8)).toArray) rfl rfl (by as_aux_lemma => kernel_rfl) (by as_aux_lemma => kernel_rfl) (by as_aux_lemma => kernel_rfl) (fun _ _ _ h => h) (by rfl) ?hA4 (by assumption) ?_
  case hA4 => intro V hSw; exact exec_load 23 (.tmp 20) rfl w.heap.size 2 rfl (run_loadVar_mid V w.heap.size 2 23 _ _ hSw.1.chain Tryd.underlying23 rfl (by rw [HCL.out]; exact Tryd.size23))
  try simp only [List.setIfInBounds_toArray, List.set_cons_zero, List.set_cons_succ]
  refine Ord.take (i := 5) (d := 22) (v := ?v5) rfl rfl (by as_aux_lemma => kernel_rfl) (by as_aux_lemma => kernel_rfl) (by as_aux_lemma => kernel_rfl) (fun _ _ _ h => h) (by rfl) ?hA5 (by assumption) ?_
  case hA5 => intro V hSw; go_simp; try with_reducible rfl
  try simp only [List.setIfInBounds_toArray, List.set_cons_zero, List.set_cons_succ]
  refine wpAnyH_ready (rs := [6]) (by as_aux_lemma => kernel_rfl) (by simp) (AllReadyH.cons rfl (fun K hK => ?_) AllReadyH.nil)
  have HM2 := hid (HM1.out.seq (hs + 1))
  have cc0 := HM1.out.box.c0
  have uu0 := Joins.unfrozen_of_block HM1.out.box.blk 0
  go_simp
  clear cc0 uu0
  refine hK.out _ _ ⟨HM2.out.hd, HM2.out.bel⟩ (fun _ => ?_)
  clear hK K HM1
  generalize v0.setCell ⟨w.heap.size + 1, 0, none⟩ (.int .i64 (hs + 1)) = v1 at *
  try simp only [List.setIfInBounds_toArray, List.set_cons_zero, List.set_cons_succ]
  refine Ord.take (i := 7) (d := 23) (v := ?v7) rfl rfl (by as_aux_lemma => kernel_rfl) (by as_aux_lemma => kernel_rfl) (by as_aux_lemma => kernel_rfl) (fun _ _ _ h => h) (by rfl) ?hA7 (by assumption) ?_
  case hA7 => intro V hSw; go_simp; try with_reducible rfl
  try simp only [List.setIfInBounds_toArray, List.set_cons_zero, List.set_cons_succ]
  refine wpAnyH_ready (rs := [8]) (by as_aux_lemma => kernel_rfl) (by simp) (AllReadyH.cons rfl (fun K hK => ?_) AllReadyH.nil)
  rw [if_pos (by rfl)]
  have HM3 := hid (HM2.out.prev hc HHC.out)
  refine wp_store_mid 23 _ _ rfl (w.heap.size + 1) 2 (hc.map (Value.int .u8)).toArray rfl rfl (by rw [HCA.out]; exact HM2.out.box.there) HC23.out (all_oneCell_toArray HC1.out) ?_
  refine hK.out _ _ ⟨HM3.out.hd, HM3.out.bel⟩ (fun _ => ?_)
  clear hK K HM2
  generalize v1.setCells (w.heap.size + 1) 2 (hc.map (Value.int .u8)).toArray.toList = v2 at *
  try simp only [List.setIfInBounds_toArray, List.set_cons_zero, List.set_cons_succ]
  refine wpAnyH_done (by as_aux_lemma => kernel_rfl) ?_ _
  have c34 : v2.cell? ⟨w.heap.size + 1, 34, none⟩ = some (.int .i64 r.kind) := HM3.out.box.c34
  have d1 := HM3.out.hd.c1
  have e1 := HM3.out.box.c1
  have u1 := Joins.unfrozen_of_block HM3.out.box.blk 1
  have HM4 := hid (HM3.out.epoch he)
  obtain ⟨R3, hR3⟩ : ∃ R3, R3 = mkR hs he hc r := ⟨_, rfl⟩
  have HM5 := hid (show Mk w (v2.setCell ⟨w.heap.size + 1, 1, none⟩ (.int .i64 he)) hs he hc R3 by rw [hR3, HMR.out]; exact HM4.out)
  rw [← hR3] at HNW HRL HRK HPR
  have HNX := hid (HNW.out _ HM5.out.bel)
  have HR5 := hid HM5.out.hd.range
  have HX5 := hid HM5.out.box.range
  clear HMR HM4 HM3 HNW hR3
  skip
  go_wp2_with (first | refine wpList_load_g rfl 55 _ rfl w.heap.size 0 rfl (hdL hs he hc) _ HR5.out Tryd.underlying55 rfl (by rw [HHL.out]; exact Tryd.size55) ?_ | refine wpList_load_g rfl 27 _ rfl (w.heap.size + 1) 0 rfl R3.cs _ HX5.out Tryd.underlying27 rfl (by rw [HRL.out]; exact Tryd.size27) ?_ | fail)
  refine HNX.out.mono ?_
  rintro _ W4 ⟨rfl, hb4⟩
  obtain ⟨NN, hNN⟩ : ∃ NN, NN = nxO hs he hc R3 := ⟨_, rfl⟩
  have hNl : NN.2.2.length = 32 := by rw [hNN]; exact nxO_len _ _ _ _
  rw [← hNN]
  obtain ⟨na, nb, nc⟩ := NN
  have hNl' : nc.length = 32 := hNl
  have hbb := bel_alc W4 (.cells (hdL na nb nc).toArray 55)
  have HSN : Hid ((Tryd.prog.info? 55).map (·.size) = some (hdL na nb nc).toArray.size) := size_hd hNl'
  have HZS : Hid ((hdL 0 0 z32).toArray.size = (hdL na nb nc).toArray.size) := by show _ = _; rw [List.size_toArray, List.size_toArray, hdL_len _ _ _ rfl, hdL_len _ _ _ hNl']
  have HON := hid (all_oneCell_toArray (hdL_one na nb nc))
  have HM6 := hid (HM5.out.later (Bn hb4 hbb))
  obtain ⟨W5, hW5⟩ : ∃ W5, W5 = W4.alloc (.cells (hdL na nb nc).toArray 55) := ⟨_, rfl⟩
  have HW5 := hid hW5
  rw [← hW5] at HM6
  have HO6 := hid HM6.out.out
  have HB6 := hid HM6.out.bel
  have HX6 := hid HM6.out.box.range
  clear hb4 hbb hNN hNl hNl' HNX HM5 HR5 HX5 hW5 c34 d1 e1 u1
  generalize fltO hs he hc R3 = F at *
  by_cases h0 : F = 0
  · subst h0
    go_wp2_with (first | refine wpList_alloc_at rfl 55 rfl (some 6) rfl _ Tryd.zero55 W4.heap.size rfl ?_ | refine wpList_store_as' rfl 55 _ _ rfl rfl W4 (hdL 0 0 z32).toArray (hdL na nb nc).toArray rfl rfl rfl HSN.out HZS.out HON.out W5 HW5.out ?_ | refine wpList_load_g rfl 27 _ rfl (w.heap.size + 1) 0 rfl R3.cs _ HX6.out Tryd.underlying27 rfl (by rw [HRL.out]; exact Tryd.size27) ?_ | refine wpList_store_rowTo rfl 27 _ _ rfl rfl (w.heap.size + 2) R3.cs.toArray rfl rfl 27 _ HO6.out (size_recs HRK.out) (by rw [Rec.cs_size HRK.out]; rfl) (all_oneCell_toArray (Rec.cs_one _)) ?_ | fail)
    refine bodyPost_ret (results_row_tmp rfl _ _ (w.heap.size + 2) _ rfl (load_recs (setRow_heap _ _ _ _ _ _ HO6.out) HRK.out)) rfl ?_
    exact ⟨_, _, rfl, below_setRow HB6.out (by omega) _, (HPR.out _ _).2 ⟨rfl, .inr ⟨rfl, rfl⟩⟩⟩
  · have HF0 := hid h0
    go_wp2_with (first | refine wpList_alloc_at rfl 55 rfl (some 6) rfl _ Tryd.zero55 W4.heap.size rfl ?_ | refine wpList_store_as' rfl 55 _ _ rfl rfl W4 (hdL 0 0 z32).toArray (hdL na nb nc).toArray rfl rfl rfl HSN.out HZS.out HON.out W5 HW5.out ?_ | refine wpList_buildTo rfl 27 _ rfl (some 38) rfl recZ.cs.toArray Tryd.built27 ?_ | refine wpList_store_rowTo rfl 27 _ _ rfl rfl (w.heap.size + 2) recZ.cs.toArray rfl rfl 27 _ HO6.out (size_recs rfl) rfl (all_oneCell_toArray (Rec.cs_one _)) ?_ | fail)
    refine bodyPost_ret (results_row_tmp rfl _ _ (w.heap.size + 2) _ rfl (load_recs (setRow_heap _ _ _ _ _ _ HO6.out) rfl)) rfl ?_
    exact ⟨_, _, rfl, below_setRow HB6.out (by omega) _, (HPR.out _ _).2 ⟨rfl, .inl ⟨HF0.out, rfl⟩⟩⟩
end Go.Proofs.YtpbaacplgohniaaDoor

namespace Go.Proofs.YtpbaacplgohniaaDoor.recordWalks
open Go.ChangeShapes Go.WideShapes Go.ChangeAt Go.RowKit Go.Deep

theorem few_ps (l : List Rec) : ∀ r ∈ fewL l, r.ps.length ≤ 1000 := fun r hr => by
  obtain ⟨y, _, rfl⟩ := List.mem_map.1 hr
  show (y.ps.take 60).length ≤ 1000
  simp
  omega
theorem cut_ps (r : Rec) : (cutR r).ps.length ≤ 1000 := by
  show (r.ps.take 60).length ≤ 1000
  simp
  omega
theorem same_self (r : Rec) (a : Option Addr) (c : Nat) : sameB { r with a := a, cap := c } r = true := decide_eq_true ⟨rfl, rfl, rfl, rfl, rfl, rfl, rfl⟩
theorem dmake_word (hs he : Int) (hc : List Int) (r : Rec) (w : World) (hcl : hc.length = 32) (hc8 : ∀ j, (Lit.int .u8 (hc.getD j 0)).wf = true) (hw : (Lit.int .i64 hs).wf = true) (hhe : (Lit.int .i64 he).wf = true) (h : Rv w r) (hn : r.ps.length ≤ 1000) :
    Calls Tryd.prog 31 #[.agg (hdL hs he hc).toArray, .agg r.cs.toArray] w fun e w' => ∃ v e', e = .returned (.tuple #[v, .int .i64 e']) ∧ Below w.heap.size w w' ∧ MkQ hs he hc r v e' := by
  by_cases q : hs < 0 ∨ 1073741824 ≤ hs
  · exact dmake_out hs he hc r w hcl h hw q
  · by_cases hk : r.kind = 1
    · exact dmake_lead hs he hc r w hcl hc8 h hn (by omega) (by omega) hk
    · exact dmake_other hs he hc r w hcl hc8 hhe h hn (by omega) (by omega) hk
/-- What stays while RecordWalks goes on. -/
structure Wk (w X : World) (h0 : Hd) (R : Rec) (a : Option Addr) (c : Nat) (ll : List Rec) : Prop where
  hd : X.heap[w.heap.size]? = some (.cells (hdV h0).toArray 55)
  box : Bx X (w.heap.size + 1) R
  row : Rr X a c ll
  rv : Rv X R
  bel : Below w.heap.size w X
theorem blk_later {X Y : World} {g : Nat} {o : Obj} (h : X.heap[g]? = some o) (hb : Below X.heap.size X Y) : Y.heap[g]? = some o := (hb.block _ (Array.getElem?_eq_some_iff.1 h).1).trans h
theorem Wk.later {w X Y : World} {h0 : Hd} {R : Rec} {a : Option Addr} {c : Nat} {ll : List Rec} (h : Wk w X h0 R a c ll) (hb : Below X.heap.size X Y) : Wk w Y h0 R a c ll :=
  ⟨blk_later h.hd hb, h.box.later hb, h.row.later hb, h.rv.later hb, Bn h.bel hb⟩
theorem range_hd {X : World} {g : Nat} {A : Hd} (h : X.heap[g]? = some (.cells (hdV A).toArray 55)) : X.rangeAt g 0 (hdV A) := fun j v hv => by
  rw [Nat.zero_add, Joins.cell_of_block h j, List.getElem?_toArray]
  exact hv
theorem range_rc {X : World} {g : Nat} {A : Rec} (h : X.heap[g]? = some (.cells A.cs.toArray 27)) : X.rangeAt g 0 A.cs := fun j v hv => by
  rw [Nat.zero_add, Joins.cell_of_block h j, List.getElem?_toArray]
  exact hv
/-- The two records that are made are alike. -/
theorem both_made {w' : World} {hs he : Int} {hc : List Int} {r : Rec} {v v2 : Value} {e e2 : Int} (h1 : MkP w' hs he hc r v e) (h2 : MkQ hs he hc r v2 e2) (hrv : Rv w' (mkR hs he hc r)) : e = e2 ∧ ∃ x y : Rec, v = .agg x.cs.toArray ∧ v2 = .agg y.cs.toArray ∧ Rv w' x ∧ Rv w' y ∧ sameB x y = true := by
  obtain ⟨p1, p2⟩ := h1
  obtain ⟨q1, q2⟩ := h2
  have he' : e = e2 := p1.trans q1.symm
  refine ⟨he', ?_⟩
  rcases p2 with ⟨n1, rfl⟩ | ⟨z1, a', c', rfl, hp⟩
  · rcases q2 with ⟨n2, rfl⟩ | ⟨z2, rfl⟩
    · exact ⟨recZ, recZ, rfl, rfl, recZ_rv _, recZ_rv _, by decide +kernel⟩
    · exact absurd (he'.trans z2) n1
  · rcases q2 with ⟨n2, rfl⟩ | ⟨z2, rfl⟩
    · exact absurd (he'.symm.trans z1) n2
    · exact ⟨_, _, rfl, rfl, ⟨hrv.len, hrv.u8, hrv.seq, hrv.epoch, hrv.kind, hrv.site, hrv.path, hp⟩, hrv, same_self _ _ _⟩
set_option maxHeartbeats 16000000 in
set_option maxRecDepth 100000 in
theorem walk (h0 : Hd) (a1 : Option Addr) (c1 : Nat) (l : List Rec) (r : Rec) (w : World) (hL : Sh.Laid w) (hy : h0.2.2.length = 32 ∧ (∀ j, (Lit.int .u8 (h0.2.2.getD j 0)).wf = true) ∧ (Lit.int .i64 h0.1).wf = true ∧ (Lit.int .i64 h0.2.1).wf = true) (hr : Rr w a1 c1 l) (hv : Rv w r) :
    Calls Tryd.prog 5 #[.agg (hdV h0).toArray, .slice a1 l.length c1, .agg r.cs.toArray] w fun e w' => e = .returned (.bool true) ∧ Below w.heap.size w w' := by
  have b1 := bel_alc w (.cells (hdV h0).toArray 55)
  have b2 := bel_alc (w.alloc (.cells (hdV h0).toArray 55)) (.cells r.cs.toArray 27)
  have s1 : (w.alloc (.cells (hdV h0).toArray 55)).heap.size = w.heap.size + 1 := by simp
  obtain ⟨W0, hW0⟩ : ∃ W0, W0 = (w.alloc (.cells (hdV h0).toArray 55)).alloc (.cells r.cs.toArray 27) := ⟨_, rfl⟩
  have HE0 : Hid (W0.heap[w.heap.size]? = some (.cells (hdV h0).toArray 55)) := by show _ = _; rw [hW0]; exact (b2.block _ (by rw [s1]; omega)).trans (heap_alc w _)
  have HX0 : Hid (Bx W0 (w.heap.size + 1) r) := by
    have := Bx.mk' (w.alloc (.cells (hdV h0).toArray 55)) r hv.len
    rw [s1, ← hW0] at this
    exact this
  have HB0 : Hid (Below w.heap.size w W0) := by rw [hW0]; exact Bn b1 b2
  have HR := hid hr
  have HV := hid hv
  have HY := hid hy
  have HLA := hid hL
  clear b1 b2 hr hv hy hL
  go_enter Tryd.func5, Tryd.ntmps5
  go_wp2_with fail
  rw [← hW0]
  clear hW0 s1
  refine OrdE.region (fun V => Below W0.heap.size W0 V) 5 (by kernel_rfl) (Below.refl _ _).drew (fun hS0 => ?_)
  generalize W0.drew = v0 at *
  simp only [List.size_toArray, List.length_cons, List.length_nil, Nat.reduceAdd]
  refine OrdE.take (i := 0) (d := 21) (v := ?v0) rfl rfl rfl (by as_aux_lemma => kernel_rfl) (by as_aux_lemma => kernel_rfl) (by as_aux_lemma => kernel_rfl) (by as_aux_lemma => kernel_rfl) (fun _ _ _ h => h) (by rfl) ?hA0 (by assumption) ?_
  case hA0 => intro V hSw; go_simp; try with_reducible rfl
  try simp only [List.setIfInBounds_toArray, List.set_cons_zero, List.set_cons_succ]
  refine OrdE.take (i := 2) (d := 23) (v := .agg r.cs.toArray) rfl rfl rfl (by as_aux_lemma => kernel_rfl) (by as_aux_lemma => kernel_rfl) (by as_aux_lemma => kernel_rfl) (by as_aux_lemma => kernel_rfl) (fun _ _ _ h => h) (by rfl) ?hA2 (by assumption) ?_
  case hA2 => intro V hSw; exact exec_load 27 (.tmp 5) rfl (w.heap.size + 1) 0 rfl (HX0.out.later hSw).load
  try simp only [List.setIfInBounds_toArray, List.set_cons_zero, List.set_cons_succ]
  refine OrdE.one (i := 1) (by as_aux_lemma => kernel_rfl) rfl (fun K hK => ?_)
  go_simp
  refine (few_own a1 c1 l v0 (HR.out.later (Bn HB0.out hS0))).mono ?_
  rintro _ v1 ⟨b1, d1, rfl, hr1, hg1, hb1⟩
  have hS1 := Bn hS0 hb1
  refine hK.out _ _ (fun _ => hS1) ?_
  clear hK K
  try refine OrdE.put (d := 22) rfl ?_
  try simp only [List.setIfInBounds_toArray, List.set_cons_zero, List.set_cons_succ]
  refine OrdE.one (i := 3) (by as_aux_lemma => kernel_rfl) rfl (fun K hK => ?_)
  go_simp
  refine (cut_word r v1 (HV.out.later (Bn HB0.out hS1))).mono ?_
  rintro _ v2 ⟨rfl, hb2⟩
  have hS2 := Bn hS1 hb2
  refine hK.out _ _ (fun _ => hS2) ?_
  clear hK K
  try refine OrdE.put (d := 24) rfl ?_
  try simp only [List.setIfInBounds_toArray, List.set_cons_zero, List.set_cons_succ]
  refine OrdE.take (i := 4) (d := 1) (v := .slice b1 (fewL l).length d1) rfl rfl rfl (by as_aux_lemma => kernel_rfl) (by as_aux_lemma => kernel_rfl) (by as_aux_lemma => kernel_rfl) (by as_aux_lemma => kernel_rfl) (fun _ _ _ h => h) (by rfl) ?hA4 (by assumption) ?_
  case hA4 => intro V hSw; go_simp; try with_reducible rfl
  try simp only [List.setIfInBounds_toArray, List.set_cons_zero, List.set_cons_succ]
  refine OrdE.one (i := 5) (by as_aux_lemma => kernel_rfl) rfl (fun K hK => ?_)
  rw [if_pos (by rfl)]
  refine wp_store_row 27 _ _ rfl (w.heap.size + 1) (cutR r).cs.toArray rfl rfl 27 r.cs.toArray (HX0.out.later hS2).blk (size_recs HV.out.len) (by rw [Rec.cs_size HV.out.len, Rec.cs_size (show (cutR r).prev.length = 32 from HV.out.len)]) (all_oneCell_toArray (Rec.cs_one _)) ?_
  refine hK.out _ _ (fun h => absurd rfl h) ?_
  clear hK K
  try simp only [List.setIfInBounds_toArray, List.set_cons_zero, List.set_cons_succ]
  refine OrdE.done (by as_aux_lemma => kernel_rfl) ?_ _
  have HBF := hid (below_setRow (Bn HB0.out hS2) (show w.heap.size ≤ w.heap.size + 1 by omega) (cutR r).cs.toArray)
  have HXc : Hid (Bx (v2.setRow (w.heap.size + 1) (cutR r).cs.toArray) (w.heap.size + 1) (cutR r)) := ⟨setRow_heap _ _ _ _ _ _ (HX0.out.later hS2).blk, HV.out.len⟩
  have HEc : Hid ((v2.setRow (w.heap.size + 1) (cutR r).cs.toArray).heap[w.heap.size]? = some (.cells (hdV h0).toArray 55)) := (other_setRow _ _ _ _ (by omega)).trans ((hS2.block _ (Array.getElem?_eq_some_iff.1 HE0.out).1).trans HE0.out)
  have HRc : Hid (Rr (v2.setRow (w.heap.size + 1) (cutR r).cs.toArray) b1 d1 (fewL l)) := (hr1.later hb2).kept (fun b off e => other_setRow _ _ _ _ (by
      have q1 := hg1 b off e
      have q2 := hS0.size
      have q3 := HX0.out.lt
      omega)) (fun y q => by
      obtain ⟨z, hz, rfl⟩ := List.mem_map.1 q
      exact cut_rv ((HR.out.fits z (List.mem_of_mem_take hz)).later HBF.out))
  have HVc := hid (cut_rv (HV.out.later HBF.out))
  have HPc := hid (cut_ps r)
  have HPl := hid (few_ps l)
  generalize cutR r = R at *
  generalize fewL l = ll at *
  generalize hX : v2.setRow (w.heap.size + 1) R.cs.toArray = X at *
  clear hX hr1 hg1 hb1 hb2 hS0 hS1 hS2 HX0 HE0 HB0 HR HV
  have K0 : Hid (Wk w X h0 R b1 d1 ll) := ⟨HEc.out, HXc.out, HRc.out, HVc.out, HBF.out⟩
  have HHV : Hid ((hdV h0).length = 34) := hdL_len _ _ _ HY.out.1
  have HRL := hid HVc.out.len
  have HWK := hid (walk_word h0 b1 d1 ll X HY.out.1 HRc.out (HLA.out.later HBF.out) HPl.out)
  have HDW := hid (fun V hV => dwalk_word h0 b1 d1 ll V HY.out.1 hV HPl.out)
  have HNX := hid (fun V hV hL => next_word h0.1 h0.2.1 h0.2.2 R V HY.out.1 hV hL HPc.out)
  have HDN := hid (fun V hV => dnext_word h0.1 h0.2.1 h0.2.2 R V HY.out.1 hV HPc.out)
  have HMK := hid (fun V hV => make_word h0.1 h0.2.1 h0.2.2 R V HY.out.1 HY.out.2.1 HY.out.2.2.2 hV)
  have HDM := hid (fun V hV => dmake_word h0.1 h0.2.1 h0.2.2 R V HY.out.1 HY.out.2.1 HY.out.2.2.1 HY.out.2.2.2 hV HPc.out)
  have hAl := wlk_len ll h0 0 HY.out.1
  have hNl := nxO_len h0.1 h0.2.1 h0.2.2 R
  have HMV : Hid (∀ V, Rv V R → Rv V (mkR h0.1 h0.2.1 h0.2.2 R)) := fun V q => ⟨HY.out.1, HY.out.2.1, wrap_wf _, by
    show (Lit.int .i64 (if R.kind = 1 then R.epoch else h0.2.1)).wf = true
    split
    · exact q.epoch
    · exact HY.out.2.2.2, q.kind, q.site, q.path, q.row⟩
  generalize wlk h0 ll 0 = RL at *
  generalize nxO h0.1 h0.2.1 h0.2.2 R = N at *
  generalize fltO h0.1 h0.2.1 h0.2.2 R = F at *
  obtain ⟨A, n1, e1⟩ := RL
  have HAL : Hid (A.2.2.length = 32) := hAl
  have HNL : Hid (N.2.2.length = 32) := hNl
  have hgd := guard55
  have HSA : Hid ((Tryd.prog.info? 55).map (·.size) = some (hdV A).toArray.size) := size_hd HAL.out
  have HAV : Hid ((hdV A).length = 34) := hdL_len _ _ _ HAL.out
  have HZA : Hid ((hdL 0 0 z32).toArray.size = (hdV A).toArray.size) := by show _ = _; rw [List.size_toArray, List.size_toArray, HAV.out]; rfl
  have HOA := hid (all_oneCell_toArray (show ∀ u ∈ hdV A, u.oneCell' = true from hdL_one _ _ _))
  have heqA : ∀ V, (Op.equalIn 10000 55 (.agg (hdV A).toArray) (.agg (hdV A).toArray)).run Tryd.prog V = .ok true V := fun V => by rw [eq55 A A HAL.out HAL.out V]; simp
  have HSN : Hid ((Tryd.prog.info? 55).map (·.size) = some (hdV N).toArray.size) := size_hd HNL.out
  have HNV : Hid ((hdV N).length = 34) := hdL_len _ _ _ HNL.out
  have HZN : Hid ((hdL 0 0 z32).toArray.size = (hdV N).toArray.size) := by show _ = _; rw [List.size_toArray, List.size_toArray, HNV.out]; rfl
  have HON := hid (all_oneCell_toArray (show ∀ u ∈ hdV N, u.oneCell' = true from hdL_one _ _ _))
  have heqN : ∀ V, (Op.equalIn 10000 55 (.agg (hdV N).toArray) (.agg (hdV N).toArray)).run Tryd.prog V = .ok true V := fun V => by rw [eq55 N N HNL.out HNL.out V]; simp
  clear HEc HXc HRc HVc HBF hAl hNl
  go_wp2_with (first | refine wpList_load_g rfl 55 _ rfl w.heap.size 0 rfl (hdV h0) _ (range_hd K0.out.hd) Tryd.underlying55 rfl (by rw [HHV.out]; exact Tryd.size55) ?_ | fail)
  refine HWK.out.mono ?_
  rintro _ Y1 ⟨rfl, hc1⟩
  have hbb := bel_alc Y1 (.cells (hdV A).toArray 55)
  have K1 := hid (K0.out.later (Bn hc1 hbb))
  have E1 := hid (heap_alc Y1 (.cells (hdV A).toArray 55))
  obtain ⟨X1, hX1⟩ : ∃ X, X = Y1.alloc (.cells (hdV A).toArray 55) := ⟨_, rfl⟩
  have HX1 := hid hX1
  rw [← hX1] at K1 E1
  clear hc1 hbb hX1
  go_wp2_with (first | refine wpList_alloc_at rfl 55 rfl (some 7) rfl _ Tryd.zero55 Y1.heap.size rfl ?_ | refine wpList_store_as rfl 55 _ _ rfl rfl Y1 (hdL 0 0 z32).toArray (hdV A).toArray rfl rfl rfl HSA.out HZA.out HOA.out X1 HX1.out ?_ | refine wpList_load_g rfl 55 _ rfl w.heap.size 0 rfl (hdV h0) _ (range_hd K1.out.hd) Tryd.underlying55 rfl (by rw [HHV.out]; exact Tryd.size55) ?_ | fail)
  refine (HDW.out X1 K1.out.row).mono ?_
  rintro _ Y2 ⟨rfl, hc2⟩
  have hbb := bel_alc Y2 (.cells (hdV A).toArray 55)
  have K2 := hid (K1.out.later (Bn hc2 hbb))
  have E2 := hid (heap_alc Y2 (.cells (hdV A).toArray 55))
  have E1_2 := hid (blk_later E1.out (Bn hc2 hbb))
  obtain ⟨X2, hX2⟩ : ∃ X, X = Y2.alloc (.cells (hdV A).toArray 55) := ⟨_, rfl⟩
  have HX2 := hid hX2
  rw [← hX2] at K2 E2 E1_2
  clear hc2 hbb hX2
  go_wp2_with (first | refine wpList_alloc_at rfl 55 rfl (some 10) rfl _ Tryd.zero55 Y2.heap.size rfl ?_ | refine wpList_store_as rfl 55 _ _ rfl rfl Y2 (hdL 0 0 z32).toArray (hdV A).toArray rfl rfl rfl HSA.out HZA.out HOA.out X2 HX2.out ?_ | refine wpList_load_g rfl 55 _ rfl Y1.heap.size 0 rfl (hdV A) _ (range_hd E1_2.out) Tryd.underlying55 rfl (by rw [HAV.out]; exact Tryd.size55) ?_ | refine wpList_load_g rfl 55 _ rfl Y2.heap.size 0 rfl (hdV A) _ (range_hd E2.out) Tryd.underlying55 rfl (by rw [HAV.out]; exact Tryd.size55) ?_ | refine wpList_load_g rfl 55 _ rfl w.heap.size 0 rfl (hdV h0) _ (range_hd K2.out.hd) Tryd.underlying55 rfl (by rw [HHV.out]; exact Tryd.size55) ?_ | refine wpList_load_g rfl 27 _ rfl (w.heap.size + 1) 0 rfl R.cs _ K2.out.box.range Tryd.underlying27 rfl (by rw [Rec.cs_len HRL.out]; exact Tryd.size27) ?_ | fail)
  refine (HNX.out X2 K2.out.rv (HLA.out.later K2.out.bel)).mono ?_
  rintro _ Y3 ⟨rfl, hc3⟩
  rw [show hdL N.1 N.2.1 N.2.2 = hdV N from rfl]
  have hbb := bel_alc Y3 (.cells (hdV N).toArray 55)
  have K3 := hid (K2.out.later (Bn hc3 hbb))
  have E3 := hid (heap_alc Y3 (.cells (hdV N).toArray 55))
  obtain ⟨X3, hX3⟩ : ∃ X, X = Y3.alloc (.cells (hdV N).toArray 55) := ⟨_, rfl⟩
  have HX3 := hid hX3
  rw [← hX3] at K3 E3
  clear hc3 hbb hX3
  go_wp2_with (first | refine wpList_alloc_at rfl 55 rfl (some 13) rfl _ Tryd.zero55 Y3.heap.size rfl ?_ | refine wpList_store_as rfl 55 _ _ rfl rfl Y3 (hdL 0 0 z32).toArray (hdV N).toArray rfl rfl rfl HSN.out HZN.out HON.out X3 HX3.out ?_ | refine wpList_load_g rfl 55 _ rfl w.heap.size 0 rfl (hdV h0) _ (range_hd K3.out.hd) Tryd.underlying55 rfl (by rw [HHV.out]; exact Tryd.size55) ?_ | refine wpList_load_g rfl 27 _ rfl (w.heap.size + 1) 0 rfl R.cs _ K3.out.box.range Tryd.underlying27 rfl (by rw [Rec.cs_len HRL.out]; exact Tryd.size27) ?_ | fail)
  refine (HDN.out X3 K3.out.rv).mono ?_
  rintro _ Y4 ⟨rfl, hc4⟩
  rw [show hdL N.1 N.2.1 N.2.2 = hdV N from rfl]
  have hbb := bel_alc Y4 (.cells (hdV N).toArray 55)
  have K4 := hid (K3.out.later (Bn hc4 hbb))
  have E4 := hid (heap_alc Y4 (.cells (hdV N).toArray 55))
  have E3_4 := hid (blk_later E3.out (Bn hc4 hbb))
  obtain ⟨X4, hX4⟩ : ∃ X, X = Y4.alloc (.cells (hdV N).toArray 55) := ⟨_, rfl⟩
  have HX4 := hid hX4
  rw [← hX4] at K4 E4 E3_4
  clear hc4 hbb hX4
  go_wp2_with (first | refine wpList_alloc_at rfl 55 rfl (some 15) rfl _ Tryd.zero55 Y4.heap.size rfl ?_ | refine wpList_store_as rfl 55 _ _ rfl rfl Y4 (hdL 0 0 z32).toArray (hdV N).toArray rfl rfl rfl HSN.out HZN.out HON.out X4 HX4.out ?_ | refine wpList_load_g rfl 55 _ rfl w.heap.size 0 rfl (hdV h0) _ (range_hd K4.out.hd) Tryd.underlying55 rfl (by rw [HHV.out]; exact Tryd.size55) ?_ | refine wpList_load_g rfl 27 _ rfl (w.heap.size + 1) 0 rfl R.cs _ K4.out.box.range Tryd.underlying27 rfl (by rw [Rec.cs_len HRL.out]; exact Tryd.size27) ?_ | fail)
  refine (HMK.out X4 K4.out.rv).mono ?_
  rintro _ Y5 ⟨vm, em, rfl, hc5, hp5⟩
  have hvx : ∃ x : Rec, vm = .agg x.cs.toArray ∧ x.prev.length = 32 := by
    rcases hp5.2 with ⟨_, q⟩ | ⟨_, a', c', q, _⟩
    · exact ⟨recZ, q, rfl⟩
    · exact ⟨_, q, HY.out.1⟩
  obtain ⟨x, rfl, hxl⟩ := hvx
  have HLx := hid hxl
  have HP5 := hid hp5
  have HC5 := hid hc5
  have hbb := bel_alc Y5 (.cells x.cs.toArray 27)
  have K5 := hid (K4.out.later (Bn hc5 hbb))
  have E5 := hid (heap_alc Y5 (.cells x.cs.toArray 27))
  have E3_5 := hid (blk_later E3_4.out (Bn hc5 hbb))
  have E4_5 := hid (blk_later E4.out (Bn hc5 hbb))
  obtain ⟨X5, hX5⟩ : ∃ X, X = Y5.alloc (.cells x.cs.toArray 27) := ⟨_, rfl⟩
  have HX5 := hid hX5
  rw [← hX5] at K5 E5 E3_5 E4_5
  clear hc5 hbb hX5
  clear hxl hp5
  go_wp2_with (first | refine wpList_alloc_at rfl 27 rfl (some 17) rfl _ Tryd.zero27 Y5.heap.size rfl ?_ | refine wpList_store_as rfl 27 _ _ rfl rfl Y5 recZ.cs.toArray x.cs.toArray rfl rfl rfl (size_recs HLx.out) (by rw [Rec.cs_size HLx.out]; rfl) (all_oneCell_toArray (Rec.cs_one _)) X5 HX5.out ?_ | refine wpList_load_g rfl 55 _ rfl w.heap.size 0 rfl (hdV h0) _ (range_hd K5.out.hd) Tryd.underlying55 rfl (by rw [HHV.out]; exact Tryd.size55) ?_ | refine wpList_load_g rfl 27 _ rfl (w.heap.size + 1) 0 rfl R.cs _ K5.out.box.range Tryd.underlying27 rfl (by rw [Rec.cs_len HRL.out]; exact Tryd.size27) ?_ | fail)
  refine (HDM.out X5 K5.out.rv).mono ?_
  rintro _ Y6 ⟨vd, ed, rfl, hc6, hp6⟩
  have hb56 : Below Y5.heap.size Y5 Y6 := Bn (by rw [HX5.out]; exact bel_alc _ _) hc6
  have hbm := both_made (w' := Y6) ⟨HP5.out.1, by
    rcases HP5.out.2 with q | ⟨q1, a', c', q2, q3⟩
    · exact .inl q
    · exact .inr ⟨q1, a', c', q2, q3.later hb56⟩⟩ hp6 (HMV.out Y6 (K5.out.rv.later hc6))
  obtain ⟨rfl, x', y, hx', rfl, hvx, hvy, hsm⟩ := hbm
  have HVX := hid hvx
  have HVY := hid hvy
  have HSM := hid hsm
  have HXE := hid hx'
  have HLy := hid hvy.len
  have hcc := hid hc6
  have hbb := bel_alc Y6 (.cells y.cs.toArray 27)
  have K6 := hid (K5.out.later (Bn hc6 hbb))
  have E6 := hid (heap_alc Y6 (.cells y.cs.toArray 27))
  have E3_6 := hid (blk_later E3_5.out (Bn hc6 hbb))
  have E4_6 := hid (blk_later E4_5.out (Bn hc6 hbb))
  have E5_6 := hid (blk_later E5.out (Bn hc6 hbb))
  obtain ⟨X6, hX6⟩ : ∃ X, X = Y6.alloc (.cells y.cs.toArray 27) := ⟨_, rfl⟩
  have HX6 := hid hX6
  rw [← hX6] at K6 E6 E3_6 E4_6 E5_6
  clear hc6 hbb hX6
  have HB6 : Hid (Below Y6.heap.size Y6 X6) := by rw [HX6.out]; exact bel_alc _ _
  have HSW := hid (dsame_word x' y X6 (HVX.out.later HB6.out) (HVY.out.later HB6.out))
  rw [HSM.out] at HSW
  have hxx : x'.cs.toArray = x.cs.toArray := by have := HXE.out; injection this with this; exact this.symm
  rw [hxx] at HSW
  clear hvx hvy hsm hx' hp6 hb56 hxx
  go_wp2_with (first | refine wpList_alloc_at rfl 27 rfl (some 19) rfl _ Tryd.zero27 Y6.heap.size rfl ?_ | refine wpList_store_as rfl 27 _ _ rfl rfl Y6 recZ.cs.toArray y.cs.toArray rfl rfl rfl (size_recs HLy.out) (by rw [Rec.cs_size HLy.out]; rfl) (all_oneCell_toArray (Rec.cs_one _)) X6 HX6.out ?_ | refine wpList_load_g rfl 55 _ rfl Y3.heap.size 0 rfl (hdV N) _ (range_hd E3_6.out) Tryd.underlying55 rfl (by rw [HNV.out]; exact Tryd.size55) ?_ | refine wpList_load_g rfl 55 _ rfl Y4.heap.size 0 rfl (hdV N) _ (range_hd E4_6.out) Tryd.underlying55 rfl (by rw [HNV.out]; exact Tryd.size55) ?_ | refine wpList_load_g rfl 27 _ rfl Y5.heap.size 0 rfl x.cs _ (range_rc E5_6.out) Tryd.underlying27 rfl (by rw [Rec.cs_len HLx.out]; exact Tryd.size27) ?_ | refine wpList_load_g rfl 27 _ rfl Y6.heap.size 0 rfl y.cs _ (range_rc E6.out) Tryd.underlying27 rfl (by rw [Rec.cs_len HLy.out]; exact Tryd.size27) ?_ | fail)
  refine HSW.out.mono ?_
  rintro _ Z7 ⟨rfl, hc7⟩
  have HZ7 := hid (Bn K6.out.bel hc7)
  have HAV7 := hid (alive_word Z7)
  clear hc7 HSW
  go_wp2_with fail
  refine HAV7.out.mono ?_
  rintro _ Z8 ⟨rfl, hc8⟩
  have HZ8 := hid (Bn HZ7.out hc8)
  clear hc8 HAV7
  go_wp2
  go_ret
  exact ⟨rfl, HZ8.out⟩

set_option maxRecDepth 100000 in
theorem lifted (os : Os) (started : os.Started) (H : Type) (enc : TypeId × Value → H) :
    ReturnsInHanded {} Tryd.checked os 5 .any (fun w args => (Rows.recordWalksSpec.pre enc Tryd.prog Tryd.f5 [] false w args ∧ laidMetH Tryd.prog laidL w) ∧ sizedMet enc Tryd.prog Tryd.f5 (OpenSpec.ofChange Rows.recordWalksSpec) false w args)
      (Rows.recordWalksSpec.post enc Tryd.prog Tryd.f5 false true false false) := by
  refine returnsInHanded_of_change_and (C := Tryd.checked) (X := fun w _ => laidMetH Tryd.prog laidL w) (fun _ _ _ hh h => h.of_heap hh) own started (by kernel_rfl) Tryd.func5
    (ChangeSpec.witness_shaped (enc := enc) (C := Tryd.checked) (os := os) (X := fun w _ => laidMetH Tryd.prog laidL w) false (World.doorLaid Tryd.prog 400 os) #[.agg #[.int .i64 0, .int .i64 0, .int .u8 0, .int .u8 0, .int .u8 0, .int .u8 0, .int .u8 0, .int .u8 0, .int .u8 0, .int .u8 0, .int .u8 0, .int .u8 0, .int .u8 0, .int .u8 0, .int .u8 0, .int .u8 0, .int .u8 0, .int .u8 0, .int .u8 0, .int .u8 0, .int .u8 0, .int .u8 0, .int .u8 0, .int .u8 0, .int .u8 0, .int .u8 0, .int .u8 0, .int .u8 0, .int .u8 0, .int .u8 0, .int .u8 0, .int .u8 0, .int .u8 0, .int .u8 0], .slice none 0 0, .agg #[.int .i64 0, .int .i64 0, .int .u8 0, .int .u8 0, .int .u8 0, .int .u8 0, .int .u8 0, .int .u8 0, .int .u8 0, .int .u8 0, .int .u8 0, .int .u8 0, .int .u8 0, .int .u8 0, .int .u8 0, .int .u8 0, .int .u8 0, .int .u8 0, .int .u8 0, .int .u8 0, .int .u8 0, .int .u8 0, .int .u8 0, .int .u8 0, .int .u8 0, .int .u8 0, .int .u8 0, .int .u8 0, .int .u8 0, .int .u8 0, .int .u8 0, .int .u8 0, .int .u8 0, .int .u8 0, .int .i64 0, .int .i64 0, .string ⟨#[]⟩, .slice none 0 0]] 8 rfl (World.shaped_of_RefB (by kernel_rfl) (by kernel_rfl)) (by kernel_rfl) (by kernel_rfl) (by kernel_rfl) (door_met os _)) ?_
  intro W base args ds gs before hval0 hW _ _ hL _
  have hval : ∀ (j : Nat) t v, Tryd.f5.params[j]? = some t → args[j]? = some v → Value.okWide Tryd.prog W .any base t v := hval0
  have hW' := hW
  obtain ⟨p, q, hA0, hV, rfl, _, _⟩ := hW
  have hA : DataW.TrodAll enc Tryd.prog W 0 (fun _ => true) true Tryd.f5.params.toList args.toList ds p := hA0
  rw [Tryd.params5] at hA hval
  obtain ⟨v0, vs0, d0, ds0, p0, q0, hargs, rfl, rfl, h0, r0⟩ := trodAll_cons hA
  obtain ⟨v1, vs1, d1, ds1, p1, q1, rfl, rfl, rfl, h1, r1⟩ := trodAll_cons r0
  obtain ⟨v2, vs2, d2, ds2, p2, q2, rfl, rfl, rfl, h2, r2⟩ := trodAll_cons r1
  obtain ⟨rfl, rfl, rfl⟩ := trodAll_nil r2
  obtain rfl : args = #[v0, v1, v2] := by cases args; simp_all
  obtain ⟨rfl, rfl⟩ := trodVars_none hV
  have hlaid := of_laid hL
  clear hA0
  simp only [List.append_nil] at hW'
  have hlt0 : ∀ x ∈ p0, x.block < W.heap.size := fun x hx => hW'.lt x (by simp [hx])
  have hk0 := h0
  obtain ⟨x0, rfl, hr0⟩ := open_head (hval 0 55 v0 rfl rfl) h0
  have hlt1 : ∀ x ∈ p1, x.block < W.heap.size := fun x hx => hW'.lt x (by simp [hx])
  have hk1 := h1
  obtain ⟨a1, cap1, l1, rfl, hr1⟩ := open_recs (hval 1 56 v1 rfl rfl) h1 hlt1
  have hlt2 : ∀ x ∈ p2, x.block < W.heap.size := fun x hx => hW'.lt x (by simp [hx])
  have hk2 := h2
  obtain ⟨x2, rfl, hr2⟩ := open_rec (hval 2 27 v2 rfl rfl) h2 hlt2
  clear hval0
  refine (walk x0 a1 cap1 l1 x2 W hlaid hr0 hr1 hr2).mono fun e W' ⟨he, hb⟩ => ?_
  subst he
  exact ⟨_, rfl, _, _, _, [] ++ [], _, [], hW', trodAll_cons_mk (shut_bool Tryd.underlying4 _) trodAll_mk0, (trodAll_cons_mk (Below.trod Tryd.laidOut (by kernel_rfl) (of_decide_eq_true (by kernel_rfl)) hk0 hb hlt0) (trodAll_cons_mk (Below.trod Tryd.laidOut (by kernel_rfl) (of_decide_eq_true (by kernel_rfl)) hk1 hb hlt1) (trodAll_cons_mk (Below.trod Tryd.laidOut (by kernel_rfl) (of_decide_eq_true (by kernel_rfl)) hk2 hb hlt2) trodAll_mk0))), rfl, hb.frame _, fun h => by cases h⟩

theorem over : Rows.recordWalksRow.holds Tryd.pinned (OpenSpec.ofChange Rows.recordWalksSpec) :=
  OpenClaim.holds_of_wide 5 Tryd.f5 rfl rfl rfl rfl rfl rfl rfl ⟨rfl, rfl, rfl, rfl, rfl⟩ rfl rfl rfl rfl rfl (by kernel_rfl) Tryd.func5 (by kernel_rfl)
    (of_decide_eq_true (by kernel_rfl)) (by unfold Func.isWrapper; first | (rw [if_pos (by decide +kernel)]; kernel_rfl) | (rw [if_neg (by decide +kernel)]; exact ⟨rfl, rfl⟩))
    (fun os started H enc _ => lifted os started H enc)

theorem card : Rows.RecordWalksCardSaid :=
  Claim7.holds_tied_plain_at .later [] [.data, .data] true (true, "875b16e5fcb2ccc823f28e185639766048f68080d49968449cd66f96e9b9ab4d") true
    over (fun _ h => by cases h) (by kernel_rfl) (fun _ h => by cases h) recordWalks_row_tie rfl ⟨rfl, rfl⟩ (by kernel_rfl) rfl
    (fun f fn hf hfn => by
      obtain rfl : f = 5 := Option.some.inj ((show Tryd.prog.funcNamed "saltern/salternlaw13.RecordWalks" = some 5 by kernel_rfl).symm.trans hf) |>.symm
      obtain rfl : fn = Tryd.f5 := (Option.some.inj (Tryd.func5.symm.trans hfn)).symm
      exact ⟨by kernel_rfl, fun j t ht => by
        rw [Tryd.params5] at ht
        have hm : t ∈ [55, 56, 27] := by simpa using Array.mem_of_getElem? ht
        have hall : ([55, 56, 27].all fun u => !Tryd.prog.wantsStandIn u) = true := by kernel_rfl
        exact (show Tryd.prog.wantsStandIn t = false by simpa using List.all_eq_true.1 hall t hm)⟩)
    (by kernel_rfl)

end Go.Proofs.YtpbaacplgohniaaDoor.recordWalks
namespace Go.Proofs.YtpbaacplgohniaaDoor
theorem recordWalks_holds : Rows.RecordWalksCardSaid := recordWalks.card
#print axioms recordWalks_holds
end Go.Proofs.YtpbaacplgohniaaDoor
