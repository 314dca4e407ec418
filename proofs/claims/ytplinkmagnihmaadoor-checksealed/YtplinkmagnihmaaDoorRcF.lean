/-
  Which records follow: the contracts of record's Bytes, follows, fault.
-/
import Derived.Test.YtplinkmagnihmaaDoorRcE
namespace Go.Proofs.YtplinkmagnihmaaDoor
open Go.ChangeShapes Go.WideShapes Go.ChangeAt Go.RowKit Go.Deep Go.Lib

/-- What Bytes hands back: nothing, or a row of its own. -/
def BytP (b : Bool) (w w' : World) (v : Value) (l : List Int) : Prop := (b = false ∧ v = .slice none 0 0) ∨ (b = true ∧ w'.ownsRow w.heap.size 5 1 v l.length (l.map (Value.int .u8)))
/-- A head's cells. -/
def hdL (n k : Int) (d : List Int) : List Value := .int .i64 n :: .int .i64 k :: d.map (Value.int .u8)
theorem hdL_len (n k : Int) (d : List Int) (h : d.length = 32) : (hdL n k d).length = 34 := by simp [hdL, h]
theorem hdL_one (n k : Int) (d : List Int) : ∀ u ∈ hdL n k d, u.oneCell' = true := by
  intro v hv
  simp only [hdL, List.mem_cons, List.mem_map] at hv
  rcases hv with rfl | rfl | ⟨z, _, rfl⟩ <;> rfl
structure Bh (w : World) (g : Nat) (n k : Int) (d : List Int) : Prop where
  blk : w.heap[g]? = some (.cells (hdL n k d).toArray 27)
  len : d.length = 32
theorem Bh.lt {w : World} {g : Nat} {n k : Int} {d : List Int} (h : Bh w g n k d) : g < w.heap.size := (Array.getElem?_eq_some_iff.1 h.blk).1
theorem Bh.later {w w' : World} {g : Nat} {n k : Int} {d : List Int} (h : Bh w g n k d) (hb : Below w.heap.size w w') : Bh w' g n k d := ⟨(hb.block _ h.lt).trans h.blk, h.len⟩
theorem Bh.mk' (w : World) (n k : Int) (d : List Int) (h : d.length = 32) : Bh (w.alloc (.cells (hdL n k d).toArray 27)) w.heap.size n k d := ⟨heap_alc w _, h⟩
theorem Bh.c0 {w : World} {g : Nat} {n k : Int} {d : List Int} (h : Bh w g n k d) : w.cell? ⟨g, 0, none⟩ = some (.int .i64 n) := (Joins.cell_of_block h.blk 0).trans rfl
theorem Bh.c1 {w : World} {g : Nat} {n k : Int} {d : List Int} (h : Bh w g n k d) : w.cell? ⟨g, 1, none⟩ = some (.int .i64 k) := (Joins.cell_of_block h.blk 1).trans rfl
theorem Bh.range {w : World} {g : Nat} {n k : Int} {d : List Int} (h : Bh w g n k d) : w.rangeAt g 0 (hdL n k d) := fun j v hv => by
  rw [Nat.zero_add, Joins.cell_of_block h.blk j, List.getElem?_toArray]
  exact hv
theorem Bh.chain {w : World} {g : Nat} {n k : Int} {d : List Int} (h : Bh w g n k d) : w.rangeAt g 2 (d.map (Value.int .u8)) := fun j v hv => by
  rw [Joins.cell_of_block h.blk (2 + j), List.getElem?_toArray, ← hv]
  unfold hdL
  rw [show 2 + j = j + 1 + 1 from by omega, List.getElem?_cons_succ, List.getElem?_cons_succ]
def folB (hs he : Int) (hc : List Int) (r : Rec) : Bool := decide (r.seq - 1 = hs ∧ r.prev = hc) && (if r.kind = 1 then decide (he < r.epoch) else decide (r.epoch = he))
set_option maxHeartbeats 3200000 in
set_option maxRecDepth 100000 in
theorem follows_word (hs he : Int) (hc : List Int) (r : Rec) (w : World) (hcl : hc.length = 32) (h : r.prev.length = 32) (hq : 1 ≤ r.seq ∧ r.seq ≤ 1073741824) :
    Calls Tryd.prog 78 #[.agg (hdL hs he hc).toArray, .agg r.cs.toArray] w fun e w' => e = .returned (.bool (folB hs he hc r)) ∧ Below w.heap.size w w' := by
  have b1 := bel_alc w (.cells (hdL hs he hc).toArray 27)
  have b2 := bel_alc (w.alloc (.cells (hdL hs he hc).toArray 27)) (.cells r.cs.toArray 58)
  have s1 : (w.alloc (.cells (hdL hs he hc).toArray 27)).heap.size = w.heap.size + 1 := by simp
  have BH := (Bh.mk' w hs he hc hcl).later b2
  have BX := Bx.mk' (w.alloc (.cells (hdL hs he hc).toArray 27)) r h
  rw [s1] at BX
  have HB := hid (Bn b1 b2)
  have d0 := BH.c0
  have d1 := BH.c1
  have c0 := BX.c0
  have c1 := BX.c1
  have c34 := BX.c34
  have HRC := hid BH.chain
  have HRP := hid BX.prev
  have HF : Hid (folB hs he hc r = (decide (r.seq - 1 = hs ∧ r.prev = hc) && (if r.kind = 1 then decide (he < r.epoch) else decide (r.epoch = he)))) := rfl
  have heq : ∀ V, (Op.equalIn 10000 25 (.agg (r.prev.map (Value.int .u8)).toArray) (.agg (hc.map (Value.int .u8)).toArray)).run Tryd.prog V = .ok (decide (r.prev = hc)) V := fun V => eq37 r.prev hc h hcl V
  have hgd := guard37
  have HPL : Hid ((r.prev.map (Value.int .u8)).length = 32) := by show _ = _; simp [h]
  have HCL : Hid ((hc.map (Value.int .u8)).length = 32) := by show _ = _; simp [hcl]
  have hq1 := hq.1
  have hq2 := hq.2
  clear BH BX hq b1 b2
  generalize folB hs he hc r = F at *
  generalize (hdL hs he hc).toArray = A1 at *
  generalize r.cs.toArray = A2 at *
  generalize r.prev.map (Value.int .u8) = P at *
  generalize hc.map (Value.int .u8) = C at *
  generalize r.seq = sq at *
  generalize r.epoch = ep at *
  generalize r.kind = ki at *
  by_cases h1 : sq - 1 = hs
  · subst h1
    by_cases h2 : r.prev = hc
    · have hd2 : decide (r.prev = hc) = true := decide_eq_true h2
      rw [hd2] at heq
      have HF2 : Hid (F = if ki = 1 then decide (he < ep) else decide (ep = he)) := by show _ = _; rw [HF.out, h2]; simp
      clear HF h2 hd2
      by_cases h3 : ki = 1
      · subst h3
        go_enter Tryd.func78, Tryd.ntmps78
        go_wp2_with (first | refine wpList_load_g rfl 25 _ rfl (w.heap.size + 1) 2 rfl P _ HRP.out Tryd.underlying25 rfl (by rw [HPL.out]; exact Tryd.size25) ?_ | refine wpList_load_g rfl 25 _ rfl w.heap.size 2 rfl C _ HRC.out Tryd.underlying25 rfl (by rw [HCL.out]; exact Tryd.size25) ?_)
        go_ret
        exact ⟨by rw [HF2.out]; simp, HB.out⟩
      · go_enter Tryd.func78, Tryd.ntmps78
        go_wp2_with (first | refine wpList_load_g rfl 25 _ rfl (w.heap.size + 1) 2 rfl P _ HRP.out Tryd.underlying25 rfl (by rw [HPL.out]; exact Tryd.size25) ?_ | refine wpList_load_g rfl 25 _ rfl w.heap.size 2 rfl C _ HRC.out Tryd.underlying25 rfl (by rw [HCL.out]; exact Tryd.size25) ?_)
        go_ret
        exact ⟨by rw [HF2.out, if_neg h3]; rfl, HB.out⟩
    · have hd2 : decide (r.prev = hc) = false := decide_eq_false h2
      rw [hd2] at heq
      have HF2 : Hid (F = false) := by show _ = _; rw [HF.out]; simp [h2]
      clear HF h2 hd2
      go_enter Tryd.func78, Tryd.ntmps78
      go_wp2_with (first | refine wpList_load_g rfl 25 _ rfl (w.heap.size + 1) 2 rfl P _ HRP.out Tryd.underlying25 rfl (by rw [HPL.out]; exact Tryd.size25) ?_ | refine wpList_load_g rfl 25 _ rfl w.heap.size 2 rfl C _ HRC.out Tryd.underlying25 rfl (by rw [HCL.out]; exact Tryd.size25) ?_)
      go_ret
      exact ⟨by rw [HF2.out]; rfl, HB.out⟩
  · have HF2 : Hid (F = false) := by show _ = _; rw [HF.out]; simp [h1]
    clear HF heq
    go_enter Tryd.func78, Tryd.ntmps78
    go_wp2
    go_ret
    exact ⟨by rw [HF2.out]; rfl, HB.out⟩

/-- What fault tells. -/
def fltO (hs he : Int) (hc : List Int) (r : Rec) : Int := if mayB r = true then (if folB hs he hc r = true then 0 else 131) else 130
set_option maxHeartbeats 3200000 in
set_option maxRecDepth 100000 in
theorem fault_word (hs he : Int) (hc : List Int) (r : Rec) (w : World) (hcl : hc.length = 32) (h : Rv w r) :
    Calls Tryd.prog 60 #[.agg (hdL hs he hc).toArray, .agg r.cs.toArray] w fun e w' => e = .returned (.int .i64 (fltO hs he hc r)) ∧ Below w.heap.size w w' := by
  have b1 := bel_alc w (.cells (hdL hs he hc).toArray 27)
  have b2 := bel_alc (w.alloc (.cells (hdL hs he hc).toArray 27)) (.cells r.cs.toArray 58)
  have s1 : (w.alloc (.cells (hdL hs he hc).toArray 27)).heap.size = w.heap.size + 1 := by simp
  have BH := (Bh.mk' w hs he hc hcl).later b2
  have BX := Bx.mk' (w.alloc (.cells (hdL hs he hc).toArray 27)) r h.len
  rw [s1] at BX
  have HB := hid (Bn b1 b2)
  have HBH := hid BH
  have HBX := hid BX
  have HLX := hid BX.range
  have HLL := hid (Rec.cs_len h.len)
  have HHL := hid (hdL_len hs he hc hcl)
  have HCK := hid (check_word r _ (h.later HB.out))
  have HFW := hid (fun V q => follows_word hs he hc r V hcl h.len q)
  have HMQ : Hid (mayB r = true → 1 ≤ r.seq ∧ r.seq ≤ 1073741824) := fun q => by
    unfold mayB at q
    simp only [Bool.and_eq_true, decide_eq_true_eq] at q
    exact q.1.1
  have HF : Hid (fltO hs he hc r = if mayB r = true then (if folB hs he hc r = true then 0 else 131) else 130) := rfl
  clear BH BX b1 b2 h
  generalize fltO hs he hc r = F at *
  generalize mayB r = MB at *
  generalize folB hs he hc r = FB at *
  go_enter Tryd.func60, Tryd.ntmps60
  go_wp2_with (first | refine wpList_load_g rfl 58 _ rfl (w.heap.size + 1) 0 rfl r.cs _ HLX.out Tryd.underlying58 rfl (by rw [HLL.out]; exact Tryd.size58) ?_ | fail)
  refine HCK.out.mono ?_
  rintro _ w2 ⟨rfl, hb2⟩
  have HB2 := hid (Bn HB.out hb2)
  have HL2 := hid (HBX.out.later hb2).range
  have HH2 := hid (HBH.out.later hb2).range
  clear hb2 HCK HLX HBX HBH
  cases MB with
  | false =>
    go_wp2
    go_ret
    exact ⟨by rw [HF.out]; rfl, HB2.out⟩
  | true =>
    have HFW2 := hid (HFW.out w2 (HMQ.out rfl))
    clear HFW HMQ
    go_wp2_with (first | refine wpList_load_g rfl 58 _ rfl (w.heap.size + 1) 0 rfl r.cs _ HL2.out Tryd.underlying58 rfl (by rw [HLL.out]; exact Tryd.size58) ?_ | refine wpList_load_g rfl 27 _ rfl w.heap.size 0 rfl (hdL hs he hc) _ HH2.out Tryd.underlying27 rfl (by rw [HHL.out]; exact Tryd.size27) ?_ | fail)
    refine HFW2.out.mono ?_
    rintro _ w3 ⟨rfl, hb3⟩
    have HB3 := hid (Bn HB2.out hb3)
    clear hb3 HFW2
    cases FB with
    | false =>
      go_wp2
      go_ret
      exact ⟨by rw [HF.out]; rfl, HB3.out⟩
    | true =>
      go_wp2
      go_ret
      exact ⟨by rw [HF.out]; rfl, HB3.out⟩
end Go.Proofs.YtplinkmagnihmaaDoor
