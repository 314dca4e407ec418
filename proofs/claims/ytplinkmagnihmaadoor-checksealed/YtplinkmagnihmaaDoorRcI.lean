/-
  A first record, and one that does not follow: record's Next where it refuses, and the law's alive. A record that is made to follow: the contract of record's Make. Pieces copied, and what changes in a record's box: the contract of slices.Clone at pieces, fields of a record set.
-/
import Derived.Test.YtplinkmagnihmaaDoorRcF
namespace Go.Proofs.YtplinkmagnihmaaDoor
open Go.ChangeShapes Go.WideShapes Go.ChangeAt Go.RowKit Go.Deep Go.Lib

theorem flat_pc (l : List Pc) (h : ∀ x ∈ l, PcOk x) : (l.flatMap pcC).length = l.length * 33 := by
  induction l with
  | nil => rfl
  | cons x l ih => rw [List.flatMap_cons, List.length_append, pcC_len (h x (by simp)).len, ih (fun y hy => h y (by simp [hy])), List.length_cons]; omega
theorem flat_one (l : List Pc) : ∀ u ∈ l.flatMap pcC, u.oneCell' = true := fun u hu => by
  obtain ⟨x, _, hx⟩ := List.mem_flatMap.1 hu
  exact pcC_one x u hx
theorem flat_at (l : List Pc) (h : ∀ x ∈ l, PcOk x) : ∀ j, j < l.length → ∀ i u, (pcC (l.getD j pc0))[i]? = some u → (l.flatMap pcC)[j * 33 + i]? = some u := by
  induction l with
  | nil => intro j hj; simp at hj
  | cons x l ih =>
    intro j hj i u hu
    have hx := pcC_len (h x (by simp)).len
    rw [List.flatMap_cons]
    cases j with
    | zero =>
      have hu' : (pcC x)[i]? = some u := hu
      have hi : i < (pcC x).length := (List.getElem?_eq_some_iff.1 hu').1
      rw [show 0 * 33 + i = i from by omega, List.getElem?_append_left hi]
      exact hu'
    | succ j =>
      rw [List.getElem?_append_right (by rw [hx]; omega), hx, show (j + 1) * 33 + i - 33 = j * 33 + i from by omega]
      exact ih (fun y hy => h y (by simp [hy])) j (by simp at hj; omega) i u (by simpa using hu)
theorem flat_back (l : List Pc) (h : ∀ x ∈ l, PcOk x) (k : Nat) (u : Value) (hk : (l.flatMap pcC)[k]? = some u) : ∃ j i, j < l.length ∧ k = j * 33 + i ∧ (pcC (l.getD j pc0))[i]? = some u := by
  have hlt : k < (l.flatMap pcC).length := (List.getElem?_eq_some_iff.1 hk).1
  rw [flat_pc l h] at hlt
  have hj : k / 33 < l.length := by omega
  refine ⟨k / 33, k % 33, hj, by omega, ?_⟩
  have hok : PcOk (l.getD (k / 33) pc0) := h _ (by simp [List.getD, List.getElem?_eq_getElem hj])
  have hi : k % 33 < (pcC (l.getD (k / 33) pc0)).length := by rw [pcC_len hok.len]; omega
  have := flat_at l h (k / 33) hj (k % 33) _ (List.getElem?_eq_getElem hi)
  rw [show k / 33 * 33 + k % 33 = k from by omega, hk] at this
  rw [List.getElem?_eq_getElem hi, this]
/-- A row of pieces of one's own reads as them. -/
theorem Rp.own {w : World} {base : Nat} {v : Value} {l : List Pc} (h : w.ownsRow base 80 33 v l.length (l.flatMap pcC)) (hf : ∀ x ∈ l, PcOk x) : ∃ a cap, v = .slice a l.length cap ∧ Rp w a cap l ∧ ∀ b off, a = some ⟨b, off, none⟩ → base ≤ b := by
  rcases h.2 with ⟨rfl, hn⟩ | ⟨g, cap, cur, rfl, hbg, hg, hc, hm, hs, ht⟩
  · rw [hn]
    exact ⟨none, 0, rfl, ⟨by omega, by unfold maxLen; omega, fun _ => rfl, fun h0 => by omega, hf⟩, fun _ _ h => by cases h⟩
  · refine ⟨some ⟨g, 0, none⟩, cap, rfl, ⟨hc, hm, (fun h => by cases h), fun _ => ⟨g, 0, rfl, (Array.getElem?_eq_some_iff.1 hg).1, fun j hj i u hu => ?_⟩, hf⟩, fun b off h => by injection h with h; injection h with h; omega⟩
    have := flat_at l hf j hj i u hu
    rw [← ht] at this
    rw [Nat.zero_add]
    refine (Joins.cell_of_block hg _).trans ?_
    have hlt : j * 33 + i < (cur.toList.take (l.length * 33)).length := (List.getElem?_eq_some_iff.1 this).1
    rw [List.getElem?_take_of_lt (by simp at hlt; omega)] at this
    simpa using this
theorem Tryd.info80 : (Tryd.prog.info? 80).map (fun i => (i.zero, i.size, i.bytes)) = some (some (.agg pcZ), 33, 40) := by kernel_rfl
theorem own_zero (w : World) : (w.alloc (.cells #[] 80)).ownsRow w.heap.size 80 33 (.slice (some ⟨w.heap.size, 0, none⟩) 0 0) 0 [] :=
  ⟨rfl, .inr ⟨w.heap.size, 0, #[], rfl, Nat.le_refl _, heap_alc w _, Nat.le_refl _, by unfold maxLen; omega, rfl, rfl⟩⟩
theorem bq25 (a : Option Addr) (n c : Nat) (W : World) : (binOp .eql 56 (.slice a n c) (.slice none 0 0)).run Tryd.prog W = .ok (.bool a.isNone) W := run_eql_slice_nil W 56 80 a n c 0 0 Tryd.underlying56
/-- A stretch of a row, set anew. -/
def setL : List Value → Nat → List Value → List Value
  | C, _, [] => C
  | C, o, v :: vs => setL (C.set o v) (o + 1) vs
theorem block_setCells (b : Nat) (t : TypeId) (fr : Nat × Nat) : ∀ (vs : List Value) (o : Nat) (w : World) (C : List Value), w.heap[b]? = some (.cells C.toArray t fr) → (w.setCells b o vs).heap[b]? = some (.cells (setL C o vs).toArray t fr)
  | [], _, _, _, h => h
  | v :: vs, o, w, C, h => by
    refine block_setCells b t fr vs (o + 1) _ (C.set o v) ?_
    rw [Joins.block_setCell h]
    simp
theorem setL_mid : ∀ (Y A X Z : List Value), X.length = Y.length → setL (A ++ X ++ Z) A.length Y = A ++ Y ++ Z
  | [], A, X, Z, h => by
    have : X = [] := List.length_eq_zero_iff.1 (by simpa using h)
    subst this
    rfl
  | y :: Y, A, x :: X, Z, h => by
    have e : (A ++ x :: X ++ Z).set A.length y = (A ++ [y]) ++ X ++ Z := by simp
    have := setL_mid Y (A ++ [y]) X Z (by simpa using h)
    rw [setL, e, show A.length + 1 = (A ++ [y]).length from by simp, this]
    simp
theorem below_setCells {B b : Nat} {w0 : World} (hb : B ≤ b) : ∀ (vs : List Value) (o : Nat) (w : World), Below B w0 w → Below B w0 (w.setCells b o vs)
  | [], _, _, h => h
  | v :: vs, o, _, h => below_setCells hb vs (o + 1) _ (h.setCell (p := ⟨b, o, none⟩) hb v)
theorem Bx.setPrev {w : World} {g : Nat} {r : Rec} (h : Bx w g r) (d : List Int) (hd : d.length = 32) : Bx (w.setCells g 2 (d.map (Value.int .u8))) g { r with prev := d } := by
  refine ⟨?_, hd⟩
  rw [block_setCells g 58 (0, 0) _ 2 w r.cs h.blk]
  have := setL_mid (d.map (Value.int .u8)) [.int .i64 r.seq, .int .i64 r.epoch] (r.prev.map (Value.int .u8)) [.int .i64 r.kind, .int .i64 r.site, .string r.path, .slice r.a r.ps.length r.cap] (by simp [h.len, hd])
  rw [show r.cs = [Value.int .i64 r.seq, .int .i64 r.epoch] ++ r.prev.map (Value.int .u8) ++ [.int .i64 r.kind, .int .i64 r.site, .string r.path, .slice r.a r.ps.length r.cap] from rfl, show (2 : Nat) = [Value.int .i64 r.seq, .int .i64 r.epoch].length from rfl, this]
  rfl
theorem Bx.setSeq {w : World} {g : Nat} {r : Rec} (h : Bx w g r) (x : Int) : Bx (w.setCell ⟨g, 0, none⟩ (.int .i64 x)) g { r with seq := x } :=
  ⟨by rw [Joins.block_setCell h.blk]; simp [Rec.cs], h.len⟩
theorem Bx.setEpoch {w : World} {g : Nat} {r : Rec} (h : Bx w g r) (x : Int) : Bx (w.setCell ⟨g, 1, none⟩ (.int .i64 x)) g { r with epoch := x } :=
  ⟨by rw [Joins.block_setCell h.blk]; simp [Rec.cs], h.len⟩
theorem Bx.setRow {w : World} {g : Nat} {r : Rec} (h : Bx w g r) (a' : Option Addr) (cap' : Nat) : Bx (w.setCell ⟨g, 37, none⟩ (.slice a' r.ps.length cap')) g { r with a := a', cap := cap' } := by
  refine ⟨?_, h.len⟩
  rw [Joins.block_setCell h.blk, show r.cs = ([Value.int .i64 r.seq, .int .i64 r.epoch] ++ r.prev.map (Value.int .u8) ++ [.int .i64 r.kind, .int .i64 r.site, .string r.path]) ++ [.slice r.a r.ps.length r.cap] from by simp [Rec.cs]]
  have e : ([Value.int .i64 r.seq, .int .i64 r.epoch] ++ r.prev.map (Value.int .u8) ++ [Value.int .i64 r.kind, Value.int .i64 r.site, Value.string r.path]).length = 37 := by simp [h.len]
  rw [List.setIfInBounds_toArray, List.set_append_right _ _ (by omega), e]
  simp [Rec.cs]
theorem Bx.there {w : World} {g : Nat} {r : Rec} (h : Bx w g r) : w.there g 2 32 := fun j hj => ⟨by rw [h.cp j hj]; rfl, Joins.unfrozen_of_block h.blk _⟩
theorem Rp.kept {w w' : World} {a : Option Addr} {cap : Nat} {l : List Pc} (h : Rp w a cap l) (hk : ∀ b off, a = some ⟨b, off, none⟩ → w'.heap[b]? = w.heap[b]?) : Rp w' a cap l := by
  refine ⟨h.room, h.most, h.none0, fun h0 => ?_, h.fits⟩
  obtain ⟨b, off, ha, hb, hc⟩ := h.cells h0
  have e := hk b off ha
  refine ⟨b, off, ha, ?_, fun j hj i u hu => (World.cell?_of_block (w := w) (a := ⟨b, off + j * 33 + i, none⟩) e).trans (hc j hj i u hu)⟩
  have : w.heap[b]? ≠ none := by simp; omega
  rw [← e] at this
  simpa using this
theorem other_setRow (w : World) (g : Nat) (cs : Array Value) (i : Nat) (h : i ≠ g) : (w.setRow g cs).heap[i]? = w.heap[i]? := by
  simp only [World.setRow, Array.getElem?_modify]
  rw [if_neg (by omega)]
end Go.Proofs.YtplinkmagnihmaaDoor
namespace Go.Proofs.YtplinkmagnihmaaDoor
open Go.ChangeShapes Go.WideShapes Go.ChangeAt Go.RowKit Go.Deep Go.Lib

def recZ : Rec := ⟨0, 0, z32, 0, 0, ByteArray.empty, none, 0, []⟩
theorem Tryd.zero58 : ∀ w, (zeroValue 58).run Tryd.prog w = .ok (.agg recZ.cs.toArray) w := fun w => by kernel_rfl
theorem Tryd.built27 : Tryd.prog.built 58 [] = some recZ.cs.toArray := by kernel_rfl
theorem recZ_rv (w : World) : Rv w recZ := ⟨rfl, fun j => get_u8 (x := z32) (fun z hz => by rw [List.eq_of_mem_replicate hz]; rfl) j, rfl, rfl, rfl, rfl, by unfold maxLen; exact Nat.zero_le _, ⟨Nat.le_refl _, by unfold maxLen; exact Nat.zero_le _, fun _ => rfl, fun h => absurd h (by simp [recZ]), fun x hx => by cases hx⟩⟩
/-- The record that Make looks at. -/
def mkR (hs he : Int) (hc : List Int) (r : Rec) : Rec := { r with seq := wrap64 (hs + 1), prev := hc, epoch := if r.kind = 1 then r.epoch else he }
/-- Make's boxes: the head's, the record's, and what it answers. -/
structure Mk (w W : World) (hs he : Int) (hc : List Int) (r : Rec) : Prop where
  hd : Bh W w.heap.size hs he hc
  box : Bx W (w.heap.size + 1) r
  out : W.heap[w.heap.size + 2]? = some (.cells recZ.cs.toArray 58)
  bel : Below w.heap.size w W
theorem Mk.later {w W W' : World} {hs he : Int} {hc : List Int} {r : Rec} (h : Mk w W hs he hc r) (hb : Below W.heap.size W W') : Mk w W' hs he hc r :=
  ⟨h.hd.later hb, h.box.later hb, (hb.block _ (Array.getElem?_eq_some_iff.1 h.out).1).trans h.out, Bn h.bel hb⟩
theorem Mk.start (w : World) (hs he : Int) (hc : List Int) (r : Rec) (h1 : hc.length = 32) (h2 : r.prev.length = 32) : Mk w (((w.alloc (.cells (hdL hs he hc).toArray 27)).alloc (.cells r.cs.toArray 58)).alloc (.cells recZ.cs.toArray 58)) hs he hc r := by
  have s1 : (w.alloc (.cells (hdL hs he hc).toArray 27)).heap.size = w.heap.size + 1 := by simp
  have s2 : ((w.alloc (.cells (hdL hs he hc).toArray 27)).alloc (.cells r.cs.toArray 58)).heap.size = w.heap.size + 2 := by simp
  have BX := (Bx.mk' (w.alloc (.cells (hdL hs he hc).toArray 27)) r h2).later (bel_alc _ (.cells recZ.cs.toArray 58))
  rw [s1] at BX
  have HO := heap_alc ((w.alloc (.cells (hdL hs he hc).toArray 27)).alloc (.cells r.cs.toArray 58)) (.cells recZ.cs.toArray 58)
  rw [s2] at HO
  exact ⟨((Bh.mk' w hs he hc h1).later (bel_alc _ _)).later (bel_alc _ _), BX, HO, Bn (Bn (bel_alc _ _) (bel_alc _ _)) (bel_alc _ _)⟩
theorem Mk.put {w W W' : World} {hs he : Int} {hc : List Int} {r r' : Rec} (h : Mk w W hs he hc r) (hx : Bx W' (w.heap.size + 1) r') (hb : Below (w.heap.size + 1) W W') (ho : W'.heap[w.heap.size + 2]? = W.heap[w.heap.size + 2]?) : Mk w W' hs he hc r' :=
  ⟨⟨(hb.block _ (Nat.lt_succ_self _)).trans h.hd.blk, h.hd.len⟩, hx, ho.trans h.out, h.bel.trans (hb.mono (Nat.le_succ _))⟩
theorem Mk.seq {w W : World} {hs he : Int} {hc : List Int} {r : Rec} (h : Mk w W hs he hc r) (x : Int) : Mk w (W.setCell ⟨w.heap.size + 1, 0, none⟩ (.int .i64 x)) hs he hc { r with seq := x } :=
  h.put (h.box.setSeq x) ((Below.refl _ W).setCell (p := ⟨w.heap.size + 1, 0, none⟩) (Nat.le_refl _) _) (Deep.blk_setCell_other _ _ _ _ (by show w.heap.size + 2 ≠ w.heap.size + 1; omega))
theorem Mk.epoch {w W : World} {hs he : Int} {hc : List Int} {r : Rec} (h : Mk w W hs he hc r) (x : Int) : Mk w (W.setCell ⟨w.heap.size + 1, 1, none⟩ (.int .i64 x)) hs he hc { r with epoch := x } :=
  h.put (h.box.setEpoch x) ((Below.refl _ W).setCell (p := ⟨w.heap.size + 1, 1, none⟩) (Nat.le_refl _) _) (Deep.blk_setCell_other _ _ _ _ (by show w.heap.size + 2 ≠ w.heap.size + 1; omega))
theorem Mk.row {w W : World} {hs he : Int} {hc : List Int} {r : Rec} (h : Mk w W hs he hc r) (a' : Option Addr) (cap' : Nat) : Mk w (W.setCell ⟨w.heap.size + 1, 37, none⟩ (.slice a' r.ps.length cap')) hs he hc { r with a := a', cap := cap' } :=
  h.put (h.box.setRow a' cap') ((Below.refl _ W).setCell (p := ⟨w.heap.size + 1, 37, none⟩) (Nat.le_refl _) _) (Deep.blk_setCell_other _ _ _ _ (by show w.heap.size + 2 ≠ w.heap.size + 1; omega))
theorem other_setCells (b i : Nat) (hne : i ≠ b) : ∀ (vs : List Value) (o : Nat) (w : World), (w.setCells b o vs).heap[i]? = w.heap[i]?
  | [], _, _ => rfl
  | _ :: vs, o, _ => (other_setCells b i hne vs (o + 1) _).trans (Deep.blk_setCell_other _ _ _ _ hne)
theorem Mk.prev {w W : World} {hs he : Int} {hc : List Int} {r : Rec} (h : Mk w W hs he hc r) (d : List Int) (hd : d.length = 32) : Mk w (W.setCells (w.heap.size + 1) 2 (d.map (Value.int .u8))) hs he hc { r with prev := d } :=
  h.put (h.box.setPrev d hd) (below_setCells (Nat.le_refl _) _ _ _ (Below.refl _ W)) (other_setCells _ _ (by omega) _ _ _)
/-- What Make answers. -/
def MkP (w' : World) (hs he : Int) (hc : List Int) (r : Rec) (v : Value) (e : Int) : Prop :=
  e = fltO hs he hc (mkR hs he hc r) ∧ ((e ≠ 0 ∧ v = .agg recZ.cs.toArray) ∨ (e = 0 ∧ ∃ a' cap', v = .agg ({ mkR hs he hc r with a := a', cap := cap' } : Rec).cs.toArray ∧ Rp w' a' cap' r.ps))
theorem flt_few {hs he : Int} {hc : List Int} {r : Rec} (h : fltO hs he hc r = 0) : r.ps.length ≤ 4096 := by
  unfold fltO at h
  split at h
  · rename_i hm
    unfold mayB at hm
    simp only [Bool.and_eq_true, decide_eq_true_eq] at hm
    have hk := hm.2
    have hz : ∀ q, (sizO q).2 = 0 → q.length ≤ 4096 := fun q hq => by
      unfold sizO at hq
      split at hq
      · cases hq
      · omega
    unfold kindB at hk
    split at hk
    · simp at hk; simp [hk.2]
    · split at hk
      · simp at hk; simp [hk.1]
      · split at hk
        · simp at hk; exact hz _ hk.2
        · cases hk
  · cases h
theorem wrap_wf (x : Int) : (Lit.int .i64 (wrap64 x)).wf = true := by
  refine wf_mk_i64 ?_ ?_ <;> unfold wrap64 <;> omega
theorem wpList_alloc_to {P : Program} {ops : Array Oper} {rest : List Oper} {o : Oper} {a : Act} {w : World} {Q : Exit → Act → World → Prop} (hgd : o.guard = none) (ty : TypeId) (ho : o.op = .alloc ty) (d : Option Tmp) (hd : o.dst = d) (cs : Array Value)
    (hz : ∀ w, (zeroValue ty).run P w = .ok (.agg cs) w) (N : Nat) (hN : N = w.heap.size) (W : World) (hW : W = w.alloc (.cells cs ty)) (h : wpList P ops Q rest (a.put d (.pointer (some ⟨N, 0, none⟩))) W) : wpList P ops Q (o :: rest) a w := by
  subst hW
  exact wpList_alloc_at hgd ty ho d hd cs hz N hN h
theorem size_recs {r : Rec} (h : r.prev.length = 32) : (Tryd.prog.info? 58).map (·.size) = some r.cs.toArray.size := by rw [Rec.cs_size h]; exact Tryd.size58
theorem load_recs {W : World} {g : Nat} {r : Rec} (h : W.heap[g]? = some (.cells r.cs.toArray 58)) (hl : r.prev.length = 32) : (loadVar 58 ⟨g, 0, none⟩).run Tryd.prog W = .ok (.agg r.cs.toArray) W := (Bx.mk h hl).load
end Go.Proofs.YtplinkmagnihmaaDoor
namespace Go.Proofs.YtplinkmagnihmaaDoor
open Go.ChangeShapes Go.WideShapes Go.ChangeAt Go.RowKit Go.Deep Go.Lib

theorem Tryd.zero27 : ∀ w, (zeroValue 27).run Tryd.prog w = .ok (.agg (hdL 0 0 z32).toArray) w := fun w => by kernel_rfl
theorem Tryd.built55 : Tryd.prog.built 27 [] = some (hdL 0 0 z32).toArray := by kernel_rfl
theorem size_hd {n k : Int} {d : List Int} (h : d.length = 32) : (Tryd.prog.info? 27).map (·.size) = some (hdL n k d).toArray.size := by rw [List.size_toArray, hdL_len n k d h]; exact Tryd.size27
theorem load_hd {W : World} {g : Nat} {n k : Int} {d : List Int} (h : W.heap[g]? = some (.cells (hdL n k d).toArray 27)) (hl : d.length = 32) : (loadVar 27 ⟨g, 0, none⟩).run Tryd.prog W = .ok (.agg (hdL n k d).toArray) W :=
  run_loadVar_row (P := Tryd.prog) W g 27 27 (hdL n k d).toArray (0, 0) _ h Tryd.underlying27 rfl (size_hd hl)
/-- Next's boxes: the head's, the record's, and what it answers. -/
structure Nx (w W : World) (hs he : Int) (hc : List Int) (r : Rec) : Prop where
  hd : Bh W w.heap.size hs he hc
  box : Bx W (w.heap.size + 1) r
  out : W.heap[w.heap.size + 2]? = some (.cells (hdL 0 0 z32).toArray 27)
  bel : Below w.heap.size w W
theorem Nx.later {w W W' : World} {hs he : Int} {hc : List Int} {r : Rec} (h : Nx w W hs he hc r) (hb : Below W.heap.size W W') : Nx w W' hs he hc r :=
  ⟨h.hd.later hb, h.box.later hb, (hb.block _ (Array.getElem?_eq_some_iff.1 h.out).1).trans h.out, Bn h.bel hb⟩
theorem Nx.start (w : World) (hs he : Int) (hc : List Int) (r : Rec) (h1 : hc.length = 32) (h2 : r.prev.length = 32) : Nx w (((w.alloc (.cells (hdL hs he hc).toArray 27)).alloc (.cells r.cs.toArray 58)).alloc (.cells (hdL 0 0 z32).toArray 27)) hs he hc r := by
  have s1 : (w.alloc (.cells (hdL hs he hc).toArray 27)).heap.size = w.heap.size + 1 := by simp
  have s2 : ((w.alloc (.cells (hdL hs he hc).toArray 27)).alloc (.cells r.cs.toArray 58)).heap.size = w.heap.size + 2 := by simp
  have BX := (Bx.mk' (w.alloc (.cells (hdL hs he hc).toArray 27)) r h2).later (bel_alc _ (.cells (hdL 0 0 z32).toArray 27))
  rw [s1] at BX
  have HO := heap_alc ((w.alloc (.cells (hdL hs he hc).toArray 27)).alloc (.cells r.cs.toArray 58)) (.cells (hdL 0 0 z32).toArray 27)
  rw [s2] at HO
  exact ⟨((Bh.mk' w hs he hc h1).later (bel_alc _ _)).later (bel_alc _ _), BX, HO, Bn (Bn (bel_alc _ _) (bel_alc _ _)) (bel_alc _ _)⟩
set_option maxHeartbeats 3200000 in
set_option maxRecDepth 100000 in
theorem next_no (hs he : Int) (hc : List Int) (r : Rec) (w : World) (hcl : hc.length = 32) (h : Rv w r) (hf : fltO hs he hc r ≠ 0) :
    Calls Tryd.prog 42 #[.agg (hdL hs he hc).toArray, .agg r.cs.toArray] w fun e w' => e = .returned (.tuple #[.agg (hdL 0 0 z32).toArray, .int .i64 (fltO hs he hc r)]) ∧ Below w.heap.size w w' := by
  have N0 := Nx.start w hs he hc r hcl h.len
  obtain ⟨W0, hW0⟩ : ∃ W0, W0 = ((w.alloc (.cells (hdL hs he hc).toArray 27)).alloc (.cells r.cs.toArray 58)).alloc (.cells (hdL 0 0 z32).toArray 27) := ⟨_, rfl⟩
  rw [← hW0] at N0
  have HW0 := hid hW0
  clear hW0
  have HN0 := hid N0
  have HHL := hid (hdL_len hs he hc hcl)
  have HRL := hid (Rec.cs_len h.len)
  have HR0 := hid N0.hd.range
  have HX0 := hid N0.box.range
  have HFW := hid (fault_word hs he hc r _ hcl (h.later N0.bel))
  have s1 : (w.alloc (.cells (hdL hs he hc).toArray 27)).heap.size = w.heap.size + 1 := by simp
  have HS2 : Hid (w.heap.size + 2 = ((w.alloc (.cells (hdL hs he hc).toArray 27)).alloc (.cells r.cs.toArray 58)).heap.size) := by show _ = _; simp
  clear N0 h
  generalize fltO hs he hc r = F at *
  go_enter Tryd.func42, Tryd.ntmps42
  go_wp2_with (first | refine wpList_alloc_to rfl 27 rfl (some 4) rfl _ Tryd.zero27 (w.heap.size + 2) HS2.out W0 HW0.out ?_ | refine wpList_load_g rfl 27 _ rfl w.heap.size 0 rfl (hdL hs he hc) _ HR0.out Tryd.underlying27 rfl (by rw [HHL.out]; exact Tryd.size27) ?_ | refine wpList_load_g rfl 58 _ rfl (w.heap.size + 1) 0 rfl r.cs _ HX0.out Tryd.underlying58 rfl (by rw [HRL.out]; exact Tryd.size58) ?_ | fail)
  refine HFW.out.mono ?_
  rintro _ W4 ⟨rfl, hb4⟩
  have N4 := HN0.out.later hb4
  have HO4 := hid N4.out
  have HB4 := hid N4.bel
  clear HFW hb4 HN0 HR0 HX0 N4 s1
  go_wp2_with (first | refine wpList_buildTo rfl 27 _ rfl (some 12) rfl (hdL 0 0 z32).toArray Tryd.built55 ?_ | refine wpList_store_rowTo rfl 27 _ _ rfl rfl (w.heap.size + 2) (hdL 0 0 z32).toArray rfl rfl 27 _ HO4.out (size_hd rfl) rfl (all_oneCell_toArray (hdL_one _ _ _)) ?_ | fail)
  refine bodyPost_ret (results_row_tmp rfl _ _ (w.heap.size + 2) _ rfl (load_hd (setRow_heap _ _ _ _ _ _ HO4.out) rfl)) rfl ?_
  exact ⟨rfl, below_setRow HB4.out (by omega) _⟩
def recA : Rec := ⟨0, 1, z32, 1, 0, ByteArray.empty, none, 0, []⟩
def recB : Rec := ⟨1, 1, z32, 3, 0, ⟨#[97]⟩, none, 0, []⟩
theorem Tryd.builtA : Tryd.prog.built 58 [(3, .int .i64 1), (1, .int .i64 1)] = some recA.cs.toArray := by kernel_rfl
theorem Tryd.builtB : Tryd.prog.built 58 [(0, .int .i64 1), (1, .int .i64 1), (3, .int .i64 3), (5, .string ⟨#[97]⟩)] = some recB.cs.toArray := by kernel_rfl
theorem z32_u8 (j : Nat) : (Lit.int .u8 (z32.getD j 0)).wf = true := get_u8 (x := z32) (fun z hz => by rw [List.eq_of_mem_replicate hz]; rfl) j
theorem rp_nil (w : World) : Rp w none 0 [] := ⟨Nat.le_refl _, by unfold maxLen; exact Nat.zero_le _, fun _ => rfl, fun h => absurd h (by simp), fun x hx => by cases hx⟩
theorem recA_rv (w : World) : Rv w recA := ⟨rfl, z32_u8, rfl, rfl, rfl, rfl, by unfold maxLen; exact Nat.zero_le _, rp_nil w⟩
theorem recB_rv (w : World) : Rv w recB := ⟨rfl, z32_u8, rfl, rfl, rfl, rfl, by unfold maxLen; decide, rp_nil w⟩
theorem flA : fltO 0 0 z32 (mkR 0 0 z32 recA) = 0 := by decide +kernel
theorem flB : fltO 0 0 z32 recB = 131 := by decide +kernel
def recC (a : Option Addr) (cap : Nat) : Rec := ⟨1, 1, z32, 1, 0, ByteArray.empty, a, cap, []⟩
theorem mkA (a : Option Addr) (cap : Nat) : ({ mkR 0 0 z32 recA with a := a, cap := cap } : Rec) = recC a cap := by
  have h1 : wrap64 (0 + 1) = 1 := by unfold wrap64; omega
  have h2 : (if recA.kind = 1 then recA.epoch else (0 : Int)) = 1 := if_pos rfl
  unfold mkR
  rw [h1, h2]
  rfl
theorem may_C (a : Option Addr) (cap : Nat) : mayB (recC a cap) = true := by
  show mayB (recC none 0) = true
  decide +kernel
def bytC : List Int := [82, 1, 1, 1] ++ z32 ++ [0]
theorem wr_C (a : Option Addr) (cap : Nat) : wrB (recC a cap) = bytC := by
  show wrB (recC none 0) = bytC
  decide +kernel
theorem bytC_len : bytC.length = 37 := rfl
theorem bytC_u8 : ∀ j, (Lit.int .u8 (bytC.getD j 0)).wf = true := get_u8 (by decide)
end Go.Proofs.YtplinkmagnihmaaDoor
