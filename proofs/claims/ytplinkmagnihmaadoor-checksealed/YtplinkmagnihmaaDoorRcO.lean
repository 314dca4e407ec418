/-
  Rows of records; record's Next whole; the law's few. Records, pieces and heads as arguments: what is handed in is one, and reads as one. A record cut to what a law looks at.
-/
import Derived.Test.YtplinkmagnihmaaDoorRcI
import Derived.Test.YtplinkmagnihmaaDoorRcN
import Derived.Great.FillDense
namespace Go.Proofs.YtplinkmagnihmaaDoor
open Go.ChangeShapes Go.WideShapes Go.ChangeAt Go.RowKit Go.Deep Go.Lib

def cutP (s : ByteArray) : ByteArray := if 300 < s.size then s.extract 0 300 else s
def cutR (r : Rec) : Rec := { r with ps := r.ps.take 60, path := cutP r.path }
theorem Bx.setPs {w : World} {g : Nat} {r : Rec} (h : Bx w g r) (l : List Pc) : Bx (w.setCell ⟨g, 37, none⟩ (.slice r.a l.length r.cap)) g { r with ps := l } := by
  refine ⟨?_, h.len⟩
  rw [Joins.block_setCell h.blk, show r.cs = ([Value.int .i64 r.seq, .int .i64 r.epoch] ++ r.prev.map (Value.int .u8) ++ [.int .i64 r.kind, .int .i64 r.site, .string r.path]) ++ [.slice r.a r.ps.length r.cap] from by simp [Rec.cs]]
  have e : ([Value.int .i64 r.seq, .int .i64 r.epoch] ++ r.prev.map (Value.int .u8) ++ [Value.int .i64 r.kind, Value.int .i64 r.site, Value.string r.path]).length = 37 := by simp [h.len]
  rw [List.setIfInBounds_toArray, List.set_append_right _ _ (by omega), e]
  simp [Rec.cs]
theorem Bx.setPath {w : World} {g : Nat} {r : Rec} (h : Bx w g r) (s : ByteArray) : Bx (w.setCell ⟨g, 36, none⟩ (.string s)) g { r with path := s } := by
  refine ⟨?_, h.len⟩
  rw [Joins.block_setCell h.blk, show r.cs = ([Value.int .i64 r.seq, .int .i64 r.epoch] ++ r.prev.map (Value.int .u8) ++ [.int .i64 r.kind, .int .i64 r.site]) ++ [.string r.path, .slice r.a r.ps.length r.cap] from by simp [Rec.cs]]
  have e : ([Value.int .i64 r.seq, .int .i64 r.epoch] ++ r.prev.map (Value.int .u8) ++ [Value.int .i64 r.kind, Value.int .i64 r.site]).length = 36 := by simp [h.len]
  rw [List.setIfInBounds_toArray, List.set_append_right _ _ (by omega), e]
  simp [Rec.cs]
/-- cut's boxes. -/
structure Ct (w W : World) (r : Rec) : Prop where
  box : Bx W w.heap.size r
  out : W.heap[w.heap.size + 1]? = some (.cells recZ.cs.toArray 58)
  bel : Below w.heap.size w W
theorem Ct.put {w W W' : World} {r r' : Rec} (h : Ct w W r) (hx : Bx W' w.heap.size r') (hb : Below w.heap.size W W') (ho : W'.heap[w.heap.size + 1]? = W.heap[w.heap.size + 1]?) : Ct w W' r' := ⟨hx, ho.trans h.out, h.bel.trans hb⟩
theorem Ct.start (w : World) (r : Rec) (h : r.prev.length = 32) : Ct w ((w.alloc (.cells r.cs.toArray 58)).alloc (.cells recZ.cs.toArray 58)) r := by
  have s1 : (w.alloc (.cells r.cs.toArray 58)).heap.size = w.heap.size + 1 := by simp
  have HO := heap_alc (w.alloc (.cells r.cs.toArray 58)) (.cells recZ.cs.toArray 58)
  rw [s1] at HO
  exact ⟨(Bx.mk' w r h).later (bel_alc _ _), HO, Bn (bel_alc _ _) (bel_alc _ _)⟩
theorem Ct.ps {w W : World} {r : Rec} (h : Ct w W r) (l : List Pc) : Ct w (W.setCell ⟨w.heap.size, 37, none⟩ (.slice r.a l.length r.cap)) { r with ps := l } :=
  h.put (h.box.setPs l) ((Below.refl _ W).setCell (p := ⟨w.heap.size, 37, none⟩) (Nat.le_refl _) _) (Deep.blk_setCell_other _ _ _ _ (by show w.heap.size + 1 ≠ w.heap.size; omega))
theorem Ct.path {w W : World} {r : Rec} (h : Ct w W r) (s : ByteArray) : Ct w (W.setCell ⟨w.heap.size, 36, none⟩ (.string s)) { r with path := s } :=
  h.put (h.box.setPath s) ((Below.refl _ W).setCell (p := ⟨w.heap.size, 36, none⟩) (Nat.le_refl _) _) (Deep.blk_setCell_other _ _ _ _ (by show w.heap.size + 1 ≠ w.heap.size; omega))
theorem cut_len (s : ByteArray) : (cutP s).size ≤ 300 := by
  unfold cutP
  split
  · simp [ByteArray.size_extract]; omega
  · omega
theorem cut_rv {w : World} {r : Rec} (h : Rv w r) : Rv w (cutR r) := ⟨h.len, h.u8, h.seq, h.epoch, h.kind, h.site, by have := cut_len r.path; show (cutP r.path).size ≤ _; unfold maxLen; omega, h.row.take 60⟩
end Go.Proofs.YtplinkmagnihmaaDoor
namespace Go.Proofs.YtplinkmagnihmaaDoor
open Go.ChangeShapes Go.WideShapes Go.ChangeAt Go.RowKit Go.Deep Go.Lib

section
variable {H : Type} {enc : TypeId × Value → H} {W : World} {fuel : Nat} {cs : List Value} {x : DataW H × List MemPlace}
theorem Tryd.cells24 : Tryd.prog.cellsOf 24 = 32 := by kernel_rfl
theorem Tryd.cells25 : Tryd.prog.cellsOf 25 = 32 := by kernel_rfl
theorem Tryd.cells55 : Tryd.prog.cellsOf 55 = 1 := by kernel_rfl
theorem Tryd.cells9 : Tryd.prog.cellsOf 9 = 1 := by kernel_rfl
theorem Tryd.cells56 : Tryd.prog.cellsOf 56 = 1 := by kernel_rfl
theorem Tryd.cells80 : Tryd.prog.cellsOf 80 = 33 := by kernel_rfl
theorem Tryd.cells58 : Tryd.prog.cellsOf 58 = 38 := by kernel_rfl
theorem Tryd.cells27 : Tryd.prog.cellsOf 27 = 34 := by kernel_rfl
theorem all_ints {cs : List Value} {n : Nat} (hl : cs.length = n) (h : ∀ i, i < n → ∃ z : Int, cs[i]? = some (.int .u8 z) ∧ (Lit.int .u8 z).wf = true) : ∃ l : List Int, cs = l.map (Value.int .u8) ∧ l.length = n ∧ ∀ j, (Lit.int .u8 (l.getD j 0)).wf = true := by
  obtain ⟨Y, hY⟩ := choose_lt h
  refine ⟨(List.range n).map Y, List.ext_getElem? fun i => ?_, by simp, get_u8 (fun z hz => ?_)⟩
  · by_cases hi : i < n
    · rw [(hY i hi).1]; simp [hi]
    · rw [List.getElem?_eq_none (by omega), List.getElem?_eq_none (by simp; omega)]
  · obtain ⟨i, hi, rfl⟩ := List.mem_map.1 hz
    exact (hY i (List.mem_range.1 hi)).2
theorem trod_digest (h : DataW.trod enc Tryd.prog W 0 (fun _ => true) true fuel 25 cs = some x) : ∃ l : List Int, cs = l.map (Value.int .u8) ∧ l.length = 32 ∧ ∀ j, (Lit.int .u8 (l.getD j 0)).wf = true := by
  obtain ⟨xs, m, _, _, hcl, hxl, hel⟩ := DataW.trod_array Tryd.underlying25 h
  rw [Tryd.cells25] at hcl
  refine all_ints hcl fun i hi => ?_
  have h1 := hel i hi
  rw [Tryd.cells5, Nat.mul_one, List.getElem?_eq_getElem (by omega)] at h1
  obtain ⟨z, e1, _, e3⟩ := DataW.trod_int Tryd.underlying5 h1
  refine ⟨z, ?_, e3⟩
  have := congrArg (·[0]?) e1
  simpa [List.getElem?_take, List.getElem?_drop] using this
theorem at_one {cs : List Value} {k : Nat} {v : Value} (h : List.take 1 (List.drop k cs) = [v]) : cs[k]? = some v := by
  have := congrArg (·[0]?) h
  simpa [List.getElem?_take, List.getElem?_drop] using this
theorem trod_piece (h : DataW.trod enc Tryd.prog W 0 (fun _ => true) true fuel 80 cs = some x) : ∃ y : Pc, cs = pcC y ∧ PcOk y := by
  obtain ⟨xs, k, _, _, hcl, hxl, hf⟩ := DataW.trod_struct Tryd.underlying80 h
  rw [Tryd.cells80] at hcl
  have hx2 : xs.length = 2 := hxl
  have g0 : DataW.trod enc Tryd.prog W 0 (fun _ => true) true k 25 (List.take (Tryd.prog.cellsOf 25) (List.drop 0 cs)) = xs[0]? := hf 0 _ rfl
  have g1 : DataW.trod enc Tryd.prog W 0 (fun _ => true) true k 3 (List.take (Tryd.prog.cellsOf 3) (List.drop 32 cs)) = xs[1]? := hf 1 _ rfl
  rw [Tryd.cells25, List.getElem?_eq_getElem (by omega)] at g0
  rw [Tryd.cells3, List.getElem?_eq_getElem (by omega)] at g1
  obtain ⟨l, e0, hl, h8⟩ := trod_digest g0
  obtain ⟨z, e1, _, f1⟩ := DataW.trod_int Tryd.underlying3 g1
  refine ⟨(l, z), ?_, hl, h8, f1⟩
  unfold pcC
  rw [← e0, ← e1, List.drop_zero, List.take_of_length_le (l := List.drop 32 cs) (by simp; omega), List.take_append_drop]
set_option maxRecDepth 100000 in
theorem trod_pieces (h : DataW.trod enc Tryd.prog W 0 (fun _ => true) true fuel 56 cs = some x) (hlt : ∀ q ∈ x.2, q.block < W.heap.size) : ∃ a cap l, cs = [.slice a (l : List Pc).length cap] ∧ Rp W a cap l := by
  rcases open_slice Tryd.underlying56 h with ⟨hcs, _⟩ | ⟨a, len, cap, m, n, D, Pl, hcs, _, hl, hm, hmm, hx, hel⟩
  · exact ⟨none, 0, [], hcs, rp_nil W⟩
  · rw [if_pos rfl] at hmm
    subst hmm
    rw [Tryd.cells80] at hel
    have hp : x.2 = MemPlace.row a (m * Tryd.prog.cellsOf 80) ++ (List.range m).flatMap Pl := congrArg Prod.snd hx
    have key : ∀ j, j < len → ∃ y : Pc, PcOk y ∧ ∀ i u, (pcC y)[i]? = some u → W.cell? ((a.add (j * 33)).add i) = some u := by
      intro j hj
      obtain ⟨cs', h1, h2⟩ := hel j (by omega)
      obtain ⟨_, hcl, hcc⟩ := World.cells?_some h1
      obtain ⟨y, rfl, hy⟩ := trod_piece h2
      refine ⟨y, hy, fun i u hu => ?_⟩
      have hi : i < (pcC y).length := (List.getElem?_eq_some_iff.1 hu).1
      have := hcc i (by rw [← hcl]; exact hi)
      rw [this]
      exact hu
    obtain ⟨Y, hY⟩ := choose_lt key
    have hlen : ((List.range len).map Y).length = len := by simp
    have hgd : ∀ j, j < len → ((List.range len).map Y).getD j pc0 = Y j := fun j hj => by simp [List.getD, hj]
    refine ⟨some a, m, (List.range len).map Y, by rw [hlen]; exact hcs, by rw [hlen]; exact hl, hm, (fun h => by cases h), fun h0 => ?_, fun y hy => ?_⟩
    · rw [hlen] at h0
      obtain ⟨b, off, spot⟩ := a
      have hc0 := (hY 0 h0).2 0 _ (pcC_d (hY 0 h0).1.len 0 (by decide))
      have hspot : spot = none := by
        have := World.cell?_spot hc0
        simpa [Addr.add] using this
      subst hspot
      have hbW : b < W.heap.size := hlt (.cell b off) (by
        rw [hp, List.mem_append]
        refine Or.inl (MemPlace.mem_row.2 ⟨0, ?_, by simp⟩)
        rw [Tryd.cells80]; omega)
      refine ⟨b, off, rfl, hbW, fun j hj => ?_⟩
      rw [hlen] at hj
      rw [hgd j hj]
      intro i u hu
      have := (hY j hj).2 i u hu
      rw [add_plain, add_plain] at this
      exact this
    · obtain ⟨i, hi, rfl⟩ := List.mem_map.1 hy
      exact (hY i (List.mem_range.1 hi)).1
theorem mem_flat {xs : List (DataW H × List MemPlace)} {i : Nat} {y : DataW H × List MemPlace} (h : xs[i]? = some y) {q : MemPlace} (hq : q ∈ y.2) : q ∈ xs.flatMap (·.2) :=
  List.mem_flatMap.2 ⟨y, List.mem_of_getElem? h, hq⟩
theorem trod_rec (h : DataW.trod enc Tryd.prog W 0 (fun _ => true) true fuel 58 cs = some x) (hlt : ∀ q ∈ x.2, q.block < W.heap.size) : ∃ r : Rec, cs = r.cs ∧ Rv W r := by
  obtain ⟨xs, k, _, hx, hcl, hxl, hf⟩ := DataW.trod_struct Tryd.underlying58 h
  rw [Tryd.cells58] at hcl
  have hx7 : xs.length = 7 := hxl
  have g0 : DataW.trod enc Tryd.prog W 0 (fun _ => true) true k 3 (List.take (Tryd.prog.cellsOf 3) (List.drop 0 cs)) = xs[0]? := hf 0 _ rfl
  have g1 : DataW.trod enc Tryd.prog W 0 (fun _ => true) true k 3 (List.take (Tryd.prog.cellsOf 3) (List.drop 1 cs)) = xs[1]? := hf 1 _ rfl
  have g2 : DataW.trod enc Tryd.prog W 0 (fun _ => true) true k 25 (List.take (Tryd.prog.cellsOf 25) (List.drop 2 cs)) = xs[2]? := hf 2 _ rfl
  have g3 : DataW.trod enc Tryd.prog W 0 (fun _ => true) true k 55 (List.take (Tryd.prog.cellsOf 55) (List.drop 34 cs)) = xs[3]? := hf 3 _ rfl
  have g4 : DataW.trod enc Tryd.prog W 0 (fun _ => true) true k 3 (List.take (Tryd.prog.cellsOf 3) (List.drop 35 cs)) = xs[4]? := hf 4 _ rfl
  have g5 : DataW.trod enc Tryd.prog W 0 (fun _ => true) true k 9 (List.take (Tryd.prog.cellsOf 9) (List.drop 36 cs)) = xs[5]? := hf 5 _ rfl
  have g6 : DataW.trod enc Tryd.prog W 0 (fun _ => true) true k 56 (List.take (Tryd.prog.cellsOf 56) (List.drop 37 cs)) = xs[6]? := hf 6 _ rfl
  have q6 : xs[6]? = some (xs[6]'(by omega)) := List.getElem?_eq_getElem (by omega)
  rw [Tryd.cells3, List.getElem?_eq_getElem (by omega)] at g0 g1 g4
  rw [Tryd.cells25, List.getElem?_eq_getElem (by omega)] at g2
  rw [Tryd.cells55, List.getElem?_eq_getElem (by omega)] at g3
  rw [Tryd.cells9, List.getElem?_eq_getElem (by omega)] at g5
  rw [Tryd.cells56, q6] at g6
  obtain ⟨z0, e0, _, f0⟩ := DataW.trod_int Tryd.underlying3 g0
  obtain ⟨z1, e1, _, f1⟩ := DataW.trod_int Tryd.underlying3 g1
  obtain ⟨l, e2, hl, h8⟩ := trod_digest g2
  obtain ⟨z3, e3, _, f3⟩ := DataW.trod_int Tryd.underlying55 g3
  obtain ⟨z4, e4, _, f4⟩ := DataW.trod_int Tryd.underlying3 g4
  obtain ⟨s, e5, _, f5⟩ := DataW.trod_string Tryd.underlying9 g5
  obtain ⟨a, cap, ps, e6, hr⟩ := trod_pieces g6 (fun q hq => hlt q (by rw [hx]; exact mem_flat q6 hq))
  refine ⟨⟨z0, z1, l, z3, z4, s, a, cap, ps⟩, ?_, hl, h8, f0, f1, f3, f4, f5, hr⟩
  refine List.ext_getElem? fun i => ?_
  have c0 := at_one e0
  have c1 := at_one e1
  have c3 := at_one e3
  have c4 := at_one e4
  have c5 := at_one e5
  have c6 := at_one e6
  by_cases hi : i < 38
  · by_cases h0 : i = 0
    · subst h0; exact c0
    by_cases h1 : i = 1
    · subst h1; exact c1
    by_cases h2 : i < 34
    · obtain ⟨j, rfl⟩ : ∃ j, i = 2 + j := ⟨i - 2, by omega⟩
      rw [Rec.mid _ hl j (by omega)]
      have := congrArg (·[j]?) e2
      simp only [List.getElem?_take, List.getElem?_drop, if_pos (show j < 32 by omega)] at this
      rw [this]
      simp [List.getD, List.getElem?_eq_getElem (show j < l.length by omega)]
    · obtain ⟨j, rfl⟩ : ∃ j, i = 34 + j := ⟨i - 34, by omega⟩
      rw [Rec.tail _ hl j]
      match j, (show j < 4 by omega) with
      | 0, _ => exact c3
      | 1, _ => exact c4
      | 2, _ => exact c5
      | 3, _ => exact c6
  · rw [List.getElem?_eq_none (by omega), List.getElem?_eq_none (by rw [Rec.cs_len hl]; omega)]
end
set_option maxRecDepth 100000 in
/-- A record as an argument. -/
theorem open_rec {H : Type} {enc : TypeId × Value → H} {W : World} {base : Nat} {v : Value} {d : DataW H} {p : List MemPlace} (hv : Value.okWide Tryd.prog W .any base 58 v)
    (h : DataW.Trod enc Tryd.prog W 0 (fun _ => true) true 58 v d p) (hlt : ∀ x ∈ p, x.block < W.heap.size) : ∃ r : Rec, v = .agg r.cs.toArray ∧ Rv W r := by
  obtain ⟨cs, rfl, _⟩ := okWide_struct Tryd.underlying58 hv
  obtain ⟨fuel, hf⟩ := h
  obtain ⟨r, e, hr⟩ := trod_rec hf hlt
  refine ⟨r, ?_, hr⟩
  rw [← e]
  simp [Value.cells]
end Go.Proofs.YtplinkmagnihmaaDoor
namespace Go.Proofs.YtplinkmagnihmaaDoor
open Go.ChangeShapes Go.WideShapes Go.ChangeAt Go.RowKit Go.Deep

theorem kinds_of {r : Rec} (h : kindB r = true) : r.kind = 1 ∨ r.kind = 2 ∨ r.kind = 3 := by
  unfold kindB at h
  split at h
  · exact .inl ‹_›
  · split at h
    · exact .inr (.inr ‹_›)
    · split at h
      · exact .inr (.inl ‹_›)
      · cases h
theorem may_parts {r : Rec} (h : mayB r = true) : (1 ≤ r.seq ∧ r.seq ≤ 1073741824) ∧ (1 ≤ r.epoch ∧ r.epoch ≤ 1073741824) ∧ kindB r = true := by
  unfold mayB at h
  simp only [Bool.and_eq_true, decide_eq_true_eq] at h
  exact ⟨h.1.1, h.1.2, h.2⟩
theorem kind_lead' {r : Rec} (h : kindB r = true) (hk : r.kind = 1) : (r.site = 0 ∨ r.site = 1) ∧ r.path.size = 0 ∧ r.ps = [] := by
  unfold kindB at h
  rw [if_pos hk] at h
  simp only [Bool.and_eq_true, decide_eq_true_eq] at h
  exact ⟨h.1.1, h.1.2, List.length_eq_zero_iff.1 h.2⟩
theorem kind_file' {r : Rec} (h : kindB r = true) (hk : r.kind ≠ 1) : r.site = 0 ∧ pathB r.path = true ∧ (sizO r.ps).2 = 0 ∧ (r.kind = 3 → r.ps = []) := by
  rcases kinds_of h with q | q | q
  · exact absurd q hk
  · unfold kindB at h; rw [q] at h; simp at h; exact ⟨h.1.1, h.1.2, h.2, fun e => by omega⟩
  · unfold kindB at h; rw [q] at h; simp at h; exact ⟨h.2.1.1, h.2.1.2, h.2.2, fun _ => h.1⟩
theorem path_parts {s : ByteArray} (h : pathB s = true) : 1 ≤ s.size ∧ s.size ≤ 255 := by
  unfold pathB at h
  simp only [Bool.and_eq_true, decide_eq_true_eq] at h
  exact h.1
theorem siz_parts {l : List Pc} (h : (sizO l).2 = 0) : l.length ≤ 4096 ∧ l.all nOk = true := by
  unfold sizO at h
  split at h
  · cases h
  · split at h
    · exact ⟨by omega, ‹_›⟩
    · cases h
theorem path_mem (s : ByteArray) : ∀ z ∈ pathL s, (Lit.int .u8 z).wf = true := fun z hz => by
  obtain ⟨c, _, rfl⟩ := List.mem_map.1 hz
  have := c.toNat_lt
  exact wf_mk_u8 (by omega) (by omega)
theorem wrH_mem {w : World} {r : Rec} (h : Rv w r) (hm : mayB r = true) : ∀ z ∈ wrH r, (Lit.int .u8 z).wf = true := by
  obtain ⟨h1, h2, h3⟩ := may_parts hm
  have hk := kinds_of h3
  refine app_u8 (app_u8 (app_u8 (fun z hz => ?_) (vint_mem _ (by omega) (by omega))) (vint_mem _ (by omega) (by omega))) (mem_u8 h.u8)
  simp at hz
  rcases hz with rfl | rfl
  · rfl
  · exact wf_mk_u8 (by omega) (by omega)
theorem wr_mem {w : World} {r : Rec} (h : Rv w r) (hm : mayB r = true) : ∀ z ∈ wrB r, (Lit.int .u8 z).wf = true := by
  have hH := wrH_mem h hm
  obtain ⟨h1, h2, h3⟩ := may_parts hm
  unfold wrB
  by_cases hk : r.kind = 1
  · rw [if_pos hk]
    have := (kind_lead' h3 hk).1
    exact app_u8 hH (fun z hz => by simp at hz; subst hz; exact wf_mk_u8 (by omega) (by omega))
  · rw [if_neg hk]
    obtain ⟨_, f2, f3, _⟩ := kind_file' h3 hk
    have hp := path_parts f2
    have hs := siz_parts f3
    have hA : ∀ z ∈ (wrH r ++ [(r.path.size : Int)]) ++ pathL r.path, (Lit.int .u8 z).wf = true := app_u8 (app_u8 hH (fun z hz => by simp at hz; subst hz; exact wf_mk_u8 (by omega) (by omega))) (path_mem _)
    split
    · exact app_u8 hA (pcs_mem r.ps (by omega) (fun x hx => ⟨h.row.fits x hx, List.all_eq_true.1 hs.2 x hx⟩))
    · exact hA
theorem wr_len {w : World} {r : Rec} (h : Rv w r) (hm : mayB r = true) (hn : r.ps.length ≤ 1000) : (wrB r).length ≤ 100000 := by
  obtain ⟨_, _, h3⟩ := may_parts hm
  have hH : (wrH r).length ≤ 54 := by
    have h1 := vint10 r.seq
    have h2 := vint10 r.epoch
    unfold wrH
    simp [h.len]
    omega
  unfold wrB
  by_cases hk : r.kind = 1
  · rw [if_pos hk]; simp; omega
  · rw [if_neg hk]
    obtain ⟨_, f2, _, _⟩ := kind_file' h3 hk
    have hp := path_parts f2
    have h1 := vint10 (r.ps.length : Int)
    have h2 := flat_len r.ps (fun x hx => (h.row.fits x hx).len)
    split
    · simp only [List.length_append, List.length_cons, List.length_nil, pathL_len, pcsB]; omega
    · simp only [List.length_append, List.length_cons, List.length_nil, pathL_len]; omega
theorem flt_may {hs he : Int} {hc : List Int} {r : Rec} (h : fltO hs he hc r = 0) : mayB r = true ∧ folB hs he hc r = true := by
  unfold fltO at h
  split at h
  · split at h
    · exact ⟨‹_›, ‹_›⟩
    · cases h
  · cases h
/-- What Next answers. -/
def nxO (hs he : Int) (hc : List Int) (r : Rec) : Int × Int × List Int := if fltO hs he hc r = 0 then (r.seq, r.epoch, digL (wrB r)) else (0, 0, z32)
theorem next_word (hs he : Int) (hc : List Int) (r : Rec) (w : World) (hcl : hc.length = 32) (h : Rv w r) (hL : Sh.Laid w) (hn : r.ps.length ≤ 1000) :
    Calls Tryd.prog 42 #[.agg (hdL hs he hc).toArray, .agg r.cs.toArray] w fun e w' => e = .returned (.tuple #[.agg (hdL (nxO hs he hc r).1 (nxO hs he hc r).2.1 (nxO hs he hc r).2.2).toArray, .int .i64 (fltO hs he hc r)]) ∧ Below w.heap.size w w' := by
  unfold nxO
  by_cases hf : fltO hs he hc r = 0
  · rw [if_pos hf, hf]
    have hm := (flt_may hf).1
    exact next_ok hs he hc r w hcl h hL hf hm (wr_len h hm hn) (get_u8 (wr_mem h hm))
  · rw [if_neg hf]
    exact next_no hs he hc r w hcl h hf
theorem nxO_len (hs he : Int) (hc : List Int) (r : Rec) : (nxO hs he hc r).2.2.length = 32 := by
  unfold nxO
  split
  · exact digL_len _
  · rfl

/-- The slice at a reads, in the world w, as the records l. -/
structure Rr (w : World) (a : Option Addr) (cap : Nat) (l : List Rec) : Prop where
  room : l.length ≤ cap
  most : cap ≤ maxLen
  none0 : a = none → cap = 0
  cells : 0 < l.length → ∃ b off, a = some ⟨b, off, none⟩ ∧ b < w.heap.size ∧ ∀ j, j < l.length → w.rangeAt b (off + j * 38) (l.getD j recZ).cs
  fits : ∀ r ∈ l, Rv w r
theorem Rr.later {w w' : World} {a : Option Addr} {cap : Nat} {l : List Rec} (h : Rr w a cap l) (hb : Below w.heap.size w w') : Rr w' a cap l := by
  refine ⟨h.room, h.most, h.none0, fun h0 => ?_, fun r hr => (h.fits r hr).later hb⟩
  obtain ⟨b, off, ha, hbw, hc⟩ := h.cells h0
  exact ⟨b, off, ha, Nat.lt_of_lt_of_le hbw hb.size, fun j hj => range_later (hc j hj) hb hbw⟩
theorem Rr.get {w : World} {a : Option Addr} {cap : Nat} {l : List Rec} (h : Rr w a cap l) {j : Nat} (hj : j < l.length) : Rv w (l.getD j recZ) :=
  h.fits _ (by simp [List.getD, List.getElem?_eq_getElem hj])
theorem flatR_len (l : List Rec) (h : ∀ r ∈ l, r.prev.length = 32) : (l.flatMap Rec.cs).length = l.length * 38 := by
  induction l with
  | nil => rfl
  | cons x l ih => rw [List.flatMap_cons, List.length_append, Rec.cs_len (h x (by simp)), ih (fun y hy => h y (by simp [hy])), List.length_cons]; omega
theorem flatR_at (l : List Rec) (h : ∀ r ∈ l, r.prev.length = 32) : ∀ j, j < l.length → ∀ i u, (l.getD j recZ).cs[i]? = some u → (l.flatMap Rec.cs)[j * 38 + i]? = some u := by
  induction l with
  | nil => intro j hj; simp at hj
  | cons x l ih =>
    intro j hj i u hu
    have hx := Rec.cs_len (h x (by simp))
    rw [List.flatMap_cons]
    cases j with
    | zero =>
      have hu' : x.cs[i]? = some u := hu
      have hi : i < x.cs.length := (List.getElem?_eq_some_iff.1 hu').1
      rw [show 0 * 38 + i = i from by omega, List.getElem?_append_left hi]
      exact hu'
    | succ j =>
      rw [List.getElem?_append_right (by rw [hx]; omega), hx, show (j + 1) * 38 + i - 38 = j * 38 + i from by omega]
      exact ih (fun y hy => h y (by simp [hy])) j (by simp at hj; omega) i u (by simpa using hu)
theorem Rr.own {w : World} {base : Nat} {v : Value} {l : List Rec} (h : w.ownsRow base 58 38 v l.length (l.flatMap Rec.cs)) (hf : ∀ r ∈ l, Rv w r) : ∃ a cap, v = .slice a l.length cap ∧ Rr w a cap l := by
  rcases h.2 with ⟨rfl, hn⟩ | ⟨g, cap, cur, rfl, hbg, hg, hc, hm, hs, ht⟩
  · rw [hn]
    exact ⟨none, 0, rfl, ⟨by omega, by unfold maxLen; omega, fun _ => rfl, fun h0 => by omega, hf⟩⟩
  · refine ⟨some ⟨g, 0, none⟩, cap, rfl, ⟨hc, hm, (fun h => by cases h), fun _ => ⟨g, 0, rfl, (Array.getElem?_eq_some_iff.1 hg).1, fun j hj i u hu => ?_⟩, hf⟩⟩
    have := flatR_at l (fun r hr => (hf r hr).len) j hj i u hu
    rw [← ht] at this
    rw [Nat.zero_add]
    refine (Joins.cell_of_block hg _).trans ?_
    have hlt : j * 38 + i < (cur.toList.take (l.length * 38)).length := (List.getElem?_eq_some_iff.1 this).1
    rw [List.getElem?_take_of_lt (by simp at hlt; omega)] at this
    simpa using this
theorem Tryd.info58 : (Tryd.prog.info? 58).map (fun i => (i.zero, i.size, i.bytes)) = some (some (.agg recZ.cs.toArray), 38, 104) := by kernel_rfl
theorem wpList_buildOne {P : Program} {ops : Array Oper} {rest : List Oper} {o : Oper} {a : Act} {w : World} {Q : Exit → Act → World → Prop} (hg : o.guard = none) (t e : TypeId) (x : Operand) (ho : o.op = .buildSlice t 1 #[(0, x)]) (d : Option Tmp) (hd : o.dst = d)
    (cells : Array Value) (ie : TypeInfo) (z : Value) (hu : P.underlying t = some (.slice e)) (hie : P.info? e = some ie) (hz : ie.zero = some z) (hs : ie.size = cells.size) (hp : 0 < cells.size) (hq : cells.size ≤ 1000) (hx : a.eval x = .agg cells)
    (h : wpList P ops Q rest (a.put d (.slice (some ⟨w.heap.size, 0, none⟩) 1 1)) (w.alloc (.cells cells e))) : wpList P ops Q (o :: rest) a w := by
  subst hd
  refine wpList_buildSlice hg t e 1 _ ho cells ie z hu hie hz (by rw [hs]; omega) (by rw [hs]; omega) ?_ h
  have := Great.fill_whole (s := cells.size) hp [.agg cells] ((Array.range (1 * cells.size)).map (z.cells[· % z.cells.size]!)) (fun v hv => by simp at hv; subst hv; rfl) (by simp)
  rw [hs]
  simpa [hx, Value.cells] using this
def fewL (l : List Rec) : List Rec := (l.take 20).map cutR
theorem fewL_len (l : List Rec) : (fewL l).length ≤ 20 := by unfold fewL; simp; omega
end Go.Proofs.YtplinkmagnihmaaDoor
