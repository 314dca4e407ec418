/-
  A record and its pieces as values: their cells, what a row of pieces reads as, and in which worlds.
-/
import Derived.Test.YtplinkmagnihmaaDoorBas
import Derived.Lib.AppendStr
namespace Go.Proofs.YtplinkmagnihmaaDoor
open Go.ChangeShapes Go.WideShapes Go.ChangeAt Go.RowKit Go.Deep

/-- A piece: its digest's bytes, and how many bytes it has. -/
abbrev Pc := List Int × Int
def pc0 : Pc := ([], 0)
def pcC (x : Pc) : List Value := x.1.map (Value.int .u8) ++ [.int .i64 x.2]
structure PcOk (x : Pc) : Prop where
  len : x.1.length = 32
  u8 : ∀ j, (Lit.int .u8 (x.1.getD j 0)).wf = true
  i64 : (Lit.int .i64 x.2).wf = true
theorem pcC_len {x : Pc} (h : x.1.length = 32) : (pcC x).length = 33 := by simp [pcC, h]
theorem pcC_one (x : Pc) : ∀ u ∈ pcC x, u.oneCell' = true := by
  intro u hu
  simp only [pcC, List.mem_append, List.mem_map, List.mem_singleton] at hu
  rcases hu with ⟨y, _, rfl⟩ | rfl <;> rfl
theorem pcC_n {x : Pc} (h : x.1.length = 32) : (pcC x)[32]? = some (.int .i64 x.2) := by
  unfold pcC
  rw [List.getElem?_append_right (by simp [h])]
  simp [h]
theorem pcC_d {x : Pc} (h : x.1.length = 32) (j : Nat) (hj : j < 32) : (pcC x)[j]? = some (.int .u8 (x.1.getD j 0)) := by
  unfold pcC
  rw [List.getElem?_append_left (by simp [h]; exact hj)]
  simp [List.getD, List.getElem?_eq_getElem (show j < x.1.length by omega)]

/-- The slice at a reads, in the world w, as the pieces l. -/
structure Rp (w : World) (a : Option Addr) (cap : Nat) (l : List Pc) : Prop where
  room : l.length ≤ cap
  most : cap ≤ maxLen
  none0 : a = none → cap = 0
  cells : 0 < l.length → ∃ b off, a = some ⟨b, off, none⟩ ∧ b < w.heap.size ∧ ∀ j, j < l.length → w.rangeAt b (off + j * 33) (pcC (l.getD j pc0))
  fits : ∀ x ∈ l, PcOk x
theorem range_later {w w' : World} {b o : Nat} {cs : List Value} (h : w.rangeAt b o cs) (hb : Below w.heap.size w w') (hlt : b < w.heap.size) : w'.rangeAt b o cs :=
  fun j v hv => (hb.cell (p := ⟨b, o + j, none⟩) hlt).trans (h j v hv)
theorem Rp.later {w w' : World} {a : Option Addr} {cap : Nat} {l : List Pc} (h : Rp w a cap l) (hb : Below w.heap.size w w') : Rp w' a cap l := by
  refine ⟨h.room, h.most, h.none0, fun h0 => ?_, h.fits⟩
  obtain ⟨b, off, ha, hbw, hc⟩ := h.cells h0
  exact ⟨b, off, ha, Nat.lt_of_lt_of_le hbw hb.size, fun j hj => range_later (hc j hj) hb hbw⟩
theorem Rp.take {w : World} {a : Option Addr} {cap : Nat} {l : List Pc} (h : Rp w a cap l) (n : Nat) : Rp w a cap (l.take n) := by
  have hr := h.room
  have hle : (l.take n).length ≤ l.length := by simp; omega
  have e : ∀ j, j < (l.take n).length → (l.take n).getD j pc0 = l.getD j pc0 := fun j hj => by
    have : j < n := by simp at hj; omega
    simp [List.getD, List.getElem?_take_of_lt this]
  refine ⟨by omega, h.most, h.none0, fun h0 => ?_, fun x hx => h.fits x (List.mem_of_mem_take hx)⟩
  obtain ⟨b, off, ha, hbw, hc⟩ := h.cells (by omega)
  exact ⟨b, off, ha, hbw, fun j hj => by rw [e j hj]; exact hc j (by omega)⟩
theorem Rp.get {w : World} {a : Option Addr} {cap : Nat} {l : List Pc} (h : Rp w a cap l) {j : Nat} (hj : j < l.length) : PcOk (l.getD j pc0) :=
  h.fits _ (by simp [List.getD, List.getElem?_eq_getElem hj])

/-- A record, with the place of its pieces. -/
structure Rec where
  seq : Int
  epoch : Int
  prev : List Int
  kind : Int
  site : Int
  path : ByteArray
  a : Option Addr
  cap : Nat
  ps : List Pc
def Rec.cs (r : Rec) : List Value := .int .i64 r.seq :: .int .i64 r.epoch :: (r.prev.map (Value.int .u8) ++ [.int .i64 r.kind, .int .i64 r.site, .string r.path, .slice r.a r.ps.length r.cap])
structure Rv (w : World) (r : Rec) : Prop where
  len : r.prev.length = 32
  u8 : ∀ j, (Lit.int .u8 (r.prev.getD j 0)).wf = true
  seq : (Lit.int .i64 r.seq).wf = true
  epoch : (Lit.int .i64 r.epoch).wf = true
  kind : (Lit.int .i64 r.kind).wf = true
  site : (Lit.int .i64 r.site).wf = true
  path : r.path.size ≤ maxLen
  row : Rp w r.a r.cap r.ps
theorem Rv.later {w w' : World} {r : Rec} (h : Rv w r) (hb : Below w.heap.size w w') : Rv w' r := ⟨h.len, h.u8, h.seq, h.epoch, h.kind, h.site, h.path, h.row.later hb⟩
theorem Rec.cs_len {r : Rec} (h : r.prev.length = 32) : r.cs.length = 38 := by simp [Rec.cs, h]
theorem Rec.cs_size {r : Rec} (h : r.prev.length = 32) : r.cs.toArray.size = 38 := by simp [Rec.cs, h]
theorem Rec.cs_one (r : Rec) : ∀ u ∈ r.cs, u.oneCell' = true := by
  intro u hu
  simp only [Rec.cs, List.mem_cons, List.mem_append, List.mem_map, List.not_mem_nil, or_false] at hu
  rcases hu with rfl | rfl | ⟨y, _, rfl⟩ | rfl | rfl | rfl | rfl <;> rfl
theorem Rec.tail (r : Rec) (h : r.prev.length = 32) (j : Nat) : r.cs[34 + j]? = [Value.int .i64 r.kind, .int .i64 r.site, .string r.path, .slice r.a r.ps.length r.cap][j]? := by
  unfold Rec.cs
  rw [show 34 + j = (32 + j) + 1 + 1 from by omega, List.getElem?_cons_succ, List.getElem?_cons_succ, List.getElem?_append_right (by simp [h])]
  simp [h]
theorem Rec.mid (r : Rec) (h : r.prev.length = 32) (j : Nat) (hj : j < 32) : r.cs[2 + j]? = some (.int .u8 (r.prev.getD j 0)) := by
  unfold Rec.cs
  rw [show 2 + j = j + 1 + 1 from by omega, List.getElem?_cons_succ, List.getElem?_cons_succ, List.getElem?_append_left (by simp [h]; exact hj)]
  simp [List.getD, List.getElem?_eq_getElem (show j < r.prev.length by omega)]

/-- What lies in a record's own block. -/
structure Bx (w : World) (g : Nat) (r : Rec) : Prop where
  blk : w.heap[g]? = some (.cells r.cs.toArray 58)
  len : r.prev.length = 32
theorem Bx.lt {w : World} {g : Nat} {r : Rec} (h : Bx w g r) : g < w.heap.size := (Array.getElem?_eq_some_iff.1 h.blk).1
theorem Bx.later {w w' : World} {g : Nat} {r : Rec} (h : Bx w g r) (hb : Below w.heap.size w w') : Bx w' g r := ⟨(hb.block _ h.lt).trans h.blk, h.len⟩
theorem Bx.mk' (w : World) (r : Rec) (h : r.prev.length = 32) : Bx (w.alloc (.cells r.cs.toArray 58)) w.heap.size r := ⟨heap_alc w _, h⟩
theorem Bx.c0 {w : World} {g : Nat} {r : Rec} (h : Bx w g r) : w.cell? ⟨g, 0, none⟩ = some (.int .i64 r.seq) := (Joins.cell_of_block h.blk 0).trans rfl
theorem Bx.c1 {w : World} {g : Nat} {r : Rec} (h : Bx w g r) : w.cell? ⟨g, 1, none⟩ = some (.int .i64 r.epoch) := (Joins.cell_of_block h.blk 1).trans rfl
theorem Bx.c34 {w : World} {g : Nat} {r : Rec} (h : Bx w g r) : w.cell? ⟨g, 34, none⟩ = some (.int .i64 r.kind) := (Joins.cell_of_block h.blk 34).trans (by rw [List.getElem?_toArray]; exact r.tail h.len 0)
theorem Bx.c35 {w : World} {g : Nat} {r : Rec} (h : Bx w g r) : w.cell? ⟨g, 35, none⟩ = some (.int .i64 r.site) := (Joins.cell_of_block h.blk 35).trans (by rw [List.getElem?_toArray]; exact r.tail h.len 1)
theorem Bx.c36 {w : World} {g : Nat} {r : Rec} (h : Bx w g r) : w.cell? ⟨g, 36, none⟩ = some (.string r.path) := (Joins.cell_of_block h.blk 36).trans (by rw [List.getElem?_toArray]; exact r.tail h.len 2)
theorem Bx.c37 {w : World} {g : Nat} {r : Rec} (h : Bx w g r) : w.cell? ⟨g, 37, none⟩ = some (.slice r.a r.ps.length r.cap) := (Joins.cell_of_block h.blk 37).trans (by rw [List.getElem?_toArray]; exact r.tail h.len 3)
theorem Bx.cp {w : World} {g : Nat} {r : Rec} (h : Bx w g r) (j : Nat) (hj : j < 32) : w.cell? ⟨g, 2 + j, none⟩ = some (.int .u8 (r.prev.getD j 0)) := (Joins.cell_of_block h.blk (2 + j)).trans (by rw [List.getElem?_toArray]; exact r.mid h.len j hj)
theorem Tryd.size58 : (Tryd.prog.info? 58).map (·.size) = some 38 := by kernel_rfl
theorem Tryd.size80 : (Tryd.prog.info? 80).map (·.size) = some 33 := by kernel_rfl
theorem Tryd.size25 : (Tryd.prog.info? 25).map (·.size) = some 32 := by kernel_rfl
theorem Tryd.size27 : (Tryd.prog.info? 27).map (·.size) = some 34 := by kernel_rfl
theorem Bx.load {w : World} {g : Nat} {r : Rec} (h : Bx w g r) : (loadVar 58 ⟨g, 0, none⟩).run Tryd.prog w = .ok (.agg r.cs.toArray) w :=
  run_loadVar_row (P := Tryd.prog) w g 58 58 r.cs.toArray (0, 0) _ h.blk Tryd.underlying58 rfl (by rw [Rec.cs_size h.len]; exact Tryd.size58)
/-- A load of a struct or an array, guarded or not. -/
theorem wpList_load_g {P : Program} {ops : Array Oper} {rest : List Oper} {o : Oper} {a : Act} {w : World} {Q : Exit → Act → World → Prop} (hw : Region.wanted o (yielded ops a.tmps) = true) (ty : TypeId) (x : Operand) (ho : o.op = .load ty x)
    (b off : Nat) (hx : a.eval x = .pointer (some ⟨b, off, none⟩)) (cs : List Value) (d : TypeDesc) (hc : w.rangeAt b off cs) (hu : P.underlying ty = some d) (hd : d.isRow = true) (hi : (P.info? ty).map (·.size) = some cs.length)
    (h : wpList P ops Q rest (a.put o.dst (.agg cs.toArray)) w) : wpList P ops Q (o :: rest) a w :=
  wpList_step fun K hK => by
    rw [if_pos hw]
    exact wp_load_mid ty x ho b off hx cs d hc hu hd hi (hK _ _ h)
theorem lc_range {w : World} {b o n : Nat} {cs : List Value} (h : w.rangeAt b o cs) (hn : cs.length = n) : (loadCellsFrom ⟨b, o, none⟩ 0 n #[]).run Tryd.prog w = .ok cs.toArray w := by
  subst hn
  have := run_loadCells_list (P := Tryd.prog) w ⟨b, o, none⟩ cs (fun j v hv => by
    rw [Addr.add_mid]
    exact h j v hv)
  simpa [loadCells] using this
theorem Bx.range {w : World} {g : Nat} {r : Rec} (h : Bx w g r) : w.rangeAt g 0 r.cs := fun j v hv => by
  rw [Nat.zero_add, Joins.cell_of_block h.blk j, List.getElem?_toArray]
  exact hv
theorem Bx.lc {w : World} {g : Nat} {r : Rec} (h : Bx w g r) : (loadCellsFrom ⟨g, 0, none⟩ 0 38 #[]).run Tryd.prog w = .ok r.cs.toArray w := lc_range h.range (Rec.cs_len h.len)
theorem Bx.prev {w : World} {g : Nat} {r : Rec} (h : Bx w g r) : w.rangeAt g 2 (r.prev.map (Value.int .u8)) := fun j v hv => by
  have hj : j < 32 := by
    have := (List.getElem?_eq_some_iff.1 hv).1
    simpa [h.len] using this
  rw [h.cp j hj, ← hv]
  simp [List.getD, List.getElem?_eq_getElem (show j < r.prev.length by rw [h.len]; exact hj)]
theorem Bx.ri {w : World} {g : Nat} {r : Rec} (h : Bx w g r) (h8 : ∀ j, (Lit.int .u8 (r.prev.getD j 0)).wf = true) : Ri w .u8 (some ⟨g, 2, none⟩) 32 r.prev :=
  ⟨by rw [h.len]; omega, by unfold maxLen; omega, fun _ => ⟨g, 2, rfl, h.lt, fun j hj => h.cp j (by rw [h.len] at hj; exact hj)⟩, h8⟩
end Go.Proofs.YtplinkmagnihmaaDoor
