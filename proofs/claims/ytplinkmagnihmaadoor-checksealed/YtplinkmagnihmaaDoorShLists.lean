/-
  The MAC, as a function on lists of bytes. Pieces of a row, a list of one row, and the document's Of. The contracts of a Hash's sound, Write, Sum and Copy, of one that New or Copy made. An argument of type [][]byte, and the statements' 'cut'. The arguments that the statements take: arrays of numbers, rows of bytes, lists of rows. The contract of the statements' 'alive': it returns true where the program's tables are as they were laid.
-/
import Derived.Test.YtplinkmagnihmaaDoorShDigest
import Derived.LaidMore
import Derived.Lib.LaidTab
import Derived.Stop.Joined
import Derived.DeepKeys
import Derived.Laws.StructEq
import Derived.Test.YtplinkmagnihmaaDoorShRefSumW
import Derived.Deep.Matrix
import Derived.Laws.ResultCell
import Derived.Test.YtplinkmagnihmaaDoorShShaFast
namespace Go.Proofs.YtplinkmagnihmaaDoor.Sh
open Go.RowKit Sha

/-- A new row of bytes. -/
theorem Rd.fresh (w : World) (C : Array Value) (fr : Nat × Nat) (zs : List Nat) (n g : Nat) (hg : g = w.heap.size) (hn : zs.length = n) (hm : n ≤ maxLen) (hC : C = (zs.map fun z : Nat => Value.int .u8 (z : Int)).toArray) (hz : ∀ z ∈ zs, z < 256) :
    Rd (w.alloc (.cells C 5 fr)) (.slice (some ⟨g, 0, none⟩) n n) (some ⟨g, 0, none⟩) n zs := by
  subst hg hn
  refine ⟨rfl, Nat.le_refl _, hm, fun _ => ⟨w.heap.size, 0, rfl, by simp, fun j hj => ?_⟩, (all_lt zs).2 hz, fun h => by cases h⟩
  rw [Nat.zero_add, World.cell?_alloc_mark, hC]
  simp [List.getD, List.getElem?_eq_getElem hj]

/-- Two rows as a new list of rows. -/
theorem Ps.two {w : World} {v1 v2 : Value} {a1 a2 : Option Addr} {c1 c2 : Nat} {z1 z2 : List Nat} (h1 : Rd w v1 a1 c1 z1) (h2 : Rd w v2 a2 c2 z2) (g : Nat) (hg : g = w.heap.size) :
    Ps (w.alloc (.cells #[v1, v2] 22)) (some ⟨g, 0, none⟩) 2 [z1, z2] := by
  subst hg
  have hb := bel_alloc w (.cells #[v1, v2] 22)
  refine ⟨Nat.le_refl _, by unfold maxLen; omega, fun _ => ⟨w.heap.size, 0, rfl, by simp, fun j hj => ?_⟩⟩
  have hc := World.cell?_alloc_mark w #[v1, v2] 22 (0, 0)
  match j, hj with
  | 0, _ => exact ⟨v1, a1, c1, hc 0, h1.later hb⟩
  | 1, _ => exact ⟨v2, a2, c2, hc 1, h2.later hb⟩

theorem digest_lt (l : List Nat) : ∀ j, (digest l).getD j 0 < 256 := by
  rw [digest]
  generalize blocks _ _ _ = s
  intro j
  by_cases hj : j < 32
  · rw [bytes_get s j hj]; exact Nat.mod_lt _ (by decide)
  · rw [List.getD, List.getElem?_eq_none (by rw [bytes_length]; omega)]; decide

end Go.Proofs.YtplinkmagnihmaaDoor.Sh
namespace Go.Proofs.YtplinkmagnihmaaDoor.Sh
open Go.ChangeShapes Go.WideShapes Go.ChangeAt Go.RowKit Sha

theorem wf_u8 {x : Int} (h : (Lit.int .u8 x).wf = true) : 0 ≤ x ∧ x ≤ 255 := by
  have h1 : IntKind.u8.min = 0 := rfl
  have h2 : IntKind.u8.max = 255 := rfl
  simp only [Lit.wf, Bool.and_eq_true, decide_eq_true_eq] at h
  omega
theorem wf_u32 {x : Int} (h : (Lit.int .u32 x).wf = true) : 0 ≤ x ∧ x < 4294967296 := by
  have h1 : IntKind.u32.min = 0 := rfl
  have h2 : IntKind.u32.max = 4294967295 := rfl
  simp only [Lit.wf, Bool.and_eq_true, decide_eq_true_eq] at h
  omega
theorem wf_u64 {x : Int} (h : (Lit.int .u64 x).wf = true) : 0 ≤ x ∧ x < 18446744073709551616 := by
  have h1 : IntKind.u64.min = 0 := rfl
  have h2 : IntKind.u64.max = 18446744073709551615 := rfl
  simp only [Lit.wf, Bool.and_eq_true, decide_eq_true_eq] at h
  omega

theorem Tryd.cells111 : Tryd.prog.cellsOf 111 = 64 := by kernel_rfl
theorem Tryd.cells25 : Tryd.prog.cellsOf 25 = 32 := by kernel_rfl
theorem Tryd.laidOut : laidOutB Tryd.prog = true := by kernel_rfl

theorem getD_nat (zs : List Int) (j : Nat) : (zs.map Int.toNat).getD j 0 = (zs.getD j 0).toNat := by
  simp only [List.getD, List.getElem?_map]
  cases zs[j]? <;> rfl

/-- Bytes as a string, in whatever later world. -/
theorem Rd.text {w : World} {v : Value} {a : Option Addr} {cap : Nat} {zs : List Nat} (h : Rd w v a cap zs) (W : World) (hb : Below w.heap.size w W) :
    (convert 22 9 v).run Tryd.prog W = .ok (.string (strOfNums (ints zs))) W := by
  have h' := h.later hb
  rw [h'.val]
  by_cases h0 : 0 < zs.length
  · obtain ⟨b, off, rfl, _, hc⟩ := h'.cells h0
    exact run_convert_bytes_arg (P := Tryd.prog) W 22 5 Tryd.underlying22 Tryd.underlying5 b off zs.length cap (ints zs) (ints_length zs) (fun j hj => by rw [ints_getD]; exact hc j hj) 9 Tryd.underlying9
  · have hz : zs = [] := List.length_eq_zero_iff.1 (by omega)
    subst hz
    rw [run_convert_bytes_string W 22 9 5 a _ cap Tryd.underlying22 Tryd.underlying5 Tryd.underlying9]
    cases a with
    | none => rfl
    | some ad =>
      rw [show ([] : List Nat).length = 0 from rfl]
      rw [run_bytesToString W ad 0 cap [] (by simpa using run_loadCells_list (P := Tryd.prog) W ad [] (by intro j v hj; simp at hj))]
      rfl

/-- A whole array in a block of its own, loaded. -/
theorem load_whole {w : World} {b : Nat} {t tt : TypeId} {k : IntKind} {l : List Nat} {d : TypeDesc} (hb : w.heap[b]? = some (.cells (arr k l) tt (0, 0))) (hu : Tryd.prog.underlying t = some d) (hd : d.isRow = true) (hi : (Tryd.prog.info? t).map (·.size) = some l.length) :
    (Instr.loadAt t (.pointer (some ⟨b, 0, none⟩))).run Tryd.prog w = .ok (.agg (arr k l)) w := by
  refine run_loadAt_mid w b 0 t (lst k l) d (fun j v hv => ?_) hu hd (by rw [lst_length]; exact hi)
  rw [Nat.zero_add, Joins.cell_of_block hb j, ← arr_lst, List.getElem?_toArray]
  exact hv

theorem guard31 : Tryd.prog.eqGuardType Tryd.prog.depth 122 = false := by kernel_rfl
theorem guard25 : Tryd.prog.eqGuardType Tryd.prog.depth 25 = false := by kernel_rfl
theorem guard24 : Tryd.prog.eqGuardType Tryd.prog.depth 24 = false := by kernel_rfl

/-- '==' of two arrays, as an operation. -/
theorem run_eql_op {P : Program} {oi : Oper} {ts : Array Value} {df : List Deferred} {t t2 : TypeId} {x y : Operand} (ho : oi.op = .binOp .eql t x y t2) {xs ys : Array Value} {b : Bool} (hx : Act.eval ⟨ts, df⟩ x = .agg xs) (hy : Act.eval ⟨ts, df⟩ y = .agg ys) (hg : P.eqGuardType P.depth t = false) {w : World}
    (h : (Op.equalIn 10000 t (.agg xs) (.agg ys)).run P w = .ok b w) : (execOp (Act.eval ⟨ts, df⟩) oi).run P w = .ok (.value (.bool b)) w := by
  unfold execOp
  simp only [ho, hx, hy, Sem.run_bind, run_eqGuard_agg w .eql t x y xs ys hg, run_eql_struct w t xs ys, h, Result.andThen_ok]
  rfl
end Go.Proofs.YtplinkmagnihmaaDoor.Sh
namespace Go.Proofs.YtplinkmagnihmaaDoor.Sh
open Go.ChangeShapes Go.WideShapes Go.ChangeAt Go.RowKit Go.Deep Sha

theorem Tryd.cells22 : Tryd.prog.cellsOf 22 = 1 := by kernel_rfl
theorem Tryd.info22 : (Tryd.prog.info? 22).map (fun i => (i.zero, i.size, i.bytes)) = some (some (.slice none 0 0), 1, 24) := by kernel_rfl

theorem Ps.later {w w' : World} {a : Option Addr} {cap : Nat} {l : List (List Nat)} (h : Ps w a cap l) (hb : Below w.heap.size w w') : Ps w' a cap l := by
  refine ⟨h.room, h.most, fun h0 => ?_⟩
  obtain ⟨b, off, ha, hbw, hc⟩ := h.cells h0
  refine ⟨b, off, ha, Nat.lt_of_lt_of_le hbw hb.size, fun j hj => ?_⟩
  obtain ⟨v, a', cap', h1, h2⟩ := hc j hj
  exact ⟨v, a', cap', (hb.cell (p := ⟨b, off + j, none⟩) hbw).trans h1, h2.later hb⟩

theorem Rd.take {w : World} {a : Option Addr} {cap : Nat} {zs : List Nat} (h : Rd w (.slice a zs.length cap) a cap zs) (n : Nat) : Rd w (.slice a (zs.take n).length cap) a cap (zs.take n) := by
  have hroom := h.room
  have hle : (zs.take n).length ≤ zs.length := by simp; omega
  refine ⟨rfl, by omega, h.most, fun h0 => ?_, ?_, h.nil⟩
  · obtain ⟨b, off, ha, hbw, hc⟩ := h.cells (by omega)
    refine ⟨b, off, ha, hbw, fun j hj => ?_⟩
    have e : (zs.take n).getD j 0 = zs.getD j 0 := by
      have : j < n := by simp at hj; omega
      simp [List.getD, List.getElem?_take_of_lt this]
    rw [e]
    exact hc j (by omega)
  · rw [all_lt]
    intro z hz
    exact (all_lt zs).1 h.hi z (List.mem_of_mem_take hz)

theorem row_new (w : World) (v : Value) : ∀ (j : Nat) (u : Value), [v][j]? = some u → (w.alloc (.cells #[v] 22)).cell? (Addr.add ⟨w.heap.size, 0, none⟩ j) = some u := by
  intro j u h
  match j, h with
  | 0, h => simp at h; subst h; simp [Addr.add]
theorem row_cell (a : Option Addr) (n c : Nat) : ∀ u ∈ [Value.slice a n c], u.oneCell' = true := by
  intro u hu
  simp at hu
  subst hu
  rfl

/-- Rows of one's own that read so. -/
structure Vals (w : World) (vals : List Value) (m : List (List Nat)) : Prop where
  len : vals.length = m.length
  each : ∀ j, j < m.length → ∃ a cap, Rd w (vals.getD j undef) a cap (m.getD j [])

theorem Vals.snoc {w : World} {vals : List Value} {m : List (List Nat)} (h : Vals w vals m) {v : Value} {a : Option Addr} {cap : Nat} {y : List Nat} (hr : Rd w v a cap y) : Vals w (vals ++ [v]) (m ++ [y]) := by
  have hl := h.len
  refine ⟨by simp [hl], fun j hj => ?_⟩
  by_cases hjm : j < m.length
  · obtain ⟨a', cap', h'⟩ := h.each j hjm
    refine ⟨a', cap', ?_⟩
    rw [show (vals ++ [v]).getD j undef = vals.getD j undef from by simp [List.getD, List.getElem?_append_left (show j < vals.length by omega)], show (m ++ [y]).getD j [] = m.getD j [] from by simp [List.getD, List.getElem?_append_left hjm]]
    exact h'
  · have : j = m.length := by simp at hj; omega
    subst this
    refine ⟨a, cap, ?_⟩
    rw [show (vals ++ [v]).getD m.length undef = v from by simp [List.getD, ← hl], show (m ++ [y]).getD m.length [] = y from by simp [List.getD]]
    exact hr

theorem ps_own {w W : World} {vals : List Value} {m : List (List Nat)} {B : Nat} {v : Value} (h : Vals w vals m) (hown : W.ownsRow B 22 1 v m.length vals) (hb : Below w.heap.size w W) :
    ∃ a c, v = .slice a m.length c ∧ Ps W a c m := by
  have h' := hown
  obtain ⟨_, hcase⟩ := hown
  rcases hcase with ⟨rfl, h1⟩ | ⟨g, c, cur, rfl, hg, hh, hn, hcap, _, _⟩
  · exact ⟨none, 0, by rw [h1], by omega, by unfold maxLen; omega, fun h0 => by omega⟩
  · have hv := h.len
    refine ⟨_, c, rfl, hn, hcap, fun _ => ⟨g, 0, rfl, (Array.getElem?_eq_some_iff.1 hh).1, fun j hj => ?_⟩⟩
    obtain ⟨a', cap', hr⟩ := h.each j hj
    refine ⟨_, a', cap', ?_, hr.later hb⟩
    rw [Nat.zero_add, h'.cellAt j (by omega), List.getElem?_eq_getElem (show j < vals.length by omega)]
    simp [List.getD, List.getElem?_eq_getElem (show j < vals.length by omega)]

end Go.Proofs.YtplinkmagnihmaaDoor.Sh
namespace Go.Proofs.YtplinkmagnihmaaDoor.Sh
open Go.RowKit Sha

theorem results_row_tmp {P : Program} {fn : Func} {p u : Tmp} {ty : TypeId} (h : fn.results = #[.cell p ty, .tmp u]) (tmps : Array Value) (w : World) (g : Nat) (v : Value) (hp : tmps.getD p undef = .pointer (some ⟨g, 0, none⟩)) (hl : (loadVar ty ⟨g, 0, none⟩).run P w = .ok v w) :
    (results fn tmps).run P w = .ok (.tuple #[v, tmps.getD u undef]) w := by
  rw [results_cell_tmp h, hp]
  simp [asAddr, hl]

theorem Tryd.size25' : (Tryd.prog.info? 25).map (·.size) = some 32 := Tryd.size25
theorem Hs.made {w : World} {g : Nat} {msg op : List Nat} (h : Hs w g msg op) : w.cell? ⟨g, 0, none⟩ = some (.bool true) := by
  rw [Joins.cell_of_block h.blk 0, List.getElem?_toArray]; exact hL_made _ _ _
theorem Hs.count {w : World} {g : Nat} {msg op : List Nat} (h : Hs w g msg op) : w.cell? ⟨g, 73, none⟩ = some (.int .u64 (msg.length : Int)) := by
  rw [Joins.cell_of_block h.blk 73, List.getElem?_toArray]; exact hL_n _ _ _ h.len

end Go.Proofs.YtplinkmagnihmaaDoor.Sh
namespace Go.Proofs.YtplinkmagnihmaaDoor.Sh
open Go.ChangeShapes Go.WideShapes Go.ChangeAt Go.RowKit Sha

/-- b[p:p+n], as a value and as bytes. -/
theorem mid_part {w : World} {a : Option Addr} {cap : Nat} {zs : List Nat} (h : Rd w (.slice a zs.length cap) a cap zs) (p n : Nat) (hn : p + n ≤ zs.length) :
    ∃ a' cap', sliced a p (p + n) cap 1 = .slice a' n cap' ∧ Rd w (.slice a' n cap') a' cap' ((zs.drop p).take n) := by
  have hl : ((zs.drop p).take n).length = n := by rw [List.length_take, List.length_drop]; omega
  have hroom := h.room
  have hmost := h.most
  refine ⟨_, cap - p, by rw [sliced, Nat.add_sub_cancel_left], by rw [hl], by omega, by omega, fun h0 => ?_, ?_, fun hn => ?_⟩
  · rw [hl] at h0 ⊢
    obtain ⟨b, off, rfl, hbw, hc⟩ := h.cells (by omega)
    refine ⟨b, off + p, ?_, hbw, fun j hj => ?_⟩
    · rw [if_neg (by omega)]
      simp [WideShapes.add_plain]
    · rw [show ((zs.drop p).take n).getD j 0 = zs.getD (p + j) 0 from by rw [← getD_dropN]; simp [List.getD, List.getElem?_take_of_lt hj], Nat.add_assoc]
      exact hc (p + j) (by omega)
  · rw [all_lt]
    intro z hz
    exact (all_lt zs).1 h.hi z (List.mem_of_mem_drop (List.mem_of_mem_take hz))
  · cases a with
    | none => have := h.nil rfl; omega
    | some ad => split at hn <;> cases hn

set_option maxRecDepth 100000 in
theorem slice_mid (a : Option Addr) (len cap p n : Nat) (h : p + n ≤ cap) (W : World) : (Instr.slice 22 (.slice a len cap) (some (.int .i64 (p : Int))) (some (.int .i64 ((p : Int) + (n : Int)))) none).run Tryd.prog W = .ok (sliced a p (p + n) cap 1) W := by
  have := run_slice_lh (P := Tryd.prog) W 22 a len cap Tryd.underlying22 .i64 .i64 (p : Int) ((p : Int) + (n : Int)) (by omega) (by omega) (by omega)
  rw [this, Int.toNat_natCast, show ((p : Int) + (n : Int)).toNat = p + n from by omega]
  rfl
set_option maxRecDepth 100000 in
theorem slice_rest (a : Option Addr) (len cap p : Nat) (h : p ≤ len) (W : World) : (Instr.slice 22 (.slice a len cap) (some (.int .i64 (p : Int))) none none).run Tryd.prog W = .ok (sliced a p len cap 1) W := by
  have := run_slice_l (P := Tryd.prog) W 22 a len cap Tryd.underlying22 .i64 (p : Int) (by omega) (by omega)
  rw [this, Int.toNat_natCast]
  rfl

/-- One row as a new list of rows. -/
theorem Ps.one {w : World} {v : Value} {a : Option Addr} {c : Nat} {z : List Nat} (h : Rd w v a c z) (g : Nat) (hg : g = w.heap.size) :
    Ps (w.alloc (.cells #[v] 22)) (some ⟨g, 0, none⟩) 1 [z] := by
  subst hg
  have hb := bel_alloc w (.cells #[v] 22)
  refine ⟨Nat.le_refl _, by unfold maxLen; omega, fun _ => ⟨w.heap.size, 0, rfl, by simp, fun j hj => ?_⟩⟩
  have hc := World.cell?_alloc_mark w #[v] 22 (0, 0)
  match j, hj with
  | 0, _ => exact ⟨v, a, c, hc 0, h.later hb⟩

theorem sum_one (a : Option Addr) (cap : Nat) (z : List Nat) (w : World) (hl : Laid w) (hr : Rd w (.slice a z.length cap) a cap z) (hbd : z.length ≤ 100000) (g : Nat) (hg : g = w.heap.size) :
    Calls Tryd.prog 61 #[.slice (some ⟨g, 0, none⟩) 1 1] (w.alloc (.cells #[.slice a z.length cap] 22)) fun e w' => e = .returned (.agg (arr .u8 (digest z))) ∧ Below w.heap.size w w' := by
  have hb := bel_alloc w (.cells #[.slice a z.length cap] 22)
  have h := sum_word (some ⟨g, 0, none⟩) 1 [z] (w.alloc (.cells #[.slice a z.length cap] 22)) (hl.later hb) (Ps.one hr g hg) (by simp; omega)
  rw [show [z].flatten = z from by simp] at h
  exact h.mono (fun e w' h => ⟨h.1, Bn hb h.2⟩)

set_option maxHeartbeats 800000 in
set_option maxRecDepth 100000 in
theorem of_ref (a : Option Addr) (cap : Nat) (z : List Nat) (w : World) (hr : Rd w (.slice a z.length cap) a cap z) (hbd : z.length ≤ 100000) :
    Calls Tryd.prog 37 #[.slice a z.length cap] w fun e w' => e = .returned (.agg (arr .u8 (digest z))) ∧ Below w.heap.size w w' := by
  have b0 := bel_alloc w (.cells (arr .u8 z32) 24)
  have e0 := heap_new w (.cells (arr .u8 z32) 24)
  have s0 : (w.alloc (.cells (arr .u8 z32) 24)).heap.size = w.heap.size + 1 := by simp
  have hr0 := hr.later b0
  have b1 := bel_alloc (w.alloc (.cells (arr .u8 z32) 24)) (.cells #[.slice a z.length cap] 22)
  have hp := Ps.one hr0 (w.heap.size + 1) s0.symm
  have e1 : ((w.alloc (.cells (arr .u8 z32) 24)).alloc (.cells #[.slice a z.length cap] 22)).heap[w.heap.size]? = some (.cells (arr .u8 z32) 24 (0, 0)) := by rw [b1.block _ (by omega)]; exact e0
  have s1 : ((w.alloc (.cells (arr .u8 z32) 24)).alloc (.cells #[.slice a z.length cap] 22)).heap.size = w.heap.size + 1 + 1 := by simp
  have hS := sum_ref (some ⟨w.heap.size + 1, 0, none⟩) 1 [z] _ hp (by simp; omega)
  rw [show [z].flatten = z from by simp] at hS
  have HS := hid hS
  have HB := hid (Bn b0 b1)
  clear hS hp hr0 hr b0 b1 e0
  go_enter Tryd.func37, Tryd.ntmps37
  go_wp2_with (refine wpList_alloc_at rfl 24 rfl (some 2) rfl (arr .u8 z32) Tryd.zero24 w.heap.size rfl ?_)
  go_at_call 54
  refine HS.out.mono ?_
  rintro _ w2 ⟨rfl, hb2⟩
  have hres : w2.heap[w.heap.size]? = some (.cells (arr .u8 z32) 24 (0, 0)) := by rw [hb2.block _ (by omega)]; exact e1
  have hbel := Bn HB.out hb2
  have hsz : (arr .u8 (digest z)).size = 32 := arr_size _ _
  clear hb2 HS e1
  go_wp2_with (refine wpList_store_rowTo rfl 24 _ _ rfl rfl w.heap.size (arr .u8 (digest z)) rfl rfl 24 _ hres (by rw [hsz]; exact Tryd.size24) (by rw [hsz]; rfl) (arr_one _ _) ?_)
  refine bodyPost_ret (results_cell_row (ty := 24) rfl _ _ _ _ _ _ _ rfl (setRow_heap _ _ _ _ _ _ hres) Tryd.underlying24 rfl (by rw [hsz]; exact Tryd.size24)) rfl ?_
  exact ⟨rfl, below_setRow hbel (Nat.le_refl _) _⟩
end Go.Proofs.YtplinkmagnihmaaDoor.Sh
namespace Go.Proofs.YtplinkmagnihmaaDoor.Sh.Sha

/-- A key's block. -/
def keyOf (key : List Nat) : List Nat := if 64 < key.length then digest key else key
def blockL (key : List Nat) : List Nat := keyOf key ++ List.replicate (64 - (keyOf key).length) 0
def xorL (x : Nat) (l : List Nat) : List Nat := l.map fun z => z ^^^ x
/-- The MAC. -/
def hmac (key msg : List Nat) : List Nat := digest (xorL 92 (blockL key) ++ digest (xorL 54 (blockL key) ++ msg))

theorem jefe_in : digest (xorL 54 (blockL [74, 101, 102, 101]) ++ [119, 104, 97, 116, 32, 100, 111, 32, 121, 97, 32, 119, 97, 110, 116, 32, 102, 111, 114, 32, 110, 111, 116, 104, 105, 110, 103, 63]) = [162, 228, 133, 134, 61, 39, 249, 216, 100, 172, 141, 128, 36, 50, 161, 237, 71, 125, 140, 76, 111, 52, 157, 22, 212, 231, 233, 23, 198, 41, 202, 215] := by
  rw [digest_quick]
  decide +kernel
theorem jefe : hmac [74, 101, 102, 101] [119, 104, 97, 116, 32, 100, 111, 32, 121, 97, 32, 119, 97, 110, 116, 32, 102, 111, 114, 32, 110, 111, 116, 104, 105, 110, 103, 63] = [91, 220, 193, 70, 191, 96, 117, 78, 106, 4, 36, 38, 8, 149, 117, 199, 90, 0, 63, 8, 157, 39, 57, 131, 157, 236, 88, 185, 100, 236, 56, 67] := by
  rw [hmac, jefe_in, digest_quick]
  decide +kernel

theorem digest_len (l : List Nat) : (digest l).length = 32 := rfl
theorem keyOf_length (key : List Nat) : (keyOf key).length ≤ 64 := by
  unfold keyOf
  split
  · rw [digest_len]; omega
  · omega
theorem blockL_length (key : List Nat) : (blockL key).length = 64 := by
  have := keyOf_length key
  rw [blockL, List.length_append, List.length_replicate]
  omega
theorem xorL_length (x : Nat) (l : List Nat) : (xorL x l).length = l.length := by simp [xorL]
theorem hmac_length (key msg : List Nat) : (hmac key msg).length = 32 := rfl
theorem block_short (key : List Nat) (h : key.length < 64) : blockL (key ++ [0]) = blockL key := by
  have e1 : keyOf key = key := by rw [keyOf, if_neg (by omega)]
  have e2 : keyOf (key ++ [0]) = key ++ [0] := by rw [keyOf, if_neg (by rw [List.length_append, List.length_singleton]; omega)]
  rw [blockL, blockL, e1, e2, List.length_append, List.length_singleton, List.append_assoc, show 64 - key.length = (64 - (key.length + 1)) + 1 from by omega, List.replicate_succ]
  rfl
theorem block_long (key : List Nat) (h : 64 < key.length) : blockL (digest key) = blockL key := by
  have e1 : keyOf key = digest key := by rw [keyOf, if_pos h]
  have e2 : keyOf (digest key) = digest key := by rw [keyOf, if_neg (by rw [digest_len]; omega)]
  rw [blockL, blockL, e1, e2]
end Go.Proofs.YtplinkmagnihmaaDoor.Sh.Sha
