/-
  An argument of type [][]byte, and the statements' 'cut'. The arguments that the statements take: arrays of numbers, rows of bytes, lists of rows. The contract of the statements' 'alive': it returns true where the program's tables are as they were laid.
-/
import Derived.Test.YtgnjicpmfpgdeaaDoorShDigest
import Derived.LaidMore
import Derived.Lib.LaidTab
import Derived.Stop.Joined
import Derived.DeepKeys
import Derived.Laws.StructEq
import Derived.Test.YtgnjicpmfpgdeaaDoorShRefSumW
import Derived.Deep.Matrix
namespace Go.Proofs.YtgnjicpmfpgdeaaDoor.Sh
open Go.RowKit Sha

/-- A new row of bytes. -/
theorem Rd.fresh (w : World) (C : Array Value) (fr : Nat × Nat) (zs : List Nat) (n g : Nat) (hg : g = w.heap.size) (hn : zs.length = n) (hm : n ≤ maxLen) (hC : C = (zs.map fun z : Nat => Value.int .u8 (z : Int)).toArray) (hz : ∀ z ∈ zs, z < 256) :
    Rd (w.alloc (.cells C 5 fr)) (.slice (some ⟨g, 0, none⟩) n n) (some ⟨g, 0, none⟩) n zs := by
  subst hg hn
  refine ⟨rfl, Nat.le_refl _, hm, fun _ => ⟨w.heap.size, 0, rfl, by simp, fun j hj => ?_⟩, (all_lt zs).2 hz, fun h => by cases h⟩
  rw [Nat.zero_add, World.cell?_alloc_mark, hC]
  simp [List.getD, List.getElem?_eq_getElem hj]

/-- Two rows as a new list of rows. -/
theorem Ps.two {w : World} {v1 v2 : Value} {a1 a2 : Option Addr} {c1 c2 : Nat} {z1 z2 : List Nat} (h1 : Rd w v1 a1 c1 z1) (h2 : Rd w v2 a2 c2 z2) (g : Nat) (hg : g = w.heap.size) :
    Ps (w.alloc (.cells #[v1, v2] 22)) (some ⟨g, 0, none⟩) 2 [z1, z2] := by
  subst hg
  have hb := bel_alloc w (.cells #[v1, v2] 22)
  refine ⟨Nat.le_refl _, by unfold maxLen; omega, fun _ => ⟨w.heap.size, 0, rfl, by simp, fun j hj => ?_⟩⟩
  have hc := World.cell?_alloc_mark w #[v1, v2] 22 (0, 0)
  match j, hj with
  | 0, _ => exact ⟨v1, a1, c1, hc 0, h1.later hb⟩
  | 1, _ => exact ⟨v2, a2, c2, hc 1, h2.later hb⟩

theorem digest_lt (l : List Nat) : ∀ j, (digest l).getD j 0 < 256 := by
  rw [digest]
  generalize blocks _ _ _ = s
  intro j
  by_cases hj : j < 32
  · rw [bytes_get s j hj]; exact Nat.mod_lt _ (by decide)
  · rw [List.getD, List.getElem?_eq_none (by rw [bytes_length]; omega)]; decide

end Go.Proofs.YtgnjicpmfpgdeaaDoor.Sh
namespace Go.Proofs.YtgnjicpmfpgdeaaDoor.Sh
open Go.ChangeShapes Go.WideShapes Go.ChangeAt Go.RowKit Sha

theorem wf_u8 {x : Int} (h : (Lit.int .u8 x).wf = true) : 0 ≤ x ∧ x ≤ 255 := by
  have h1 : IntKind.u8.min = 0 := rfl
  have h2 : IntKind.u8.max = 255 := rfl
  simp only [Lit.wf, Bool.and_eq_true, decide_eq_true_eq] at h
  omega
theorem wf_u32 {x : Int} (h : (Lit.int .u32 x).wf = true) : 0 ≤ x ∧ x < 4294967296 := by
  have h1 : IntKind.u32.min = 0 := rfl
  have h2 : IntKind.u32.max = 4294967295 := rfl
  simp only [Lit.wf, Bool.and_eq_true, decide_eq_true_eq] at h
  omega
theorem wf_u64 {x : Int} (h : (Lit.int .u64 x).wf = true) : 0 ≤ x ∧ x < 18446744073709551616 := by
  have h1 : IntKind.u64.min = 0 := rfl
  have h2 : IntKind.u64.max = 18446744073709551615 := rfl
  simp only [Lit.wf, Bool.and_eq_true, decide_eq_true_eq] at h
  omega

theorem Tryd.cells82 : Tryd.prog.cellsOf 82 = 64 := by kernel_rfl
theorem Tryd.cells39 : Tryd.prog.cellsOf 39 = 32 := by kernel_rfl
theorem Tryd.laidOut : laidOutB Tryd.prog = true := by kernel_rfl

theorem getD_nat (zs : List Int) (j : Nat) : (zs.map Int.toNat).getD j 0 = (zs.getD j 0).toNat := by
  simp only [List.getD, List.getElem?_map]
  cases zs[j]? <;> rfl

/-- Bytes as a string, in whatever later world. -/
theorem Rd.text {w : World} {v : Value} {a : Option Addr} {cap : Nat} {zs : List Nat} (h : Rd w v a cap zs) (W : World) (hb : Below w.heap.size w W) :
    (convert 22 9 v).run Tryd.prog W = .ok (.string (strOfNums (ints zs))) W := by
  have h' := h.later hb
  rw [h'.val]
  by_cases h0 : 0 < zs.length
  · obtain ⟨b, off, rfl, _, hc⟩ := h'.cells h0
    exact run_convert_bytes_arg (P := Tryd.prog) W 22 5 Tryd.underlying22 Tryd.underlying5 b off zs.length cap (ints zs) (ints_length zs) (fun j hj => by rw [ints_getD]; exact hc j hj) 9 Tryd.underlying9
  · have hz : zs = [] := List.length_eq_zero_iff.1 (by omega)
    subst hz
    rw [run_convert_bytes_string W 22 9 5 a _ cap Tryd.underlying22 Tryd.underlying5 Tryd.underlying9]
    cases a with
    | none => rfl
    | some ad =>
      rw [show ([] : List Nat).length = 0 from rfl]
      rw [run_bytesToString W ad 0 cap [] (by simpa using run_loadCells_list (P := Tryd.prog) W ad [] (by intro j v hj; simp at hj))]
      rfl

/-- A whole array in a block of its own, loaded. -/
theorem load_whole {w : World} {b : Nat} {t tt : TypeId} {k : IntKind} {l : List Nat} {d : TypeDesc} (hb : w.heap[b]? = some (.cells (arr k l) tt (0, 0))) (hu : Tryd.prog.underlying t = some d) (hd : d.isRow = true) (hi : (Tryd.prog.info? t).map (·.size) = some l.length) :
    (Instr.loadAt t (.pointer (some ⟨b, 0, none⟩))).run Tryd.prog w = .ok (.agg (arr k l)) w := by
  refine run_loadAt_mid w b 0 t (lst k l) d (fun j v hv => ?_) hu hd (by rw [lst_length]; exact hi)
  rw [Nat.zero_add, Joins.cell_of_block hb j, ← arr_lst, List.getElem?_toArray]
  exact hv

theorem guard31 : Tryd.prog.eqGuardType Tryd.prog.depth 118 = false := by kernel_rfl
theorem guard25 : Tryd.prog.eqGuardType Tryd.prog.depth 39 = false := by kernel_rfl
theorem guard24 : Tryd.prog.eqGuardType Tryd.prog.depth 38 = false := by kernel_rfl

/-- '==' of two arrays, as an operation. -/
theorem run_eql_op {P : Program} {oi : Oper} {ts : Array Value} {df : List Deferred} {t t2 : TypeId} {x y : Operand} (ho : oi.op = .binOp .eql t x y t2) {xs ys : Array Value} {b : Bool} (hx : Act.eval ⟨ts, df⟩ x = .agg xs) (hy : Act.eval ⟨ts, df⟩ y = .agg ys) (hg : P.eqGuardType P.depth t = false) {w : World}
    (h : (Op.equalIn 10000 t (.agg xs) (.agg ys)).run P w = .ok b w) : (execOp (Act.eval ⟨ts, df⟩) oi).run P w = .ok (.value (.bool b)) w := by
  unfold execOp
  simp only [ho, hx, hy, Sem.run_bind, run_eqGuard_agg w .eql t x y xs ys hg, run_eql_struct w t xs ys, h, Result.andThen_ok]
  rfl
end Go.Proofs.YtgnjicpmfpgdeaaDoor.Sh
namespace Go.Proofs.YtgnjicpmfpgdeaaDoor.Sh
open Go.ChangeShapes Go.WideShapes Go.ChangeAt Go.RowKit Go.Deep Sha

theorem Tryd.cells22 : Tryd.prog.cellsOf 22 = 1 := by kernel_rfl
theorem Tryd.info22 : (Tryd.prog.info? 22).map (fun i => (i.zero, i.size, i.bytes)) = some (some (.slice none 0 0), 1, 24) := by kernel_rfl

theorem Ps.later {w w' : World} {a : Option Addr} {cap : Nat} {l : List (List Nat)} (h : Ps w a cap l) (hb : Below w.heap.size w w') : Ps w' a cap l := by
  refine ⟨h.room, h.most, fun h0 => ?_⟩
  obtain ⟨b, off, ha, hbw, hc⟩ := h.cells h0
  refine ⟨b, off, ha, Nat.lt_of_lt_of_le hbw hb.size, fun j hj => ?_⟩
  obtain ⟨v, a', cap', h1, h2⟩ := hc j hj
  exact ⟨v, a', cap', (hb.cell (p := ⟨b, off + j, none⟩) hbw).trans h1, h2.later hb⟩

theorem Rd.take {w : World} {a : Option Addr} {cap : Nat} {zs : List Nat} (h : Rd w (.slice a zs.length cap) a cap zs) (n : Nat) : Rd w (.slice a (zs.take n).length cap) a cap (zs.take n) := by
  have hroom := h.room
  have hle : (zs.take n).length ≤ zs.length := by simp; omega
  refine ⟨rfl, by omega, h.most, fun h0 => ?_, ?_, h.nil⟩
  · obtain ⟨b, off, ha, hbw, hc⟩ := h.cells (by omega)
    refine ⟨b, off, ha, hbw, fun j hj => ?_⟩
    have e : (zs.take n).getD j 0 = zs.getD j 0 := by
      have : j < n := by simp at hj; omega
      simp [List.getD, List.getElem?_take_of_lt this]
    rw [e]
    exact hc j (by omega)
  · rw [all_lt]
    intro z hz
    exact (all_lt zs).1 h.hi z (List.mem_of_mem_take hz)

theorem row_new (w : World) (v : Value) : ∀ (j : Nat) (u : Value), [v][j]? = some u → (w.alloc (.cells #[v] 22)).cell? (Addr.add ⟨w.heap.size, 0, none⟩ j) = some u := by
  intro j u h
  match j, h with
  | 0, h => simp at h; subst h; simp [Addr.add]
theorem row_cell (a : Option Addr) (n c : Nat) : ∀ u ∈ [Value.slice a n c], u.oneCell' = true := by
  intro u hu
  simp at hu
  subst hu
  rfl

/-- Rows of one's own that read so. -/
structure Vals (w : World) (vals : List Value) (m : List (List Nat)) : Prop where
  len : vals.length = m.length
  each : ∀ j, j < m.length → ∃ a cap, Rd w (vals.getD j undef) a cap (m.getD j [])

theorem Vals.snoc {w : World} {vals : List Value} {m : List (List Nat)} (h : Vals w vals m) {v : Value} {a : Option Addr} {cap : Nat} {y : List Nat} (hr : Rd w v a cap y) : Vals w (vals ++ [v]) (m ++ [y]) := by
  have hl := h.len
  refine ⟨by simp [hl], fun j hj => ?_⟩
  by_cases hjm : j < m.length
  · obtain ⟨a', cap', h'⟩ := h.each j hjm
    refine ⟨a', cap', ?_⟩
    rw [show (vals ++ [v]).getD j undef = vals.getD j undef from by simp [List.getD, List.getElem?_append_left (show j < vals.length by omega)], show (m ++ [y]).getD j [] = m.getD j [] from by simp [List.getD, List.getElem?_append_left hjm]]
    exact h'
  · have : j = m.length := by simp at hj; omega
    subst this
    refine ⟨a, cap, ?_⟩
    rw [show (vals ++ [v]).getD m.length undef = v from by simp [List.getD, ← hl], show (m ++ [y]).getD m.length [] = y from by simp [List.getD]]
    exact hr

theorem ps_own {w W : World} {vals : List Value} {m : List (List Nat)} {B : Nat} {v : Value} (h : Vals w vals m) (hown : W.ownsRow B 22 1 v m.length vals) (hb : Below w.heap.size w W) :
    ∃ a c, v = .slice a m.length c ∧ Ps W a c m := by
  have h' := hown
  obtain ⟨_, hcase⟩ := hown
  rcases hcase with ⟨rfl, h1⟩ | ⟨g, c, cur, rfl, hg, hh, hn, hcap, _, _⟩
  · exact ⟨none, 0, by rw [h1], by omega, by unfold maxLen; omega, fun h0 => by omega⟩
  · have hv := h.len
    refine ⟨_, c, rfl, hn, hcap, fun _ => ⟨g, 0, rfl, (Array.getElem?_eq_some_iff.1 hh).1, fun j hj => ?_⟩⟩
    obtain ⟨a', cap', hr⟩ := h.each j hj
    refine ⟨_, a', cap', ?_, hr.later hb⟩
    rw [Nat.zero_add, h'.cellAt j (by omega), List.getElem?_eq_getElem (show j < vals.length by omega)]
    simp [List.getD, List.getElem?_eq_getElem (show j < vals.length by omega)]

end Go.Proofs.YtgnjicpmfpgdeaaDoor.Sh
