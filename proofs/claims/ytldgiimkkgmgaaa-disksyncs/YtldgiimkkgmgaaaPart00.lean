/-
  A row of integers as an argument of type []int, []byte or []uint16: what it reads as, in which worlds.
-/
import Derived.Test.YtldgiimkkgmgaaaRows
import Derived.Laws.BytesArg
import Derived.Laws.BitsAllLaws
import Derived.WalkKit
import Derived.ProofKit
import Derived.OpenShut
import Derived.Deep.QuietTactic
import Derived.BigQuiet
import Derived.RegionTactic
import Derived.Maps.OwnSet
import Derived.Deep.MidRow
import Derived.Lib.SmallJoins
import Derived.Laws.AppendOwnNone
import Derived.Great.FillDense
import Derived.Deep.WholeRow
import Derived.Great.BuildSlice
import Derived.Laws.CopyOwn
import Derived.Laws.IdiomCopy
import Derived.Lib.SlBuf
import Derived.Laws.Cover2
import Derived.Lib.SlBytesConst
import Derived.Deep.Matrix
import Derived.Deep.Grids
import Derived.OrdersHeld
import Derived.Deep.RegionHeld
namespace Go.Proofs.Ytldgiimkkgmgaaa
open Go.RowKit

theorem hid {p : Prop} (h : p) : Go.RowKit.Hid p := h

/-- The slice at a reads, in the world w, as the numbers zs. -/
structure Ri (w : World) (kd : IntKind) (a : Option Addr) (cap : Nat) (zs : List Int) : Prop where
  room : zs.length ≤ cap
  most : cap ≤ maxLen
  cells : 0 < zs.length → ∃ b off, a = some ⟨b, off, none⟩ ∧ b < w.heap.size ∧ ∀ j, j < zs.length → w.cell? ⟨b, off + j, none⟩ = some (.int kd (zs.getD j 0))
  fits : ∀ j, (Lit.int kd (zs.getD j 0)).wf = true

theorem Ri.later {w w' : World} {kd : IntKind} {a : Option Addr} {cap : Nat} {zs : List Int} (h : Ri w kd a cap zs) (hb : Below w.heap.size w w') : Ri w' kd a cap zs := by
  refine ⟨h.room, h.most, fun h0 => ?_, h.fits⟩
  obtain ⟨b, off, ha, hbw, hc⟩ := h.cells h0
  exact ⟨b, off, ha, Nat.lt_of_lt_of_le hbw hb.size, fun j hj => (hb.cell (p := ⟨b, off + j, none⟩) hbw).trans (hc j hj)⟩

theorem getD_take (zs : List Int) (n j : Nat) (hj : j < n) : (zs.take n).getD j 0 = zs.getD j 0 := by
  simp [List.getD, List.getElem?_take_of_lt hj]
theorem getD_take_out (zs : List Int) (n j : Nat) (hj : ¬ j < n) : (zs.take n).getD j 0 = 0 := by
  have h : (zs.take n).length ≤ j := by simp; omega
  simp [List.getD, List.getElem?_eq_none h]
theorem getD_out (zs : List Int) (j : Nat) (hj : zs.length ≤ j) : zs.getD j 0 = 0 := by
  simp [List.getD, List.getElem?_eq_none hj]

theorem wf_zero (kd : IntKind) : (Lit.int kd 0).wf = true := by cases kd <;> rfl

theorem Ri.take {w : World} {kd : IntKind} {a : Option Addr} {cap : Nat} {zs : List Int} (h : Ri w kd a cap zs) (n : Nat) : Ri w kd a cap (zs.take n) := by
  have hroom := h.room
  have hle : (zs.take n).length ≤ zs.length := by simp; omega
  have hln : (zs.take n).length ≤ n := List.length_take_le _ _
  refine ⟨by omega, h.most, fun h0 => ?_, fun j => ?_⟩
  · obtain ⟨b, off, ha, hbw, hc⟩ := h.cells (by omega)
    refine ⟨b, off, ha, hbw, fun j hj => ?_⟩
    rw [getD_take zs n j (by omega)]
    exact hc j (by omega)
  · by_cases hj : j < n
    · rw [getD_take zs n j hj]; exact h.fits j
    · rw [getD_take_out zs n j hj]; exact wf_zero kd

theorem Bn {w a b : World} (h : Below w.heap.size w a) (h2 : Below a.heap.size a b) : Below w.heap.size w b := h.trans (h2.mono h.size)
theorem bel_drewN {B : Nat} {a w : World} (h : Below B a w) (n : Nat) : Below B a (w.drewN n) := h.trans ⟨rfl, rfl, rfl, Nat.le_refl _, fun _ _ => rfl⟩

theorem Try.laidOut : laidOutB Try.prog = true := by kernel_rfl
theorem Try.cells3 : Try.prog.cellsOf 3 = 1 := by kernel_rfl
theorem Try.cells5 : Try.prog.cellsOf 5 = 1 := by kernel_rfl

theorem wf_u8 {x : Int} (h : (Lit.int .u8 x).wf = true) : 0 ≤ x ∧ x ≤ 255 := by
  have h1 : IntKind.u8.min = 0 := rfl
  have h2 : IntKind.u8.max = 255 := rfl
  simp only [Lit.wf, Bool.and_eq_true, decide_eq_true_eq] at h
  omega
theorem wf_u16 {x : Int} (h : (Lit.int .u16 x).wf = true) : 0 ≤ x ∧ x ≤ 65535 := by
  have h1 : IntKind.u16.min = 0 := rfl
  have h2 : IntKind.u16.max = 65535 := rfl
  simp only [Lit.wf, Bool.and_eq_true, decide_eq_true_eq] at h
  omega
theorem wf_i64 {x : Int} (h : (Lit.int .i64 x).wf = true) : -9223372036854775808 ≤ x ∧ x ≤ 9223372036854775807 := by
  have h1 : IntKind.i64.min = -9223372036854775808 := rfl
  have h2 : IntKind.i64.max = 9223372036854775807 := rfl
  simp only [Lit.wf, Bool.and_eq_true, decide_eq_true_eq] at h
  omega
theorem wf_mk_i64 {x : Int} (h1 : -9223372036854775808 ≤ x) (h2 : x ≤ 9223372036854775807) : (Lit.int .i64 x).wf = true := by
  have e1 : IntKind.i64.min = -9223372036854775808 := rfl
  have e2 : IntKind.i64.max = 9223372036854775807 := rfl
  simp only [Lit.wf, Bool.and_eq_true, decide_eq_true_eq]
  omega
theorem wf_mk_u8 {x : Int} (h1 : 0 ≤ x) (h2 : x ≤ 255) : (Lit.int .u8 x).wf = true := by
  have e1 : IntKind.u8.min = 0 := rfl
  have e2 : IntKind.u8.max = 255 := rfl
  simp only [Lit.wf, Bool.and_eq_true, decide_eq_true_eq]
  omega
theorem wf_mk_u16 {x : Int} (h1 : 0 ≤ x) (h2 : x ≤ 65535) : (Lit.int .u16 x).wf = true := by
  have e1 : IntKind.u16.min = 0 := rfl
  have e2 : IntKind.u16.max = 65535 := rfl
  simp only [Lit.wf, Bool.and_eq_true, decide_eq_true_eq]
  omega

set_option maxRecDepth 100000 in
open Go.ChangeShapes Go.WideShapes Go.ChangeAt in
/-- An argument that is a row of integers, as it is handed in. -/
theorem open_ri {H : Type} {enc : TypeId × Value → H} {W : World} {base : Nat} {t e : TypeId} {kd : IntKind} {v : Value} {d : DataW H} {p : List MemPlace} (ht : Try.prog.underlying t = some (.slice e)) (he : Try.prog.underlying e = some (.int kd)) (hc : Try.prog.cellsOf e = 1)
    (hv : Value.okWide Try.prog W .any base t v) (h : DataW.Trod enc Try.prog W 0 (fun _ => true) true t v d p) (hlt : ∀ x ∈ p, x.block < W.heap.size) :
    ∃ a cap zs, v = .slice a (zs : List Int).length cap ∧ Ri W kd a cap zs := by
  obtain ⟨a0, len, cap, rfl⟩ := okWide_slice ht hv
  obtain ⟨fuel, hf⟩ := h
  rcases open_ints ht he hc hf with ⟨hcs, hx⟩ | ⟨a, len', cap', zs, hcs, _, hl, hm, hz, hx, hcell, hwz⟩
  · simp [Value.cells] at hcs
    obtain ⟨rfl, rfl, rfl⟩ := hcs
    exact ⟨none, 0, [], rfl, Nat.le_refl _, by unfold maxLen; omega, fun h => absurd h (by simp), fun j => by simp; exact wf_zero kd⟩
  · simp [Value.cells] at hcs
    obtain ⟨rfl, rfl, rfl⟩ := hcs
    simp only [Prod.mk.injEq] at hx
    obtain ⟨_, rfl⟩ := hx
    simp only [if_true] at hz
    have hlen : (zs.take len).length = len := by simp; omega
    refine ⟨some a, cap, zs.take len, by rw [hlen], by omega, hm, fun h0 => ?_, fun j => ?_⟩
    · rw [hlen] at h0 ⊢
      obtain ⟨b, off, spot⟩ := a
      have hspot : spot = none := by simpa [Addr.add] using World.cell?_spot (hcell 0 (by omega))
      subst hspot
      have hbW : b < W.heap.size := hlt (.cell b off) (MemPlace.mem_row.2 ⟨0, by omega, by simp⟩)
      refine ⟨b, off, rfl, hbW, fun j hj => ?_⟩
      rw [← add_plain, getD_take zs len j hj]
      exact hcell j (by omega)
    · by_cases hj : j < (zs.take len).length
      · have hm : (zs.take len).getD j 0 ∈ zs := by
          simp only [List.getD, List.getElem?_eq_getElem hj, Option.getD_some]
          exact List.mem_of_mem_take (List.getElem_mem hj)
        exact hwz _ hm
      · rw [getD_out _ _ (by omega)]; exact wf_zero kd

/-- An own row of numbers reads as them. -/
theorem Ri.own {w : World} {base : Nat} {e : TypeId} {kd : IntKind} {v : Value} {zs : List Int} (h : w.ownsRow base e 1 v zs.length (zs.map (Value.int kd))) (hf : ∀ j, (Lit.int kd (zs.getD j 0)).wf = true) :
    ∃ a cap, v = .slice a zs.length cap ∧ Ri w kd a cap zs := by
  obtain ⟨hl, hn | ⟨g, cap, cur, rfl, hb, hg, hnc, hcm, hcur, htk⟩⟩ := id h
  · obtain ⟨rfl, h0⟩ := hn
    refine ⟨none, 0, by rw [h0], by omega, by unfold maxLen; omega, fun h1 => by omega, hf⟩
  · refine ⟨some ⟨g, 0, none⟩, cap, rfl, hnc, hcm, fun h0 => ⟨g, 0, rfl, ?_, fun j hj => ?_⟩, hf⟩
    · exact (Array.getElem?_eq_some_iff.1 hg).1
    · rw [Nat.zero_add, h.cellAt j (by omega), List.getElem?_map]
      simp [List.getD, List.getElem?_eq_getElem hj]

end Go.Proofs.Ytldgiimkkgmgaaa
/-
  Blocks of 512 bytes, and disk's two maps in memory: what they hold, and what the steps on a map make of them.
-/
namespace Go.Proofs.Ytldgiimkkgmgaaa
open Go.RowKit Go.WideMaps

theorem bel_alloc (w : World) (o : Obj) : Below w.heap.size w (w.alloc o) := (Below.refl _ _).alloc (Nat.le_refl _) o
theorem heap_new (w : World) (o : Obj) : (w.alloc o).heap[w.heap.size]? = some o := (MapKept.heap_alloc w o).1
theorem heap_old (w : World) (o : Obj) {i : Nat} {x : Obj} (h : w.heap[i]? = some x) : (w.alloc o).heap[i]? = some x := (Below.heap_alloc w o i (Array.getElem?_eq_some_iff.1 h).1).trans h

/-- Bytes as cells; a block as a value. -/
def bytesV (b : List Int) : List Value := b.map (Value.int .u8)
def blkV (b : List Int) : Value := .agg (bytesV b).toArray
def z512 : List Int := List.replicate 512 0
structure Blk (b : List Int) : Prop where
  len : b.length = 512
  fits : ∀ z ∈ b, 0 ≤ z ∧ z ≤ 255
theorem blk_z : Blk z512 := ⟨List.length_replicate .., fun z hz => by rw [List.eq_of_mem_replicate hz]; omega⟩
theorem bytesV_len (b : List Int) : (bytesV b).length = b.length := by simp [bytesV]
theorem bytesV_one (b : List Int) : ∀ v ∈ bytesV b, v.oneCell' = true := by
  intro v hv
  simp only [bytesV, List.mem_map] at hv
  obtain ⟨z, _, rfl⟩ := hv
  rfl
theorem bytesV_inj {a b : List Int} (h : bytesV a = bytesV b) : a = b := by
  unfold bytesV at h
  exact (List.map_inj_right (fun x y e => by injection e)).1 h
theorem blkV_inj {a b : List Int} (h : blkV a = blkV b) : a = b := by
  unfold blkV at h
  injection h with h
  exact bytesV_inj (List.toArray_inj h)

/-- A map's element as it lies there. -/
def rdV : Value → Option (DataW Value × List MemPlace) := fun v => some (.held v, [])
theorem Try.keyed3 : Maps.Keyed Try.prog 3 := Maps.int_keyed Try.underlying3
def kI (i : Int) : Lit := .int .i64 i
def okI (i : Int) : Prop := (Lit.int .i64 i).wf = true
theorem key_i {i : Int} (h : okI i) : keyOf Try.prog 3 (.int .i64 i) = some (kI i) := Maps.keyOf_int_mk Try.underlying3 h
theorem kI_ne {i j : Int} (h : i ≠ j) : kI i ≠ kI j := fun e => h (by unfold kI at e; injection e)
theorem kI_is (i : Int) : WideAt.IsKeyLit (kI i) := trivial

theorem Try.zeros73 : (Try.prog.info? 73).map (fun i => (i.zero, i.size)) = some (some (blkV z512), 512) := by kernel_rfl
theorem Try.zero73 (w : World) : (zeroValue 73).run Try.prog w = .ok (blkV z512) w := by
  have h := Try.zeros73
  cases hi : Try.prog.info? 73 with
  | none => rw [hi] at h; cases h
  | some i =>
    rw [hi] at h
    simp only [Option.map_some, Option.some.injEq, Prod.mk.injEq] at h
    simp [zeroValue, typeInfo, hi, h.1]
theorem Try.size73 : (Try.prog.info? 73).map (·.size) = some 512 := by kernel_rfl
theorem Try.size83 : (Try.prog.info? 83).map (·.size) = some 513 := by kernel_rfl
theorem Try.zero3 (w : World) : (zeroValue 3).run Try.prog w = .ok (.int .i64 0) w := by
  have h : (Try.prog.info? 3).map (fun i => (i.zero, i.size)) = some (some (.int .i64 0), 1) := by kernel_rfl
  cases hi : Try.prog.info? 3 with
  | none => rw [hi] at h; cases h
  | some i =>
    rw [hi] at h
    simp only [Option.map_some, Option.some.injEq, Prod.mk.injEq] at h
    simp [zeroValue, typeInfo, hi, h.1]

/-- What lasts: at each number a block, one of zeros where the map has none. -/
def Ml (W : World) (b n : Nat) (L : Int → List Int) : Prop :=
  ∃ D : DataW Value, W.ownsMap Try.prog 3 rdV b n D ∧ ∀ i, D.atKey (kI i) (.held (blkV z512)) = .held (blkV (L i))
/-- Where each block's last open write is. -/
def Mn (W : World) (b n : Nat) (f : Int → Option Nat) : Prop :=
  ∃ D : DataW Value, W.ownsMap Try.prog 3 rdV b n D ∧ ∀ i, Maps.has D (kI i) = (f i).isSome ∧ D.atKey (kI i) (.held (.int .i64 0)) = .held (.int .i64 (((f i).getD 0 : Nat) : Int))

theorem own_bel {W W' : World} {b n m : Nat} {D : DataW Value} (h : W.ownsMap Try.prog 3 rdV b n D) (hb : W'.heap[b]? = W.heap[b]?) (hn : n ≤ m) : W'.ownsMap Try.prog 3 rdV b m D := by
  obtain ⟨es, clock, hh, F, hs, hD⟩ := h
  exact ⟨es, clock, hb.trans hh, F, Nat.le_trans hs hn, hD⟩
theorem Ml.later {W W' : World} {b n m : Nat} {L : Int → List Int} (h : Ml W b n L) (hb : W'.heap[b]? = W.heap[b]?) (hn : n ≤ m) : Ml W' b m L := by
  obtain ⟨D, hD, hq⟩ := h
  exact ⟨D, own_bel hD hb hn, hq⟩
theorem Mn.later {W W' : World} {b n m : Nat} {f : Int → Option Nat} (h : Mn W b n f) (hb : W'.heap[b]? = W.heap[b]?) (hn : n ≤ m) : Mn W' b m f := by
  obtain ⟨D, hD, hq⟩ := h
  exact ⟨D, own_bel hD hb hn, hq⟩
theorem Ml.map {W : World} {b n : Nat} {L : Int → List Int} (h : Ml W b n L) : ∃ es clock, W.heap[b]? = some (.map es clock) := by
  obtain ⟨D, ⟨es, clock, hh, _⟩, _⟩ := h
  exact ⟨es, clock, hh⟩
theorem Mn.map {W : World} {b n : Nat} {f : Int → Option Nat} (h : Mn W b n f) : ∃ es clock, W.heap[b]? = some (.map es clock) := by
  obtain ⟨D, ⟨es, clock, hh, _⟩, _⟩ := h
  exact ⟨es, clock, hh⟩
theorem Ml.new (w : World) : Ml (w.alloc (.map #[] 0)) w.heap.size 0 (fun _ => z512) := ⟨.map [], World.ownsMap_made w _ _ _, fun _ => rfl⟩
theorem Mn.new (w : World) : Mn (w.alloc (.map #[] 0)) w.heap.size 0 (fun _ => none) := ⟨.map [], World.ownsMap_made w _ _ _, fun _ => ⟨rfl, rfl⟩⟩

theorem Ml.look {W : World} {b n : Nat} {L : Int → List Int} (h : Ml W b n L) {i : Int} (hi : okI i) : (Instr.lookup 59 (.map (some b)) (.int .i64 i) false).run Try.prog W = .ok (blkV (L i)) W := by
  obtain ⟨D, hD, hat⟩ := h
  obtain ⟨v, ps, hrun, hv⟩ := hD.lookup Try.keyed3 Try.underlying59 (Try.zero73 W) (zd := .held (blkV z512)) (zp := []) rfl (key_i hi)
  rw [hat i] at hv
  unfold rdV at hv
  simp only [Option.some.injEq, Prod.mk.injEq, DataW.held.injEq] at hv
  rw [hrun, hv.1]
theorem Mn.look {W : World} {b n : Nat} {f : Int → Option Nat} (h : Mn W b n f) {i : Int} (hi : okI i) : (Instr.lookup 77 (.map (some b)) (.int .i64 i) true).run Try.prog W = .ok (.tuple #[.int .i64 (((f i).getD 0 : Nat) : Int), .bool (f i).isSome]) W := by
  obtain ⟨D, hD, hat⟩ := h
  obtain ⟨v, ps, hrun, hv⟩ := hD.look_ok Try.keyed3 Try.underlying77 (Try.zero3 W) (zd := .held (.int .i64 0)) (zp := []) rfl (key_i hi)
  rw [(hat i).2] at hv
  unfold rdV at hv
  simp only [Option.some.injEq, Prod.mk.injEq, DataW.held.injEq] at hv
  rw [hrun, hv.1, (hat i).1]

def setI {α : Type} (f : Int → α) (i : Int) (x : α) : Int → α := fun j => if j = i then x else f j
theorem setI_same {α : Type} (f : Int → α) (i : Int) (x : α) : setI f i x i = x := if_pos rfl
theorem setI_ne {α : Type} (f : Int → α) {i j : Int} (x : α) (h : j ≠ i) : setI f i x j = f j := if_neg h
theorem mapTurned_other {W W' : World} {b i : Nat} (h : W.mapTurned W' b) (hi : i ≠ b) : W'.heap[i]? = W.heap[i]? := by
  obtain ⟨es, clock, es', clock', hb, rfl⟩ := h
  exact ChangeMaps.heap_setBlock_other hb _ hi

theorem Ml.put {W : World} {b n : Nat} {L : Int → List Int} (h : Ml W b n L) {i : Int} (hi : okI i) (hn : n < maxLen) (x : List Int) : ∃ W', (Instr.mapUpdate 59 (.map (some b)) (.int .i64 i) (blkV x)).run Try.prog W = .ok () W' ∧ Ml W' b (n + 1) (setI L i x) ∧ W.mapTurned W' b := by
  obtain ⟨D, hD, hat⟩ := h
  obtain ⟨W', hrun, hown, hg⟩ := hD.store Try.keyed3 Try.underlying59 hn (key_i hi) (val := blkV x) (d := .held (blkV x)) (ps := []) rfl
  refine ⟨W', hrun, ⟨_, hown, fun j => ?_⟩, hg⟩
  by_cases e : j = i
  · subst e
    rw [Maps.atKey_put_same hD.isMap (kI_is j), setI_same]
  · rw [Maps.atKey_put_other (kI_ne e), hat j, setI_ne L x e]
theorem Ml.del {W : World} {b n : Nat} {L : Int → List Int} (h : Ml W b n L) {i : Int} (hi : okI i) (ty : TypeId) : ∃ W', (Builtin.delete_ #[59, 3] ty #[.map (some b), .int .i64 i]).run Try.prog W = .ok (.tuple #[]) W' ∧ Ml W' b n (setI L i z512) ∧ W.mapTurned W' b := by
  obtain ⟨D, hD, hat⟩ := h
  obtain ⟨W', hrun, hown, hg⟩ := hD.drop Try.keyed3 Try.underlying59 (key_i hi) ty
  refine ⟨W', hrun, ⟨_, hown, fun j => ?_⟩, hg⟩
  by_cases e : j = i
  · subst e
    rw [Maps.atKey_del_same, setI_same]
  · rw [Maps.atKey_del_other (kI_ne e), hat j, setI_ne L z512 e]
theorem Mn.put {W : World} {b n : Nat} {f : Int → Option Nat} (h : Mn W b n f) {i : Int} (hi : okI i) (hn : n < maxLen) (k : Nat) : ∃ W', (Instr.mapUpdate 77 (.map (some b)) (.int .i64 i) (.int .i64 (k : Int))).run Try.prog W = .ok () W' ∧ Mn W' b (n + 1) (setI f i (some k)) ∧ W.mapTurned W' b := by
  obtain ⟨D, hD, hat⟩ := h
  obtain ⟨W', hrun, hown, hg⟩ := hD.store Try.keyed3 Try.underlying77 hn (key_i hi) (val := .int .i64 (k : Int)) (d := .held (.int .i64 (k : Int))) (ps := []) rfl
  refine ⟨W', hrun, ⟨_, hown, fun j => ?_⟩, hg⟩
  by_cases e : j = i
  · subst e
    rw [Maps.atKey_put_same hD.isMap (kI_is j), Maps.has_put_same hD.isMap (kI_is j), setI_same]
    exact ⟨rfl, rfl⟩
  · rw [Maps.atKey_put_other (kI_ne e), Maps.has_put_other (kI_ne e), setI_ne f (some k) e]
    exact hat j
theorem Mn.clear {W : World} {b n : Nat} {f : Int → Option Nat} (h : Mn W b n f) (ty : TypeId) : ∃ W', (Builtin.clear_ #[77] ty #[.map (some b)]).run Try.prog W = .ok (.tuple #[]) W' ∧ Mn W' b n (fun _ => none) ∧ W.mapTurned W' b := by
  obtain ⟨D, ⟨es, clock, hb, F, hs, hD⟩, hat⟩ := h
  refine ⟨ChangeMaps.setBlock W b (.map #[] clock), ?_, ⟨.map [], ⟨#[], clock, ChangeMaps.heap_setBlock_same hb _, ⟨by simp, MapKept.stamped_empty _, by simp⟩, Nat.zero_le _, rfl⟩, fun _ => ⟨rfl, rfl⟩⟩, ⟨es, clock, #[], clock, hb, rfl⟩⟩
  simp [Builtin.clear_, run_underlying Try.underlying77, MapKept.run_getObj_map hb, MapKept.run_setObj_map _ hb, Result.andThen, ChangeMaps.setBlock]
end Go.Proofs.Ytldgiimkkgmgaaa
/-
  A device in memory, and the calls that ask it or set its fuse.
-/
namespace Go.Proofs.Ytldgiimkkgmgaaa
open Go.RowKit

/-- An open write's cells; those of a row of them. -/
def opC (x : Int × List Int) : List Value := .int .i64 x.1 :: bytesV x.2
def opsC (O : List (Int × List Int)) : List Value := O.flatMap opC
theorem opC_len {x : Int × List Int} (h : Blk x.2) : (opC x).length = 513 := by simp [opC, bytesV_len, h.len]
theorem opC_one (x : Int × List Int) : ∀ v ∈ opC x, v.oneCell' = true := by
  intro v hv
  rcases List.mem_cons.1 hv with rfl | h
  · rfl
  · exact bytesV_one _ v h
theorem opsC_app (O : List (Int × List Int)) (x : Int × List Int) : opsC (O ++ [x]) = opsC O ++ opC x := by simp [opsC]
theorem opsC_at : ∀ (O : List (Int × List Int)), (∀ x ∈ O, Blk x.2) → ∀ k j, k < O.length → j < 513 → (opsC O)[k * 513 + j]? = (opC (O.getD k (0, [])))[j]?
  | [], _, k, j, hk, _ => absurd hk (Nat.not_lt_zero _)
  | x :: O, h, 0, j, _, hj => by
    have hl := opC_len (h x (by simp))
    show (opC x ++ opsC O)[0 * 513 + j]? = _
    rw [Nat.zero_mul, Nat.zero_add, List.getElem?_append_left (by omega)]
    rfl
  | x :: O, h, k + 1, j, hk, hj => by
    have hl := opC_len (h x (by simp))
    show (opC x ++ opsC O)[(k + 1) * 513 + j]? = _
    rw [List.getElem?_append_right (by omega), hl, show (k + 1) * 513 + j - 513 = k * 513 + j from by omega, opsC_at O (fun y hy => h y (by simp [hy])) k j (by simpa using hk) hj]
    rfl

/-- The last of the open writes of a block. -/
def lastO (O : List (Int × List Int)) (i : Int) : Option Nat := ((List.range O.length).filter (fun k => decide ((O.getD k (0, [])).1 = i))).getLast?
theorem lastO_nil : lastO [] = fun _ => none := rfl
theorem lastO_app (O : List (Int × List Int)) (i : Int) (b : List Int) : lastO (O ++ [(i, b)]) = setI (lastO O) i (some O.length) := by
  funext j
  have e1 : (List.range O.length).filter (fun k => decide (((O ++ [(i, b)]).getD k (0, [])).1 = j)) = (List.range O.length).filter (fun k => decide ((O.getD k (0, [])).1 = j)) := by
    refine List.filter_congr (fun k hk => ?_)
    have hk' := List.mem_range.1 hk
    have e0 : (O ++ [(i, b)]).getD k (0, []) = O.getD k (0, []) := by simp only [List.getD, List.getElem?_append_left hk']
    rw [e0]
  have e2 : ((O ++ [(i, b)]).getD O.length (0, [])).1 = i := by simp [List.getD]
  unfold lastO
  rw [List.length_append, List.length_singleton, List.range_succ, List.filter_append, e1]
  by_cases h : j = i
  · subst h
    rw [setI_same, List.filter_cons_of_pos (by simp), List.filter_nil, List.getLast?_append]
    rfl
  · rw [setI_ne _ _ h, List.filter_cons_of_neg (by rw [e2]; simpa using Ne.symm h), List.filter_nil, List.append_nil]
/-- What a block holds. -/
def holdF (L : Int → List Int) (O : List (Int × List Int)) (i : Int) : List Int := O.foldl (fun b x => if x.1 = i then x.2 else b) (L i)
theorem holdF_app (L : Int → List Int) (O : List (Int × List Int)) (x : Int × List Int) (i : Int) : holdF L (O ++ [x]) i = if x.1 = i then x.2 else holdF L O i := by simp [holdF, List.foldl_append]
theorem holdF_last (L : Int → List Int) (i : Int) : ∀ (n : Nat) (O : List (Int × List Int)), O.length = n → (match lastO O i with | none => holdF L O i = L i | some k => k < O.length ∧ holdF L O i = (O.getD k (0, [])).2) := by
  intro n
  induction n with
  | zero =>
    intro O h
    have : O = [] := List.length_eq_zero_iff.1 h
    subst this
    rfl
  | succ n ih =>
    intro O h
    have hne : O ≠ [] := by rintro rfl; cases h
    obtain ⟨P, x, rfl⟩ : ∃ P x, O = P ++ [x] := ⟨O.dropLast, O.getLast hne, (List.dropLast_concat_getLast hne).symm⟩
    obtain ⟨xi, xb⟩ := x
    have hP := ih P (by simpa using h)
    rw [lastO_app, holdF_app]
    by_cases e : i = xi
    · subst e
      rw [setI_same, if_pos rfl]
      simp [List.getD]
    · rw [setI_ne _ _ e, if_neg (Ne.symm e)]
      cases hl : lastO P i with
      | none => rw [hl] at hP; exact hP
      | some k =>
        rw [hl] at hP
        dsimp only at hP ⊢
        refine ⟨by rw [List.length_append]; omega, ?_⟩
        rw [hP.2]
        simp only [List.getD, List.getElem?_append_left hP.1]
theorem holdF_blk {L : Int → List Int} {O : List (Int × List Int)} (hL : ∀ i, Blk (L i)) (hO : ∀ x ∈ O, Blk x.2) (i : Int) : Blk (holdF L O i) := by
  have h := holdF_last L i O.length O rfl
  cases hl : lastO O i with
  | none => rw [hl] at h; dsimp only at h; rw [h]; exact hL i
  | some k =>
    rw [hl] at h
    dsimp only at h
    rw [h.2]
    have hm : O.getD k (0, []) ∈ O := by
      simp only [List.getD, List.getElem?_eq_getElem h.1, Option.getD_some]
      exact List.getElem_mem h.1
    exact hO _ hm

/-- What disk's calls leave as it was: all below base, and all but devices and rows of open writes. -/
structure Fr (base : Nat) (w w' : World) : Prop where
  bel : Below base w w'
  typ : ∀ (i : Nat) (cs : Array Value) (t : TypeId) (fr : Nat × Nat), t ≠ 79 → t ≠ 83 → w.heap[i]? = some (.cells cs t fr) → w'.heap[i]? = some (.cells cs t fr)
theorem Fr.trans {base : Nat} {a b c : World} (h : Fr base a b) (k : Fr base b c) : Fr base a c := ⟨h.bel.trans k.bel, fun i cs t fr h1 h2 h3 => k.typ i cs t fr h1 h2 (h.typ i cs t fr h1 h2 h3)⟩
theorem Fr.of_below {base : Nat} {w w' : World} (h : Below w.heap.size w w') (hb : base ≤ w.heap.size) : Fr base w w' := ⟨h.mono hb, fun i _ _ _ _ _ hi => (h.block i (Array.getElem?_eq_some_iff.1 hi).1).trans hi⟩
theorem Fr.refl (base : Nat) (w : World) : Fr base w w := ⟨Below.refl _ _, fun _ _ _ _ _ _ h => h⟩
theorem Fr.drew {base : Nat} {w w' : World} (h : Fr base w w') : Fr base w w'.drew := ⟨h.bel.drew, h.typ⟩
theorem Fr.map {base b : Nat} {w w' w'' : World} (h : Fr base w w') (hb : base ≤ b) (hm : w'.mapTurned w'' b) : Fr base w w'' := by
  obtain ⟨es, clock, hh⟩ : ∃ es clock, w'.heap[b]? = some (.map es clock) := by obtain ⟨es, clock, _, _, hh, _⟩ := hm; exact ⟨es, clock, hh⟩
  have hg := hm.grown
  refine ⟨h.bel.trans ⟨hg.os, hg.tape, hg.output, hg.size, fun i hi => mapTurned_other hm (by omega)⟩, fun i cs t fr h1 h2 h3 => ?_⟩
  have h4 := h.typ i cs t fr h1 h2 h3
  rw [mapTurned_other hm (by rintro rfl; rw [hh] at h4; cases h4)]
  exact h4

def devC (size : Int) (ml v mn : Value) (fuse : Int) (down : Bool) : Array Value := #[.int .i64 size, ml, v, mn, .int .i64 fuse, .bool down]
def Dk (W : World) (gd gv : Nat) : Prop := W.heap[gd]? = some (.cells #[.pointer (some ⟨gv, 0, none⟩)] 52 (0, 0))
def Dc (W : World) (gv : Nat) (size : Int) (ml v mn : Value) (fuse : Int) (down : Bool) : Prop := W.heap[gv]? = some (.cells (devC size ml v mn fuse down) 79 (0, 0))
theorem Dk.cell {W : World} {gd gv : Nat} (k : Dk W gd gv) : W.cell? ⟨gd, 0, none⟩ = some (.pointer (some ⟨gv, 0, none⟩)) := Joins.cell_of_block k 0
theorem Dc.cells {W : World} {gv : Nat} {size : Int} {ml v mn : Value} {fuse : Int} {down : Bool} (k : Dc W gv size ml v mn fuse down) :
    W.cell? ⟨gv, 0, none⟩ = some (.int .i64 size) ∧ W.cell? ⟨gv, 1, none⟩ = some ml ∧ W.cell? ⟨gv, 2, none⟩ = some v ∧ W.cell? ⟨gv, 3, none⟩ = some mn ∧ W.cell? ⟨gv, 4, none⟩ = some (.int .i64 fuse) ∧ W.cell? ⟨gv, 5, none⟩ = some (.bool down) :=
  ⟨Joins.cell_of_block k 0, Joins.cell_of_block k 1, Joins.cell_of_block k 2, Joins.cell_of_block k 3, Joins.cell_of_block k 4, Joins.cell_of_block k 5⟩
theorem Dc.unfrozen {W : World} {gv : Nat} {size : Int} {ml v mn : Value} {fuse : Int} {down : Bool} (k : Dc W gv size ml v mn fuse down) (i : Nat) : W.frozen? ⟨gv, i, none⟩ = false := Joins.unfrozen_of_block k i
theorem Dc.lt {W : World} {gv : Nat} {size : Int} {ml v mn : Value} {fuse : Int} {down : Bool} (k : Dc W gv size ml v mn fuse down) : gv < W.heap.size := (Array.getElem?_eq_some_iff.1 k).1
theorem Dk.lt {W : World} {gd gv : Nat} (k : Dk W gd gv) : gd < W.heap.size := (Array.getElem?_eq_some_iff.1 k).1

theorem made_ok (gd gv : Nat) (w : World) (k : Dk w gd gv) : Calls Try.prog 42 #[.pointer (some ⟨gd, 0, none⟩)] w fun e w' => e = .returned (.bool true) ∧ w' = w := by
  have c0 := k.cell
  clear k
  go_enter Try.func42, Try.ntmps42
  go_wp2_with fail
  go_ret
  exact ⟨rfl, rfl⟩
theorem made_nil (w : World) : Calls Try.prog 42 #[.pointer none] w fun e w' => e = .returned (.bool false) ∧ w' = w := by
  go_enter Try.func42, Try.ntmps42
  go_wp2_with fail
  go_ret
  exact ⟨rfl, rfl⟩
theorem made_zero (gd : Nat) (w : World) (k : w.cell? ⟨gd, 0, none⟩ = some (.pointer none)) : Calls Try.prog 42 #[.pointer (some ⟨gd, 0, none⟩)] w fun e w' => e = .returned (.bool false) ∧ w' = w := by
  go_enter Try.func42, Try.ntmps42
  go_wp2_with fail
  go_ret
  exact ⟨rfl, rfl⟩
theorem up_ok (gd gv : Nat) (size : Int) (ml v mn : Value) (fuse : Int) (w : World) (k : Dk w gd gv) (c : Dc w gv size ml v mn fuse false) : Calls Try.prog 35 #[.pointer (some ⟨gd, 0, none⟩)] w fun e w' => e = .returned (.int .i64 0) ∧ w' = w := by
  have HM := hid (made_ok gd gv w k)
  have c0 := k.cell
  obtain ⟨_, _, _, _, _, c5⟩ := c.cells
  clear k c
  go_enter Try.func35, Try.ntmps35
  go_wp2_with fail
  refine HM.out.mono ?_
  rintro _ w1 ⟨rfl, hw⟩
  obtain rfl := hw.symm
  clear hw HM
  go_wp2_with fail
  go_ret
  exact ⟨rfl, rfl⟩
theorem up_down (gd gv : Nat) (size : Int) (ml v mn : Value) (fuse : Int) (w : World) (k : Dk w gd gv) (c : Dc w gv size ml v mn fuse true) : Calls Try.prog 35 #[.pointer (some ⟨gd, 0, none⟩)] w fun e w' => e = .returned (.int .i64 91) ∧ w' = w := by
  have HM := hid (made_ok gd gv w k)
  have c0 := k.cell
  obtain ⟨_, _, _, _, _, c5⟩ := c.cells
  clear k c
  go_enter Try.func35, Try.ntmps35
  go_wp2_with fail
  refine HM.out.mono ?_
  rintro _ w1 ⟨rfl, hw⟩
  obtain rfl := hw.symm
  clear hw HM
  go_wp2_with fail
  go_ret
  exact ⟨rfl, rfl⟩
/-- A device that nobody made: nil, or zero. -/
def Nob (w : World) (p : Value) : Prop := p = .pointer none ∨ ∃ gd, p = .pointer (some ⟨gd, 0, none⟩) ∧ w.cell? ⟨gd, 0, none⟩ = some (.pointer none)
theorem made_no (p : Value) (w : World) (k : Nob w p) : Calls Try.prog 42 #[p] w fun e w' => e = .returned (.bool false) ∧ w' = w := by
  rcases k with rfl | ⟨gd, rfl, h⟩
  · exact made_nil w
  · exact made_zero gd w h
theorem up_no (p : Value) (w : World) (k : Nob w p) : Calls Try.prog 35 #[p] w fun e w' => e = .returned (.int .i64 4) ∧ w' = w := by
  have HM := hid (made_no p w k)
  clear k
  go_enter Try.func35, Try.ntmps35
  go_wp2_with fail
  refine HM.out.mono ?_
  rintro _ w1 ⟨rfl, hw⟩
  obtain rfl := hw.symm
  clear hw HM
  go_wp2_with fail
  go_ret
  exact ⟨rfl, rfl⟩
def hasE (size i : Int) : Int := if 0 ≤ i ∧ i < size then 0 else 5
theorem has_ok (gd gv : Nat) (size i : Int) (ml v mn : Value) (fuse : Int) (w : World) (k : Dk w gd gv) (c : Dc w gv size ml v mn fuse false) : Calls Try.prog 33 #[.pointer (some ⟨gd, 0, none⟩), .int .i64 i] w fun e w' => e = .returned (.int .i64 (hasE size i)) ∧ w' = w := by
  have HM := hid (up_ok gd gv size ml v mn fuse w k c)
  have c0 := k.cell
  obtain ⟨c1, _, _, _, _, _⟩ := c.cells
  clear k c
  by_cases h1 : i < 0
  · rw [show hasE size i = 5 from if_neg (by omega)]
    go_enter Try.func33, Try.ntmps33
    go_wp2_with fail
    refine HM.out.mono ?_
    rintro _ w1 ⟨rfl, hw⟩
    obtain rfl := hw.symm
    clear hw HM
    go_wp2_with fail
    go_ret
    exact ⟨rfl, rfl⟩
  · by_cases h2 : i < size
    · rw [show hasE size i = 0 from if_pos ⟨by omega, h2⟩]
      have h3 : ¬ size ≤ i := by omega
      go_enter Try.func33, Try.ntmps33
      go_wp2_with fail
      refine HM.out.mono ?_
      rintro _ w1 ⟨rfl, hw⟩
      obtain rfl := hw.symm
      clear hw HM
      go_wp2_with fail
      go_ret
      exact ⟨rfl, rfl⟩
    · rw [show hasE size i = 5 from if_neg (by omega)]
      have h3 : size ≤ i := by omega
      go_enter Try.func33, Try.ntmps33
      go_wp2_with fail
      refine HM.out.mono ?_
      rintro _ w1 ⟨rfl, hw⟩
      obtain rfl := hw.symm
      clear hw HM
      go_wp2_with fail
      go_ret
      exact ⟨rfl, rfl⟩
theorem has_e (p : Value) (i e0 : Int) (w : World) (he : e0 ≠ 0) (hu : Calls Try.prog 35 #[p] w fun e w' => e = .returned (.int .i64 e0) ∧ w' = w) : Calls Try.prog 33 #[p, .int .i64 i] w fun e w' => e = .returned (.int .i64 e0) ∧ w' = w := by
  have HM := hid hu
  clear hu
  go_enter Try.func33, Try.ntmps33
  go_wp2_with fail
  refine HM.out.mono ?_
  rintro _ w1 ⟨rfl, hw⟩
  obtain rfl := hw.symm
  clear hw HM
  go_wp2_with fail
  go_ret
  exact ⟨rfl, rfl⟩
end Go.Proofs.Ytldgiimkkgmgaaa
