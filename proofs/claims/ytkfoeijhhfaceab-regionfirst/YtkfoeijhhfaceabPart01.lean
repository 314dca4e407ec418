/-
  A row of integers as an argument of type []int, []byte or []uint16: what it reads as, in which worlds.
-/
import Derived.Test.YtkfoeijhhfaceabRows
import Derived.Test.YtkfoeijhhfaceabPart00
import Derived.RangeFuncNested
import Derived.RangeFuncBound
import Derived.RangeFuncCalls
import Derived.RangeFuncLeaves
import Derived.Shelf.Abstract
import Derived.Shelf.RegionOpen
import Derived.OwnWalkIn
import Derived.TacticsInMore
import Derived.TacticsIn
import Derived.LoopNIn
import Derived.LoopIn
import Derived.OrdersIn
import Derived.OrdersHeld
import Derived.Deep.Quiet
import Derived.Deep.RegionHeld
import Derived.Deep.Slices
import Derived.Deep.MidRow
import Derived.Deep.WholeRow
import Derived.Great.BuildSlice
import Derived.Great.FillDense
import Derived.Maps.AppendAt
import Derived.Laws.AppendOwnNone
import Derived.Laws.Cover2
import Derived.Lib.SmallJoins
import Derived.StillTailTactics
import Derived.Laws.EntriesVeiled
import Derived.Laws.BytesArg
import Derived.Laws.BitsAllLaws
import Derived.WalkKit
import Derived.ProofKit
import Derived.OpenShut
import Derived.Deep.QuietTactic
import Derived.BigQuiet
import Derived.RegionTactic
namespace Go.Proofs.Ytkfoeijhhfaceab
open Go.RowKit

theorem hid {p : Prop} (h : p) : Go.RowKit.Hid p := h

/-- The slice at a reads, in the world w, as the numbers zs. -/
structure Ri (w : World) (kd : IntKind) (a : Option Addr) (cap : Nat) (zs : List Int) : Prop where
  room : zs.length ≤ cap
  most : cap ≤ maxLen
  cells : 0 < zs.length → ∃ b off, a = some ⟨b, off, none⟩ ∧ b < w.heap.size ∧ ∀ j, j < zs.length → w.cell? ⟨b, off + j, none⟩ = some (.int kd (zs.getD j 0))
  fits : ∀ j, (Lit.int kd (zs.getD j 0)).wf = true

theorem Ri.later {w w' : World} {kd : IntKind} {a : Option Addr} {cap : Nat} {zs : List Int} (h : Ri w kd a cap zs) (hb : Below w.heap.size w w') : Ri w' kd a cap zs := by
  refine ⟨h.room, h.most, fun h0 => ?_, h.fits⟩
  obtain ⟨b, off, ha, hbw, hc⟩ := h.cells h0
  exact ⟨b, off, ha, Nat.lt_of_lt_of_le hbw hb.size, fun j hj => (hb.cell (p := ⟨b, off + j, none⟩) hbw).trans (hc j hj)⟩

theorem getD_take (zs : List Int) (n j : Nat) (hj : j < n) : (zs.take n).getD j 0 = zs.getD j 0 := by
  simp [List.getD, List.getElem?_take_of_lt hj]
theorem getD_take_out (zs : List Int) (n j : Nat) (hj : ¬ j < n) : (zs.take n).getD j 0 = 0 := by
  have h : (zs.take n).length ≤ j := by simp; omega
  simp [List.getD, List.getElem?_eq_none h]
theorem getD_out (zs : List Int) (j : Nat) (hj : zs.length ≤ j) : zs.getD j 0 = 0 := by
  simp [List.getD, List.getElem?_eq_none hj]

theorem wf_zero (kd : IntKind) : (Lit.int kd 0).wf = true := by cases kd <;> rfl

theorem Ri.take {w : World} {kd : IntKind} {a : Option Addr} {cap : Nat} {zs : List Int} (h : Ri w kd a cap zs) (n : Nat) : Ri w kd a cap (zs.take n) := by
  have hroom := h.room
  have hle : (zs.take n).length ≤ zs.length := by simp; omega
  have hln : (zs.take n).length ≤ n := List.length_take_le _ _
  refine ⟨by omega, h.most, fun h0 => ?_, fun j => ?_⟩
  · obtain ⟨b, off, ha, hbw, hc⟩ := h.cells (by omega)
    refine ⟨b, off, ha, hbw, fun j hj => ?_⟩
    rw [getD_take zs n j (by omega)]
    exact hc j (by omega)
  · by_cases hj : j < n
    · rw [getD_take zs n j hj]; exact h.fits j
    · rw [getD_take_out zs n j hj]; exact wf_zero kd

theorem Bn {w a b : World} (h : Below w.heap.size w a) (h2 : Below a.heap.size a b) : Below w.heap.size w b := h.trans (h2.mono h.size)
theorem bel_drewN {B : Nat} {a w : World} (h : Below B a w) (n : Nat) : Below B a (w.drewN n) := h.trans ⟨rfl, rfl, rfl, Nat.le_refl _, fun _ _ => rfl⟩

theorem Try.laidOut : laidOutB Try.prog = true := by kernel_rfl
theorem Try.cells3 : Try.prog.cellsOf 3 = 1 := by kernel_rfl
theorem Try.cells5 : Try.prog.cellsOf 5 = 1 := by kernel_rfl

theorem wf_u8 {x : Int} (h : (Lit.int .u8 x).wf = true) : 0 ≤ x ∧ x ≤ 255 := by
  have h1 : IntKind.u8.min = 0 := rfl
  have h2 : IntKind.u8.max = 255 := rfl
  simp only [Lit.wf, Bool.and_eq_true, decide_eq_true_eq] at h
  omega
theorem wf_u16 {x : Int} (h : (Lit.int .u16 x).wf = true) : 0 ≤ x ∧ x ≤ 65535 := by
  have h1 : IntKind.u16.min = 0 := rfl
  have h2 : IntKind.u16.max = 65535 := rfl
  simp only [Lit.wf, Bool.and_eq_true, decide_eq_true_eq] at h
  omega
theorem wf_i64 {x : Int} (h : (Lit.int .i64 x).wf = true) : -9223372036854775808 ≤ x ∧ x ≤ 9223372036854775807 := by
  have h1 : IntKind.i64.min = -9223372036854775808 := rfl
  have h2 : IntKind.i64.max = 9223372036854775807 := rfl
  simp only [Lit.wf, Bool.and_eq_true, decide_eq_true_eq] at h
  omega
theorem wf_mk_i64 {x : Int} (h1 : -9223372036854775808 ≤ x) (h2 : x ≤ 9223372036854775807) : (Lit.int .i64 x).wf = true := by
  have e1 : IntKind.i64.min = -9223372036854775808 := rfl
  have e2 : IntKind.i64.max = 9223372036854775807 := rfl
  simp only [Lit.wf, Bool.and_eq_true, decide_eq_true_eq]
  omega
theorem wf_mk_u8 {x : Int} (h1 : 0 ≤ x) (h2 : x ≤ 255) : (Lit.int .u8 x).wf = true := by
  have e1 : IntKind.u8.min = 0 := rfl
  have e2 : IntKind.u8.max = 255 := rfl
  simp only [Lit.wf, Bool.and_eq_true, decide_eq_true_eq]
  omega
theorem wf_mk_u16 {x : Int} (h1 : 0 ≤ x) (h2 : x ≤ 65535) : (Lit.int .u16 x).wf = true := by
  have e1 : IntKind.u16.min = 0 := rfl
  have e2 : IntKind.u16.max = 65535 := rfl
  simp only [Lit.wf, Bool.and_eq_true, decide_eq_true_eq]
  omega

open Go.ChangeShapes Go.WideShapes Go.ChangeAt in
/-- An argument that is a row of integers, as it is handed in. -/
theorem open_ri {H : Type} {enc : TypeId × Value → H} {W : World} {base : Nat} {t e : TypeId} {kd : IntKind} {v : Value} {d : DataW H} {p : List MemPlace} (ht : Try.prog.underlying t = some (.slice e)) (he : Try.prog.underlying e = some (.int kd)) (hc : Try.prog.cellsOf e = 1)
    (hv : Value.okWide Try.prog W .any base t v) (h : DataW.Trod enc Try.prog W 0 (fun _ => true) true t v d p) (hlt : ∀ x ∈ p, x.block < W.heap.size) :
    ∃ a cap zs, v = .slice a (zs : List Int).length cap ∧ Ri W kd a cap zs := by
  obtain ⟨a0, len, cap, rfl⟩ := okWide_slice ht hv
  obtain ⟨fuel, hf⟩ := h
  rcases open_ints ht he hc hf with ⟨hcs, hx⟩ | ⟨a, len', cap', zs, hcs, _, hl, hm, hz, hx, hcell, hwz⟩
  · simp [Value.cells] at hcs
    obtain ⟨rfl, rfl, rfl⟩ := hcs
    exact ⟨none, 0, [], rfl, Nat.le_refl _, by unfold maxLen; omega, fun h => absurd h (by simp), fun j => by simp; exact wf_zero kd⟩
  · simp [Value.cells] at hcs
    obtain ⟨rfl, rfl, rfl⟩ := hcs
    simp only [Prod.mk.injEq] at hx
    obtain ⟨_, rfl⟩ := hx
    simp only [if_true] at hz
    have hlen : (zs.take len).length = len := by simp; omega
    refine ⟨some a, cap, zs.take len, by rw [hlen], by omega, hm, fun h0 => ?_, fun j => ?_⟩
    · rw [hlen] at h0 ⊢
      obtain ⟨b, off, spot⟩ := a
      have hspot : spot = none := by simpa [Addr.add] using World.cell?_spot (hcell 0 (by omega))
      subst hspot
      have hbW : b < W.heap.size := hlt (.cell b off) (MemPlace.mem_row.2 ⟨0, by omega, by simp⟩)
      refine ⟨b, off, rfl, hbW, fun j hj => ?_⟩
      rw [← add_plain, getD_take zs len j hj]
      exact hcell j (by omega)
    · by_cases hj : j < (zs.take len).length
      · have hm : (zs.take len).getD j 0 ∈ zs := by
          simp only [List.getD, List.getElem?_eq_getElem hj, Option.getD_some]
          exact List.mem_of_mem_take (List.getElem_mem hj)
        exact hwz _ hm
      · rw [getD_out _ _ (by omega)]; exact wf_zero kd

/-- An own row of numbers reads as them. -/
theorem Ri.own {w : World} {base : Nat} {e : TypeId} {kd : IntKind} {v : Value} {zs : List Int} (h : w.ownsRow base e 1 v zs.length (zs.map (Value.int kd))) (hf : ∀ j, (Lit.int kd (zs.getD j 0)).wf = true) :
    ∃ a cap, v = .slice a zs.length cap ∧ Ri w kd a cap zs := by
  obtain ⟨hl, hn | ⟨g, cap, cur, rfl, hb, hg, hnc, hcm, hcur, htk⟩⟩ := id h
  · obtain ⟨rfl, h0⟩ := hn
    refine ⟨none, 0, by rw [h0], by omega, by unfold maxLen; omega, fun h1 => by omega, hf⟩
  · refine ⟨some ⟨g, 0, none⟩, cap, rfl, hnc, hcm, fun h0 => ⟨g, 0, rfl, ?_, fun j hj => ?_⟩, hf⟩
    · exact (Array.getElem?_eq_some_iff.1 hg).1
    · rw [Nat.zero_add, h.cellAt j (by omega), List.getElem?_map]
      simp [List.getD, List.getElem?_eq_getElem hj]

theorem bel_alloc (w : World) (o : Obj) : Below w.heap.size w (w.alloc o) := (Below.refl _ _).alloc (Nat.le_refl _) o
theorem heap_new (w : World) (o : Obj) : (w.alloc o).heap[w.heap.size]? = some o := by
  show (w.heap.push o)[w.heap.size]? = _
  simp
theorem heap_old (w : World) (o : Obj) {i : Nat} {x : Obj} (h : w.heap[i]? = some x) : (w.alloc o).heap[i]? = some x := (Below.heap_alloc w o i (Array.getElem?_eq_some_iff.1 h).1).trans h
theorem grown_of_below {w w' : World} (h : Below w.heap.size w w') : w.grownBy w' none := ⟨h.os, h.tape, h.output, h.size, fun k hk _ => h.block k hk⟩
theorem own_later {w w' : World} {base : Nat} {e : TypeId} {size : Nat} {v : Value} {n : Nat} {xs : List Value} (h : w.ownsRow base e size v n xs) (hb : Below w.heap.size w w') : w'.ownsRow base e size v n xs :=
  h.kept (grown_of_below hb) (by cases v.ownBlock <;> simp)
theorem own_block {w : World} {base : Nat} {e : TypeId} {size : Nat} {v : Value} {n : Nat} {xs : List Value} (h : w.ownsRow base e size v n xs) : ∀ g, v.ownBlock = some g → base ≤ g ∧ g < w.heap.size := by
  intro g hg
  rcases h.2 with ⟨rfl, _⟩ | ⟨g', cap, cur, rfl, hb, hh, _⟩
  · cases hg
  · simp only [Value.ownBlock, Option.some.injEq] at hg
    subst hg
    exact ⟨hb, (Array.getElem?_eq_some_iff.1 hh).1⟩
theorem setCell_same {w : World} {g i : Nat} {cur : Array Value} {t : TypeId} {fr : Nat × Nat} {v : Value} (hg : w.heap[g]? = some (.cells cur t fr)) (hv : cur[i]? = some v) : w.setCell ⟨g, i, none⟩ v = w := by
  have h1 := setCell_eq_setRow w g i cur t fr v hg
  have e : cur.setIfInBounds i v = cur := by
    apply Array.ext_getElem?
    intro j
    rw [Array.getElem?_setIfInBounds]
    split
    · rename_i h
      subst h
      split
      · exact hv.symm
      · rename_i hb; rw [Array.getElem?_eq_none (by omega)] at hv; cases hv
    · rfl
  rw [h1, e]
  exact setRow_self w g cur t fr hg
end Go.Proofs.Ytkfoeijhhfaceab
/-
  A row of extents as an argument of type []api.Extent: what it reads as, in which worlds.
-/
namespace Go.Proofs.Ytkfoeijhhfaceab
open Go.ChangeShapes Go.WideShapes Go.ChangeAt Go.RowKit Go.Deep

def ex0 : Ext := (0, 0)
/-- The slice at a reads, in the world w, as the extents l. -/
structure Rx (w : World) (a : Option Addr) (cap : Nat) (l : List Ext) : Prop where
  room : l.length ≤ cap
  most : cap ≤ maxLen
  none0 : a = none → cap = 0
  cells : 0 < l.length → ∃ b off, a = some ⟨b, off, none⟩ ∧ b < w.heap.size ∧ ∀ j, j < l.length → w.cell? ⟨b, off + j * 2, none⟩ = some (.int .i64 (l.getD j ex0).1) ∧ w.cell? ⟨b, off + j * 2 + 1, none⟩ = some (.int .i64 (l.getD j ex0).2)
  fits : ∀ j, j < l.length → (Lit.int .i64 (l.getD j ex0).1).wf = true ∧ (Lit.int .i64 (l.getD j ex0).2).wf = true

theorem Rx.later {w w' : World} {a : Option Addr} {cap : Nat} {l : List Ext} (h : Rx w a cap l) (hb : Below w.heap.size w w') : Rx w' a cap l := by
  refine ⟨h.room, h.most, h.none0, fun h0 => ?_, h.fits⟩
  obtain ⟨b, off, ha, hbw, hc⟩ := h.cells h0
  refine ⟨b, off, ha, Nat.lt_of_lt_of_le hbw hb.size, fun j hj => ?_⟩
  obtain ⟨c0, c1⟩ := hc j hj
  exact ⟨(hb.cell (p := ⟨b, off + j * 2, none⟩) hbw).trans c0, (hb.cell (p := ⟨b, off + j * 2 + 1, none⟩) hbw).trans c1⟩

theorem Rx.take {w : World} {a : Option Addr} {cap : Nat} {l : List Ext} (h : Rx w a cap l) (n : Nat) : Rx w a cap (l.take n) := by
  have hr := h.room
  have hle : (l.take n).length ≤ l.length := by simp; omega
  have e : ∀ j, j < (l.take n).length → (l.take n).getD j ex0 = l.getD j ex0 := fun j hj => by
    have : j < n := by simp at hj; omega
    simp [List.getD, List.getElem?_take_of_lt this]
  refine ⟨by omega, h.most, h.none0, fun h0 => ?_, fun j hj => by rw [e j hj]; exact h.fits j (by omega)⟩
  obtain ⟨b, off, ha, hbw, hc⟩ := h.cells (by omega)
  exact ⟨b, off, ha, hbw, fun j hj => by rw [e j hj]; exact hc j (by omega)⟩

theorem Rx.drop {w : World} {a : Option Addr} {cap n : Nat} {l : List Ext} (h : Rx w a cap l) (hn : n ≤ l.length) : Rx w (if cap = n then a else a.map fun x => x.add (n * 2)) (cap - n) (l.drop n) ∧ (n < l.length → ∃ b off, a = some ⟨b, off, none⟩ ∧ (if cap = n then a else a.map fun x => x.add (n * 2)) = some ⟨b, off + n * 2, none⟩) := by
  have hr := h.room
  have hm := h.most
  have e : ∀ j, (l.drop n).getD j ex0 = l.getD (n + j) ex0 := fun j => by simp [List.getD]
  have hfit : ∀ j, j < (l.drop n).length → (Lit.int .i64 ((l.drop n).getD j ex0).1).wf = true ∧ (Lit.int .i64 ((l.drop n).getD j ex0).2).wf = true := fun j hj => by
    rw [e]; rw [List.length_drop] at hj; exact h.fits _ (by omega)
  have hne : (if cap = n then a else a.map fun x => x.add (n * 2)) = none → cap - n = 0 := fun h2 => by
    by_cases hc : cap = n
    · omega
    · rw [if_neg hc] at h2
      have : a = none := by cases a with
        | none => rfl
        | some x => cases h2
      have := h.none0 this
      omega
  by_cases hlt : n < l.length
  · obtain ⟨b, off, ha, hbw, hc⟩ := h.cells (by omega)
    have ea : (if cap = n then a else a.map fun x => x.add (n * 2)) = some ⟨b, off + n * 2, none⟩ := by
      rw [if_neg (by omega), ha]
      simp only [Option.map_some, add_plain]
    refine ⟨⟨by rw [List.length_drop]; omega, by omega, hne, fun h0 => ⟨b, off + n * 2, ea, hbw, fun j hj => ?_⟩, hfit⟩, fun _ => ⟨b, off, ha, ea⟩⟩
    rw [List.length_drop] at hj
    rw [e]
    obtain ⟨c0, c1⟩ := hc (n + j) (by omega)
    rw [show off + n * 2 + j * 2 = off + (n + j) * 2 from by omega]
    exact ⟨c0, c1⟩
  · exact ⟨⟨by rw [List.length_drop]; omega, by omega, hne, fun h0 => by rw [List.length_drop] at h0; omega, hfit⟩, fun h => absurd h hlt⟩
theorem Try.cells29 : Try.prog.cellsOf 29 = 2 := by kernel_rfl

/-- An argument of type []api.Extent, as it is handed in. -/
theorem open_rx {H : Type} {enc : TypeId × Value → H} {W : World} {base : Nat} {v : Value} {d : DataW H} {p : List MemPlace} (hv : Value.okWide Try.prog W .any base 22 v)
    (h : DataW.Trod enc Try.prog W 0 (fun _ => true) true 22 v d p) (hlt : ∀ x ∈ p, x.block < W.heap.size) : ∃ a cap l, v = .slice a (l : List Ext).length cap ∧ Rx W a cap l := by
  obtain ⟨a0, len, cap, rfl⟩ := okWide_slice Try.underlying22 hv
  obtain ⟨fuel, hf⟩ := h
  rcases open_slice Try.underlying22 hf with ⟨hcs, hx⟩ | ⟨a, len', cap', m, n, D, Pl, hcs, _, hl, hm, hmm, hx, hel⟩
  · simp [Value.cells] at hcs
    obtain ⟨rfl, rfl, rfl⟩ := hcs
    exact ⟨none, 0, [], rfl, Nat.le_refl _, by unfold maxLen; omega, fun _ => rfl, fun h => absurd h (by simp), fun j hj => by simp at hj⟩
  · simp [Value.cells] at hcs
    obtain ⟨rfl, rfl, rfl⟩ := hcs
    rw [if_pos rfl] at hmm
    subst hmm
    rw [Try.cells29] at hel
    have hp : p = MemPlace.row a (m * Try.prog.cellsOf 29) ++ (List.range m).flatMap Pl := congrArg Prod.snd hx
    have key : ∀ j, j < len → ∃ y : Ext, (Lit.int .i64 y.1).wf = true ∧ (Lit.int .i64 y.2).wf = true ∧ W.cell? ((a.add (j * 2)).add 0) = some (.int .i64 y.1) ∧ W.cell? ((a.add (j * 2)).add 1) = some (.int .i64 y.2) := by
      intro j hj
      obtain ⟨cs', h1, h2⟩ := hel j (by omega)
      obtain ⟨_, hcl, hcc⟩ := World.cells?_some h1
      obtain ⟨xs, k, hk, hxy, _, hxl, hf⟩ := DataW.trod_struct Try.underlying29 h2
      match xs, hxl, cs', hcl with
      | [y0, y1], _, [v0, v1], _ =>
        have g0 : DataW.trod enc Try.prog W 0 (fun _ => true) true k 3 (List.take (Try.prog.cellsOf 3) (List.drop 0 [v0, v1])) = some y0 := hf 0 _ rfl
        have g1 : DataW.trod enc Try.prog W 0 (fun _ => true) true k 3 (List.take (Try.prog.cellsOf 3) (List.drop 1 [v0, v1])) = some y1 := hf 1 _ rfl
        rw [Try.cells3] at g0 g1
        obtain ⟨z0, e0, _, f0⟩ := DataW.trod_int Try.underlying3 g0
        obtain ⟨z1, e1, _, f1⟩ := DataW.trod_int Try.underlying3 g1
        have e0' : v0 = .int .i64 z0 := by simpa using e0
        have e1' : v1 = .int .i64 z1 := by simpa using e1
        subst e0' e1'
        exact ⟨(z0, z1), f0, f1, hcc 0 (by omega), hcc 1 (by omega)⟩
    obtain ⟨Y, hY⟩ := choose_lt key
    have hlen : ((List.range len).map Y).length = len := by simp
    have hgd : ∀ j, j < len → ((List.range len).map Y).getD j ex0 = Y j := fun j hj => by simp [List.getD, hj]
    refine ⟨some a, m, (List.range len).map Y, by rw [hlen], by rw [hlen]; exact hl, hm, (fun h => by cases h), fun h0 => ?_, fun j hj => ?_⟩
    · rw [hlen] at h0
      obtain ⟨b, off, spot⟩ := a
      have hc0 := (hY 0 h0).2.2.1
      have hspot : spot = none := by
        have := World.cell?_spot hc0
        simpa [Addr.add] using this
      subst hspot
      have hbW : b < W.heap.size := hlt (.cell b off) (by
        rw [hp, List.mem_append]
        refine Or.inl (MemPlace.mem_row.2 ⟨0, ?_, by simp⟩)
        rw [Try.cells29]; omega)
      refine ⟨b, off, rfl, hbW, fun j hj => ?_⟩
      rw [hlen] at hj
      rw [hgd j hj]
      obtain ⟨_, _, c0, c1⟩ := hY j hj
      rw [add_plain, add_plain] at c0 c1
      exact ⟨c0, c1⟩
    · rw [hlen] at hj
      rw [hgd j hj]
      exact ⟨(hY j hj).1, (hY j hj).2.1⟩

/-- An argument of type api.Extent, as it is handed in. -/
theorem open_ex {H : Type} {enc : TypeId × Value → H} {W : World} {base : Nat} {v : Value} {d : DataW H} {p : List MemPlace} (hv : Value.okWide Try.prog W .any base 29 v)
    (h : DataW.Trod enc Try.prog W 0 (fun _ => true) true 29 v d p) : ∃ x : Ext, v = .agg #[.int .i64 x.1, .int .i64 x.2] ∧ (Lit.int .i64 x.1).wf = true ∧ (Lit.int .i64 x.2).wf = true := by
  obtain ⟨v0, v1, y0, y1, n, rfl, _, _, g0, g1⟩ := Joins.open_agg2 Try.underlying29 (by kernel_rfl) Try.cells29 hv h
  obtain ⟨z0, e0, _, f0⟩ := DataW.trod_int Try.underlying3 g0
  obtain ⟨z1, e1, _, f1⟩ := DataW.trod_int Try.underlying3 g1
  have e0' : v0 = .int .i64 z0 := by simpa using e0
  have e1' : v1 = .int .i64 z1 := by simpa using e1
  subst e0' e1'
  exact ⟨(z0, z1), rfl, f0, f1⟩
def extC (x : Ext) : List Value := [.int .i64 x.1, .int .i64 x.2]
def extV (x : Ext) : Array Value := #[.int .i64 x.1, .int .i64 x.2]
theorem extC_len (l : List Ext) : (l.flatMap extC).length = l.length * 2 := by
  induction l with
  | nil => rfl
  | cons t l ih => rw [List.flatMap_cons, List.length_append, ih]; simp [extC]; omega
theorem extC_one (x : Ext) : ∀ u ∈ extC x, u.oneCell' = true := by
  intro u hu
  simp [extC] at hu
  rcases hu with rfl | rfl <;> rfl
theorem extC_snoc (l : List Ext) (x : Ext) : (l ++ [x]).flatMap extC = l.flatMap extC ++ extC x := by simp
theorem flat_get (l : List Ext) : ∀ j, j < l.length → (l.flatMap extC)[j * 2]? = some (.int .i64 (l.getD j ex0).1) ∧ (l.flatMap extC)[j * 2 + 1]? = some (.int .i64 (l.getD j ex0).2) := by
  induction l with
  | nil => intro j hj; simp at hj
  | cons t l ih =>
    intro j hj
    rw [List.flatMap_cons]
    cases j with
    | zero => exact ⟨rfl, rfl⟩
    | succ j =>
      have hl : (extC t).length = 2 := rfl
      obtain ⟨h0, h1⟩ := ih j (by simp at hj; omega)
      have e : ∀ i, (extC t ++ l.flatMap extC)[(j + 1) * 2 + i]? = (l.flatMap extC)[j * 2 + i]? := fun i => by
        rw [List.getElem?_append_right (by omega), hl]
        congr 1
        omega
      have eg : (t :: l).getD (j + 1) ex0 = l.getD j ex0 := rfl
      rw [eg]
      refine ⟨?_, ?_⟩
      · rw [← h0]; exact e 0
      · rw [← h1]; exact e 1
/-- Numbers of extents that an int holds. -/
def Fit (l : List Ext) : Prop := ∀ x, x ∈ l → (Lit.int .i64 x.1).wf = true ∧ (Lit.int .i64 x.2).wf = true
theorem fit_get {l : List Ext} (h : Fit l) : ∀ j, j < l.length → (Lit.int .i64 (l.getD j ex0).1).wf = true ∧ (Lit.int .i64 (l.getD j ex0).2).wf = true := fun j hj => by
  have e : l.getD j ex0 = l[j] := by simp [List.getD, hj]
  rw [e]
  exact h _ (List.getElem_mem hj)
theorem Rx.fit {w : World} {a : Option Addr} {cap : Nat} {l : List Ext} (h : Rx w a cap l) : Fit l := fun x hx => by
  obtain ⟨j, hj, rfl⟩ := List.getElem_of_mem hx
  have := h.fits j hj
  simpa [List.getD, hj] using this
theorem row_fit {b : Int} {l : List Ext} (h : Row b l) : Fit l := fun x hx => by
  have h1 := h.nrm.pos x hx
  have h2 := h.upto x hx
  have h3 := h.hi
  exact ⟨wf_mk_i64 (by omega) (by omega), wf_mk_i64 (by omega) (by omega)⟩
theorem Rx.own {w : World} {base : Nat} {v : Value} {l : List Ext} (h : w.ownsRow base 29 2 v l.length (l.flatMap extC)) (hf : Fit l) : ∃ a cap, v = .slice a l.length cap ∧ Rx w a cap l := by
  obtain ⟨hl, hn | ⟨g, cap, cur, rfl, hb, hg, hnc, hcm, hcur, htk⟩⟩ := id h
  · obtain ⟨rfl, h0⟩ := hn
    refine ⟨none, 0, by rw [h0], by simp [h0], by unfold maxLen; omega, fun _ => rfl, fun h1 => by simp [h0] at h1, fit_get hf⟩
  · refine ⟨some ⟨g, 0, none⟩, cap, rfl, by simpa using hnc, hcm, (fun h => by cases h), fun h0 => ⟨g, 0, rfl, (Array.getElem?_eq_some_iff.1 hg).1, fun j hj => ?_⟩, fit_get hf⟩
    obtain ⟨h0, h1⟩ := flat_get l j hj
    simp only [Nat.zero_add]
    exact ⟨(h.cellAt _ (by omega)).trans h0, (h.cellAt _ (by omega)).trans h1⟩
theorem few_any (a : Option Addr) (cap : Nat) (l : List Ext) (w : World) (hr : Rx w a cap l) :
    Calls Try.prog 5 #[.slice a l.length cap] w fun e w' => e = .returned (.slice a (l.take 5000).length cap) ∧ w' = w := by
  have hcap := hr.room
  have hmax := hr.most
  unfold maxLen at hmax
  have hcells := hr.cells
  clear hr
  by_cases h : 5000 < l.length
  · have hl : (l.take 5000).length = 5000 := by simp; omega
    obtain ⟨b, off, rfl, hbw, hc⟩ := hcells (by omega)
    clear hcells hc hbw
    rw [hl]
    generalize l.length = len at *
    clear hl
    go_enter Try.func5, Try.ntmps5
    go_wp2
    go_ret
    exact ⟨rfl, rfl⟩
  · have hl : (l.take 5000).length = l.length := by simp; omega
    rw [hl]
    generalize l.length = len at *
    clear hcells hl
    go_enter Try.func5, Try.ntmps5
    go_wp2
    go_ret
    exact ⟨rfl, rfl⟩
end Go.Proofs.Ytkfoeijhhfaceab
/-
  Small contracts: end, lies, and the document's Lies.
-/
namespace Go.Proofs.Ytkfoeijhhfaceab
open Go.RowKit

theorem end_word (x : Ext) (w : World) (h1 : -9223372036854775808 ≤ x.1 + x.2) (h2 : x.1 + x.2 ≤ 9223372036854775807) :
    Calls Try.prog 18 #[.agg (extV x)] w fun e w' => e = .returned (.int .i64 (x.1 + x.2)) ∧ Below w.heap.size w w' := by
  obtain ⟨p, q⟩ := x
  unfold extV
  dsimp only at *
  have HB := hid (bel_alloc w (.cells #[.int .i64 p, .int .i64 q] 29))
  go_enter Try.func18, Try.ntmps18
  go_wp2
  go_ret
  exact ⟨rfl, HB.out⟩

theorem lies_word (b : Int) (x : Ext) (w : World) (hb : 0 ≤ b) (hb2 : b ≤ 4096) (hx : (Lit.int .i64 x.1).wf = true) :
    Calls Try.prog 17 #[.int .i64 b, .agg (extV x)] w fun e w' => e = .returned (.bool (lieB b x)) ∧ Below w.heap.size w w' := by
  obtain ⟨p, q⟩ := x
  unfold extV
  dsimp only at *
  have hx' := wf_i64 hx
  have HB := hid (bel_alloc w (.cells #[.int .i64 p, .int .i64 q] 29))
  have HL : Hid (lieB b (p, q) = (decide (0 ≤ p) && decide (1 ≤ q) && decide (q ≤ b - p))) := rfl
  rw [HL.out]
  clear HL hx
  by_cases h1 : 0 ≤ p
  · have e1 : decide (0 ≤ p) = true := decide_eq_true h1
    by_cases h2 : 1 ≤ q
    · have e2 : decide (1 ≤ q) = true := decide_eq_true h2
      rw [e1, e2]
      go_enter Try.func17, Try.ntmps17
      go_wp2
      go_ret
      exact ⟨by simp, HB.out⟩
    · have e2 : decide (1 ≤ q) = false := decide_eq_false h2
      rw [e1, e2]
      go_enter Try.func17, Try.ntmps17
      go_wp2
      go_ret
      exact ⟨by simp, HB.out⟩
  · have e1 : decide (0 ≤ p) = false := decide_eq_false h1
    rw [e1]
    go_enter Try.func17, Try.ntmps17
    go_wp2
    go_ret
    exact ⟨by simp, HB.out⟩

theorem lies_ref (b : Int) (x : Ext) (w : World) (hb : 0 ≤ b) (hb2 : b ≤ 4096) (hx : (Lit.int .i64 x.1).wf = true) :
    Calls Try.prog 10 #[.int .i64 b, .agg (extV x)] w fun e w' => e = .returned (.bool (lieB b x)) ∧ Below w.heap.size w w' := by
  obtain ⟨p, q⟩ := x
  unfold extV
  dsimp only at *
  have hx' := wf_i64 hx
  have HB := hid (bel_alloc w (.cells #[.int .i64 p, .int .i64 q] 29))
  have HL : Hid (lieB b (p, q) = (decide (0 ≤ p) && decide (1 ≤ q) && decide (q ≤ b - p))) := rfl
  rw [HL.out]
  clear HL hx
  by_cases h1 : 0 ≤ p
  · have e1 : decide (0 ≤ p) = true := decide_eq_true h1
    by_cases h2 : 1 ≤ q
    · have e2 : decide (1 ≤ q) = true := decide_eq_true h2
      rw [e1, e2]
      by_cases h3 : p ≤ b
      · go_enter Try.func10, Try.ntmps10
        go_wp2
        go_ret
        exact ⟨by simp, HB.out⟩
      · have e3 : decide (q ≤ b - p) = false := decide_eq_false (by omega)
        rw [e3]
        go_enter Try.func10, Try.ntmps10
        go_wp2
        go_ret
        exact ⟨by simp, HB.out⟩
    · have e2 : decide (1 ≤ q) = false := decide_eq_false h2
      rw [e1, e2]
      go_enter Try.func10, Try.ntmps10
      go_wp2
      go_ret
      exact ⟨by simp, HB.out⟩
  · have e1 : decide (0 ≤ p) = false := decide_eq_false h1
    rw [e1]
    go_enter Try.func10, Try.ntmps10
    go_wp2
    go_ret
    exact ⟨by simp, HB.out⟩
end Go.Proofs.Ytkfoeijhhfaceab
/-
  Regions that draw their order inside a round of a range over a function: what is shown of them outside a round serves there too.
-/
namespace Go.Proofs.Ytkfoeijhhfaceab

/-- No operation of a region defers a call. -/
def noDefer (ops : Array Oper) : Bool := ops.all fun o => match o.op with | .defer _ => false | _ => true

theorem noDefer_spec {ops : Array Oper} (h : noDefer ops = true) {i : Nat} {o : Oper} (hi : ops[i]? = some o) (c : _) : o.op ≠ .defer c := by
  unfold noDefer at h
  rw [Array.all_eq_true] at h
  obtain ⟨hlt, rfl⟩ := Array.getElem?_eq_some_iff.1 hi
  have := h i hlt
  intro e
  rw [e] at this
  simp at this

theorem calls_round {P : Program} {l n : Nat} {f : FuncId} {args : Array Value} {w : World} {R : Ending → World → Prop} (h : Calls P f args w R) : CallsIn (Fence.wide.inRound l) n P f args w R :=
  CallsIn.inRound l (callsIn_wide.2 h)

theorem rows_round {P : Program} {l n : Nat} {row : String} {args : Array Value} {w : World} {R : Value → World → Prop} (h : Rows P row args w R) : RowsIn (Fence.wide.inRound l) n P row args w R := by
  intro c cs _
  obtain ⟨v, w', r, s⟩ := h c cs
  exact ⟨v, w', r, (stepsIn_wide (P := P)).2 s⟩

theorem oper_round {P : Program} {l n : Nat} {o : Oper} {a : Act} {w : World} {K K' : Act → World → Prop} {Q : Exit → Act → World → Prop} (hd : ∀ c, o.op ≠ .defer c) (hK : ∀ a w, K a w → K' a w)
    (h : o.wp P a w K Q) : o.wpIn (Fence.wide.inRound l) n P a w K' Q := by
  refine ⟨fun _ _ => trivial, ?_⟩
  have e : (Fence.wide.inRound l).round = some l := rfl
  rw [e, Oper.semAt_some l _ o hd]
  unfold Oper.wp at h
  generalize (execOp a.eval o).run P w = r at *
  cases r with
  | ok nx w' =>
    cases nx <;> simp only [Oper.upon] at h <;> simp only [Oper.uponIn]
    case value => exact hK _ _ h
    case skip => exact hK _ _ h
    case defer => exact hK _ _ h
    case enter f args =>
      refine ⟨fun h0 => by simp [Fence.wide, Fence.inRound] at h0, calls_round (Calls.mono h fun e w'' he => ?_)⟩
      cases e with
      | returned => exact hK _ _ he
      | panicked => exact he
      | outgrown => exact he
    case row row args => exact ⟨fun h0 => by simp [Fence.wide, Fence.inRound] at h0, rows_round (Rows.mono h fun _ _ he => hK _ _ he)⟩
  | halt x w' => cases x <;> simp only [Oper.upon] at h <;> simp only [Oper.uponIn] <;> exact h

theorem any_round {P : Program} {l n : Nat} {md : Region.Mode} {ops : Array Oper} {Q : Exit → Act → World → Prop} (hd : noDefer ops = true) (hQ : ∀ a w, ¬ Q .outgrown a w) :
    ∀ (fuel : Nat) (listed : Array Bool) (a : Act) (w : World), wpAny P md ops Q fuel listed a w → wpAnyIn (Fence.wide.inRound l) n P md ops Q fuel listed a w
  | 0, _, _, _, h => h
  | fuel + 1, listed, a, w, h => by
    refine ⟨h.1, fun i hi => ?_⟩
    have h1 := h.2 i hi
    unfold wpOp at h1
    unfold wpOpIn
    split
    · rename_i ho; simp only [ho] at h1; exact any_round hd hQ fuel _ _ _ h1
    · rename_i o ho
      simp only [ho] at h1
      split
      · rename_i hw
        simp only [hw, if_true] at h1
        rcases h1 with h1 | ⟨_, a', w', h2⟩
        · exact oper_round (noDefer_spec hd ho) (fun a w => any_round hd hQ fuel _ a w) h1
        · exact absurd h2 (hQ _ _)
      · rename_i hw
        simp only [hw] at h1
        exact ⟨fun _ _ => trivial, any_round hd hQ fuel _ _ _ h1⟩

/-- A region that draws, inside a round: by one walk of its operations as they stand, each quiet. -/
theorem round_quiet {P : Program} {l n id : Nat} {Q : Exit → Act → World → Prop} {a : Act} {w : World} {ol : List Oper} (hm : P.follows .mixedOrders = true) (hB : Region.lexB .any ol.toArray = true) (hd : noDefer ol.toArray = true) (hQ : ∀ a w, ¬ Q .outgrown a w)
    (h : wpQuiet P ol.toArray (fun w' => ∃ n, w' = w.drewN n) (fun a' => ∀ w', (∃ n, w' = w.drewN n) → Q .normal a' w') ol a) : (Code.region id ol.toArray true).wpIn (Fence.wide.inRound l) n P Q a w := by
  refine wpIn_region_any hm (any_round hd hQ _ _ _ _ ?_)
  unfold Region.lexB at hB
  simp only [Bool.and_eq_true] at hB
  refine wpAny_of_quiet (C := fun w' => ∃ n, w' = w.drewN n) (Q := fun a' => ∀ w', (∃ n, w' = w.drewN n) → Q .normal a' w') (fun a w' hw' h' => h' w' hw') _ _ _ _ ⟨1, rfl⟩ ?_
  exact wpAnyQ_lex hB.1 ol 0 _ _ (fun j => by simp) (by simpa using hB.2) h

/-- The same under a condition S that is kept. -/
theorem round_held {P : Program} {l n id : Nat} {S : World → Prop} {ops : Array Oper} {Q : Exit → Act → World → Prop} {a : Act} {w : World} (hm : P.follows .mixedOrders = true) (hd : noDefer ops = true) (hQ : ∀ a w, ¬ Q .outgrown a w) (hS : S w.drew)
    (h : S w.drew → wpAnyH P .any ops Q S ops.size (Array.replicate ops.size false) a w.drew) : (Code.region id ops true).wpIn (Fence.wide.inRound l) n P Q a w :=
  wpIn_region_any hm (any_round hd hQ _ _ _ _ (wpAny_of_held _ _ _ _ (h hS)))
end Go.Proofs.Ytkfoeijhhfaceab
