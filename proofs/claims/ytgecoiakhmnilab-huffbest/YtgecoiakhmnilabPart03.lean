/-
  A row of integers as an argument of type []int, []byte or []uint16: what it reads as, in which worlds.
-/
import Derived.Test.YtgecoiakhmnilabRows
import Derived.Laws.BytesArg
import Derived.Laws.BitsAllLaws
import Derived.WalkKit
import Derived.ProofKit
import Derived.OpenShut
import Derived.Deep.QuietTactic
import Derived.BigQuiet
import Derived.RegionTactic
import Derived.Test.YtgecoiakhmnilabPart00
import Derived.Handy
import Derived.Lib.SmallJoins
import Derived.Great.BuildSlice
import Derived.Deep.WholeRow
import Derived.Laws.CopyOwn
namespace Go.Proofs.Ytgecoiakhmnilab
open Go.RowKit

theorem hid {p : Prop} (h : p) : Go.RowKit.Hid p := h

/-- The slice at a reads, in the world w, as the numbers zs. -/
structure Ri (w : World) (kd : IntKind) (a : Option Addr) (cap : Nat) (zs : List Int) : Prop where
  room : zs.length ≤ cap
  most : cap ≤ maxLen
  cells : 0 < zs.length → ∃ b off, a = some ⟨b, off, none⟩ ∧ b < w.heap.size ∧ ∀ j, j < zs.length → w.cell? ⟨b, off + j, none⟩ = some (.int kd (zs.getD j 0))
  fits : ∀ j, (Lit.int kd (zs.getD j 0)).wf = true

theorem Ri.later {w w' : World} {kd : IntKind} {a : Option Addr} {cap : Nat} {zs : List Int} (h : Ri w kd a cap zs) (hb : Below w.heap.size w w') : Ri w' kd a cap zs := by
  refine ⟨h.room, h.most, fun h0 => ?_, h.fits⟩
  obtain ⟨b, off, ha, hbw, hc⟩ := h.cells h0
  exact ⟨b, off, ha, Nat.lt_of_lt_of_le hbw hb.size, fun j hj => (hb.cell (p := ⟨b, off + j, none⟩) hbw).trans (hc j hj)⟩

theorem getD_take (zs : List Int) (n j : Nat) (hj : j < n) : (zs.take n).getD j 0 = zs.getD j 0 := by
  simp [List.getD, List.getElem?_take_of_lt hj]
theorem getD_take_out (zs : List Int) (n j : Nat) (hj : ¬ j < n) : (zs.take n).getD j 0 = 0 := by
  have h : (zs.take n).length ≤ j := by simp; omega
  simp [List.getD, List.getElem?_eq_none h]
theorem getD_out (zs : List Int) (j : Nat) (hj : zs.length ≤ j) : zs.getD j 0 = 0 := by
  simp [List.getD, List.getElem?_eq_none hj]

theorem wf_zero (kd : IntKind) : (Lit.int kd 0).wf = true := by cases kd <;> rfl

theorem Ri.take {w : World} {kd : IntKind} {a : Option Addr} {cap : Nat} {zs : List Int} (h : Ri w kd a cap zs) (n : Nat) : Ri w kd a cap (zs.take n) := by
  have hroom := h.room
  have hle : (zs.take n).length ≤ zs.length := by simp; omega
  have hln : (zs.take n).length ≤ n := List.length_take_le _ _
  refine ⟨by omega, h.most, fun h0 => ?_, fun j => ?_⟩
  · obtain ⟨b, off, ha, hbw, hc⟩ := h.cells (by omega)
    refine ⟨b, off, ha, hbw, fun j hj => ?_⟩
    rw [getD_take zs n j (by omega)]
    exact hc j (by omega)
  · by_cases hj : j < n
    · rw [getD_take zs n j hj]; exact h.fits j
    · rw [getD_take_out zs n j hj]; exact wf_zero kd

theorem Bn {w a b : World} (h : Below w.heap.size w a) (h2 : Below a.heap.size a b) : Below w.heap.size w b := h.trans (h2.mono h.size)
theorem bel_drewN {B : Nat} {a w : World} (h : Below B a w) (n : Nat) : Below B a (w.drewN n) := h.trans ⟨rfl, rfl, rfl, Nat.le_refl _, fun _ _ => rfl⟩

theorem Try.laidOut : laidOutB Try.prog = true := by kernel_rfl
theorem Try.cells3 : Try.prog.cellsOf 3 = 1 := by kernel_rfl
theorem Try.cells5 : Try.prog.cellsOf 5 = 1 := by kernel_rfl

theorem wf_u8 {x : Int} (h : (Lit.int .u8 x).wf = true) : 0 ≤ x ∧ x ≤ 255 := by
  have h1 : IntKind.u8.min = 0 := rfl
  have h2 : IntKind.u8.max = 255 := rfl
  simp only [Lit.wf, Bool.and_eq_true, decide_eq_true_eq] at h
  omega
theorem wf_u16 {x : Int} (h : (Lit.int .u16 x).wf = true) : 0 ≤ x ∧ x ≤ 65535 := by
  have h1 : IntKind.u16.min = 0 := rfl
  have h2 : IntKind.u16.max = 65535 := rfl
  simp only [Lit.wf, Bool.and_eq_true, decide_eq_true_eq] at h
  omega
theorem wf_i64 {x : Int} (h : (Lit.int .i64 x).wf = true) : -9223372036854775808 ≤ x ∧ x ≤ 9223372036854775807 := by
  have h1 : IntKind.i64.min = -9223372036854775808 := rfl
  have h2 : IntKind.i64.max = 9223372036854775807 := rfl
  simp only [Lit.wf, Bool.and_eq_true, decide_eq_true_eq] at h
  omega
theorem wf_mk_i64 {x : Int} (h1 : -9223372036854775808 ≤ x) (h2 : x ≤ 9223372036854775807) : (Lit.int .i64 x).wf = true := by
  have e1 : IntKind.i64.min = -9223372036854775808 := rfl
  have e2 : IntKind.i64.max = 9223372036854775807 := rfl
  simp only [Lit.wf, Bool.and_eq_true, decide_eq_true_eq]
  omega
theorem wf_mk_u8 {x : Int} (h1 : 0 ≤ x) (h2 : x ≤ 255) : (Lit.int .u8 x).wf = true := by
  have e1 : IntKind.u8.min = 0 := rfl
  have e2 : IntKind.u8.max = 255 := rfl
  simp only [Lit.wf, Bool.and_eq_true, decide_eq_true_eq]
  omega
theorem wf_mk_u16 {x : Int} (h1 : 0 ≤ x) (h2 : x ≤ 65535) : (Lit.int .u16 x).wf = true := by
  have e1 : IntKind.u16.min = 0 := rfl
  have e2 : IntKind.u16.max = 65535 := rfl
  simp only [Lit.wf, Bool.and_eq_true, decide_eq_true_eq]
  omega

open Go.ChangeShapes Go.WideShapes Go.ChangeAt in
/-- An argument that is a row of integers, as it is handed in. -/
theorem open_ri {H : Type} {enc : TypeId × Value → H} {W : World} {base : Nat} {t e : TypeId} {kd : IntKind} {v : Value} {d : DataW H} {p : List MemPlace} (ht : Try.prog.underlying t = some (.slice e)) (he : Try.prog.underlying e = some (.int kd)) (hc : Try.prog.cellsOf e = 1)
    (hv : Value.okWide Try.prog W .any base t v) (h : DataW.Trod enc Try.prog W 0 (fun _ => true) true t v d p) (hlt : ∀ x ∈ p, x.block < W.heap.size) :
    ∃ a cap zs, v = .slice a (zs : List Int).length cap ∧ Ri W kd a cap zs := by
  obtain ⟨a0, len, cap, rfl⟩ := okWide_slice ht hv
  obtain ⟨fuel, hf⟩ := h
  rcases open_ints ht he hc hf with ⟨hcs, hx⟩ | ⟨a, len', cap', zs, hcs, _, hl, hm, hz, hx, hcell, hwz⟩
  · simp [Value.cells] at hcs
    obtain ⟨rfl, rfl, rfl⟩ := hcs
    exact ⟨none, 0, [], rfl, Nat.le_refl _, by unfold maxLen; omega, fun h => absurd h (by simp), fun j => by simp; exact wf_zero kd⟩
  · simp [Value.cells] at hcs
    obtain ⟨rfl, rfl, rfl⟩ := hcs
    simp only [Prod.mk.injEq] at hx
    obtain ⟨_, rfl⟩ := hx
    simp only [if_true] at hz
    have hlen : (zs.take len).length = len := by simp; omega
    refine ⟨some a, cap, zs.take len, by rw [hlen], by omega, hm, fun h0 => ?_, fun j => ?_⟩
    · rw [hlen] at h0 ⊢
      obtain ⟨b, off, spot⟩ := a
      have hspot : spot = none := by simpa [Addr.add] using World.cell?_spot (hcell 0 (by omega))
      subst hspot
      have hbW : b < W.heap.size := hlt (.cell b off) (MemPlace.mem_row.2 ⟨0, by omega, by simp⟩)
      refine ⟨b, off, rfl, hbW, fun j hj => ?_⟩
      rw [← add_plain, getD_take zs len j hj]
      exact hcell j (by omega)
    · by_cases hj : j < (zs.take len).length
      · have hm : (zs.take len).getD j 0 ∈ zs := by
          simp only [List.getD, List.getElem?_eq_getElem hj, Option.getD_some]
          exact List.mem_of_mem_take (List.getElem_mem hj)
        exact hwz _ hm
      · rw [getD_out _ _ (by omega)]; exact wf_zero kd

/-- An own row of numbers reads as them. -/
theorem Ri.own {w : World} {base : Nat} {e : TypeId} {kd : IntKind} {v : Value} {zs : List Int} (h : w.ownsRow base e 1 v zs.length (zs.map (Value.int kd))) (hf : ∀ j, (Lit.int kd (zs.getD j 0)).wf = true) :
    ∃ a cap, v = .slice a zs.length cap ∧ Ri w kd a cap zs := by
  obtain ⟨hl, hn | ⟨g, cap, cur, rfl, hb, hg, hnc, hcm, hcur, htk⟩⟩ := id h
  · obtain ⟨rfl, h0⟩ := hn
    refine ⟨none, 0, by rw [h0], by omega, by unfold maxLen; omega, fun h1 => by omega, hf⟩
  · refine ⟨some ⟨g, 0, none⟩, cap, rfl, hnc, hcm, fun h0 => ⟨g, 0, rfl, ?_, fun j hj => ?_⟩, hf⟩
    · exact (Array.getElem?_eq_some_iff.1 hg).1
    · rw [Nat.zero_add, h.cellAt j (by omega), List.getElem?_map]
      simp [List.getD, List.getElem?_eq_getElem hj]

theorem few_any (a : Option Addr) (cap : Nat) (zs : List Int) (w : World) (hr : Ri w .i64 a cap zs) :
    Calls Try.prog 5 #[.slice a zs.length cap] w fun e w' => e = .returned (.slice a (zs.take 60).length cap) ∧ w' = w := by
  have hcap := hr.room
  have hmax := hr.most
  unfold maxLen at hmax
  have hcells := hr.cells
  clear hr
  by_cases h : 60 < zs.length
  · have hl : (zs.take 60).length = 60 := by simp; omega
    obtain ⟨b, off, rfl, hbw, hc⟩ := hcells (by omega)
    clear hcells hc hbw
    rw [hl]
    generalize zs.length = len at *
    clear hl
    go_enter Try.func5, Try.ntmps5
    go_wp2
    go_ret
    exact ⟨rfl, rfl⟩
  · have hl : (zs.take 60).length = zs.length := by simp; omega
    rw [hl]
    generalize zs.length = len at *
    clear hcells hl
    go_enter Try.func5, Try.ntmps5
    go_wp2
    go_ret
    exact ⟨rfl, rfl⟩

end Go.Proofs.Ytgecoiakhmnilab
/-
  Arrays in memory, and the contracts of tallied, whole, firsts and Check.
-/
namespace Go.Proofs.Ytgecoiakhmnilab
open Go.RowKit Hf

theorem ret_int {k : IntKind} {a b : Int} (h : a = b) : Ending.returned (.int k a) = .returned (.int k b) := by rw [h]
theorem bel_alloc (w : World) (o : Obj) : Below w.heap.size w (w.alloc o) := (Below.refl _ _).alloc (Nat.le_refl _) o
theorem heap_new (w : World) (o : Obj) : (w.alloc o).heap[w.heap.size]? = some o := by
  show (w.heap.push o)[w.heap.size]? = _
  simp

/-- Numbers of a kind as an array's cells. -/
def arr (k : IntKind) (l : List Nat) : Array Value := (l.map fun z : Nat => Value.int k (z : Int)).toArray

theorem arr_size (k : IntKind) (l : List Nat) : (arr k l).size = l.length := by simp [arr]
theorem arr_get (k : IntKind) (l : List Nat) (i : Nat) (h : i < l.length) : (arr k l)[i]? = some (.int k ((l.getD i 0 : Nat) : Int)) := by
  simp [arr, List.getD, List.getElem?_eq_getElem h]
theorem arr_set (k : IntKind) (l : List Nat) (i v : Nat) : (arr k l).setIfInBounds i (.int k (v : Int)) = arr k (l.set i v) := by
  simp [arr, List.map_set]
theorem arr_one (k : IntKind) (l : List Nat) : (arr k l).all (·.oneCell') = true := by
  simp [arr, Value.oneCell']

theorem Try.zero54 : ∀ w, (zeroValue 54).run Try.prog w = .ok (.agg (arr .i64 z16)) w := (zero_of_info (t := 54) (n := 16) (by kernel_rfl)).1
theorem Try.size54 : (Try.prog.info? 54).map (·.size) = some 16 := by kernel_rfl

theorem heap_put_other {w : World} {g k i : Nat} {cs : Array Value} {t : TypeId} {fr : Nat × Nat} (h : w.heap[g]? = some (.cells cs t fr)) (hk : k ≠ g) (v : Value) : (w.setCell ⟨g, i, none⟩ v).heap[k]? = w.heap[k]? := by
  rw [setCell_eq_setRow w g i cs t fr v h]
  exact setRow_other w g k _ hk

theorem wpList_alloc_row {P : Program} {ops : Array Oper} {rest : List Oper} {o : Oper} {a : Act} {w : World} {Q : Exit → Act → World → Prop} (hgd : o.guard = none) (ty : TypeId) (ho : o.op = .alloc ty) (d : Option Tmp) (hd : o.dst = d) (cs : Array Value)
    (hz : ∀ w, (zeroValue ty).run P w = .ok (.agg cs) w) (h : wpList P ops Q rest (a.put d (.pointer (some ⟨w.heap.size, 0, none⟩))) (w.alloc (.cells cs ty))) : wpList P ops Q (o :: rest) a w := by
  subst hd
  refine wpList_plain hgd fun _ hK => ?_
  unfold Oper.wp execOp
  simp only [ho, Instr.alloc, Sem.run_bind, hz, Result.andThen_ok, newVar]
  exact hK _ _ h
theorem wpList_alloc_at {P : Program} {ops : Array Oper} {rest : List Oper} {o : Oper} {a : Act} {w : World} {Q : Exit → Act → World → Prop} (hgd : o.guard = none) (ty : TypeId) (ho : o.op = .alloc ty) (d : Option Tmp) (hd : o.dst = d) (cs : Array Value)
    (hz : ∀ w, (zeroValue ty).run P w = .ok (.agg cs) w) (N : Nat) (hN : N = w.heap.size) (h : wpList P ops Q rest (a.put d (.pointer (some ⟨N, 0, none⟩))) (w.alloc (.cells cs ty))) : wpList P ops Q (o :: rest) a w := by
  subst hN; exact wpList_alloc_row hgd ty ho d hd cs hz h

theorem results_row_tmp {P : Program} {fn : Func} {p u : Tmp} {ty : TypeId} (h : fn.results = #[.cell p ty, .tmp u]) (tmps : Array Value) (w : World) (g : Nat) (v : Value) (hp : tmps.getD p undef = .pointer (some ⟨g, 0, none⟩)) (hl : (loadVar ty ⟨g, 0, none⟩).run P w = .ok v w) :
    (results fn tmps).run P w = .ok (.tuple #[v, tmps.getD u undef]) w := by
  rw [results_cell_tmp h, hp]
  simp [asAddr, hl]

/-- a[i] of an array of 16 numbers, by value. -/
theorem index_arr (l : List Nat) (i : Nat) (hl : l.length = 16) (hi : i < 16) (w : World) : (Instr.index 54 (.agg (arr .i64 l)) (.int .i64 (i : Int))).run Try.prog w = .ok (.int .i64 ((l.getD i 0 : Nat) : Int)) w := by
  have ha : (isAgg 3).run Try.prog w = .ok false w := by
    unfold isAgg
    rw [Sem.run_bind, run_underlying Try.underlying3 w]
    rfl
  have hz : (Go.sizeOf 3).run Try.prog w = .ok 1 w := Try.sizeOf3 w
  have hp : (part 3 (arr .i64 l) (i * 1)).run Try.prog w = .ok (.int .i64 ((l.getD i 0 : Nat) : Int)) w := by
    unfold part
    simp [Sem.run_bind, ha, arr_get .i64 l i (by omega)]
  have h0 : (0 : Int) ≤ (i : Int) ∧ (i : Int) < ((16 : Nat) : Int) := by omega
  unfold Instr.index
  simp only [asIntOf, Sem.run_bind, Sem.run_pure, Result.andThen_ok, run_underlying Try.underlying54 w]
  rw [if_pos h0]
  simp only [Sem.run_bind, hz, Result.andThen_ok, Int.toNat_natCast, hp]

theorem wrap64_id {x : Int} (h1 : -9223372036854775808 ≤ x) (h2 : x < 9223372036854775808) : wrap64 x = x := by
  unfold wrap64; omega

theorem wsum_small (zs : List Int) (k : Nat) (hk : k ≤ 16) (hl : zs.length ≤ 520) : wsum zs k ≤ 272629760 := by
  have h := wsum_le zs k
  have h2 : k * (zs.length * 32768) ≤ 16 * (520 * 32768) := Nat.mul_le_mul hk (Nat.mul_le_mul_right _ hl)
  omega
theorem term_int (c k : Nat) (h : k < 16) : (c : Int) * 2 ^ (15 - (k : Int)).toNat = ((c * 2 ^ (15 - k) : Nat) : Int) := by
  rw [show (15 - (k : Int)).toNat = 15 - k from by omega]; simp
theorem term_small (c k : Nat) (h : c ≤ 520) : c * 2 ^ (15 - k) ≤ 17039360 := by
  have h2 : 2 ^ (15 - k) ≤ 2 ^ 15 := Nat.pow_le_pow_right (by decide) (by omega)
  have h3 : c * 2 ^ (15 - k) ≤ 520 * 2 ^ 15 := Nat.mul_le_mul h h2
  omega

set_option maxHeartbeats 400000 in
theorem whole_word (zs : List Int) (w : World) (hl : zs.length ≤ 520) :
    Calls Try.prog 34 #[.agg (arr .i64 (tal zs))] w fun e w' => e = .returned (.bool (wsum zs 16 == 32768)) ∧ Below w.heap.size w w' := by
  have b1 := bel_alloc w (.cells (arr .i64 (tal zs)) 54)
  have e1 := heap_new w (.cells (arr .i64 (tal zs)) 54)
  have zt : (Try.prog.info? 54).map (·.size) = some (arr .i64 (tal zs)).size := by rw [arr_size, tal_length]; exact Try.size54
  have HI : Hid (∀ k : Nat, k < 16 → ∀ w, (Instr.index 54 (.agg (arr .i64 (tal zs))) (.int .i64 (k : Int))).run Try.prog w = .ok (.int .i64 ((cnt zs k : Nat) : Int)) w) := by
    intro k hk w
    have h := index_arr (tal zs) k (tal_length zs) hk w
    rwa [tal_getD zs k hk] at h
  generalize tal zs = tz at *
  go_enter Try.func34, Try.ntmps34
  go_wp2_with (first
    | (refine wpList_load_row rfl 54 _ rfl w.heap.size rfl 54 (arr .i64 tz) (0, 0) _ e1 Try.underlying54 rfl zt ?_))
  go_loop [3, 7] (fun s i => ∃ k : Nat, k ≤ 16 ∧ i = .int .i64 k ∧ s = .int .i64 ((wsum zs k : Nat) : Int)) (fun _ i => 16 - (intOf i).toNat)
  case atStart => exact ⟨0, by omega, rfl, rfl⟩
  case round =>
    obtain ⟨k, hk, rfl, rfl⟩ := hrel
    by_cases hlt : k < 16
    · have hk16 : (k : Int) < 16 := by omega
      have hx := HI.out k hlt
      have hc := cnt_le zs k
      have hw := wsum_small zs k (by omega) hl
      have ht := term_int (cnt zs k) k hlt
      have hs := term_small (cnt zs k) k (by omega)
      have HE := hid (show wsum zs (k + 1) = wsum zs k + cnt zs k * 2 ^ (15 - k) from rfl)
      generalize cnt zs k * 2 ^ (15 - k) = t at *
      generalize wsum zs k = sm at *
      generalize cnt zs k = c at *
      have hp : (c : Int) * 2 ^ (15 - k) = (t : Int) := by rw [← ht, show (15 - (k : Int)).toNat = 15 - k from by omega]
      go_wp2
      exact ⟨⟨k + 1, by omega, by go_num, by rw [HE.out]; simp⟩, by simp [intOf]; omega⟩
    · obtain rfl : k = 16 := by omega
      go_wp2
      go_ret
      refine ⟨?_, b1⟩
      have hb : (((wsum zs 16 : Nat) : Int) == 32768) = (wsum zs 16 == 32768) := by
        rw [Bool.eq_iff_iff, beq_iff_eq, beq_iff_eq]; omega
      rw [← hb]; rfl

/-- What the walk of firsts keeps. -/
structure MemF (w wr : World) (tz fz : List Nat) : Prop where
  many : wr.heap[w.heap.size]? = some (.cells (arr .i64 tz) 54 (0, 0))
  res : wr.heap[w.heap.size + 1]? = some (.cells (arr .i64 z16) 54 (0, 0))
  fst : wr.heap[w.heap.size + 1 + 1]? = some (.cells (arr .i64 fz) 54 (0, 0))
  bel : Below w.heap.size w wr
theorem MemF.put {w wr : World} {tz fz : List Nat} (h : MemF w wr tz fz) (i v : Nat) : MemF w (wr.setCell ⟨w.heap.size + 1 + 1, i, none⟩ (.int .i64 (v : Int))) tz (fz.set i v) := by
  refine ⟨?_, ?_, ?_, h.bel.setCell (by simp; omega) _⟩
  · rw [heap_put_other h.fst (by omega)]; exact h.many
  · rw [heap_put_other h.fst (by omega)]; exact h.res
  · rw [Joins.block_setCell h.fst, arr_set]
theorem MemF.drew {w wr : World} {tz fz : List Nat} (h : MemF w wr tz fz) : MemF w wr.drew tz fz := ⟨h.many, h.res, h.fst, h.bel.drew⟩

set_option maxHeartbeats 800000 in
set_option maxRecDepth 100000 in
theorem firsts_word (zs : List Int) (w : World) (hl : zs.length ≤ 520) :
    Calls Try.prog 27 #[.agg (arr .i64 (tal zs))] w fun e w' => e = .returned (.agg (arr .i64 (fillF zs 16))) ∧ Below w.heap.size w w' := by
  have HG := hid (tal_getD zs)
  have HTL := hid (tal_length zs)
  have b1 := bel_alloc w (.cells (arr .i64 (tal zs)) 54)
  have s1 : (w.alloc (.cells (arr .i64 (tal zs)) 54)).heap.size = w.heap.size + 1 := by simp
  have e1 := heap_new w (.cells (arr .i64 (tal zs)) 54)
  have b2 := bel_alloc (w.alloc (.cells (arr .i64 (tal zs)) 54)) (.cells (arr .i64 z16) 54)
  have s2 : ((w.alloc (.cells (arr .i64 (tal zs)) 54)).alloc (.cells (arr .i64 z16) 54)).heap.size = w.heap.size + 1 + 1 := by simp
  have e2 := heap_new (w.alloc (.cells (arr .i64 (tal zs)) 54)) (.cells (arr .i64 z16) 54)
  have b3 := bel_alloc ((w.alloc (.cells (arr .i64 (tal zs)) 54)).alloc (.cells (arr .i64 z16) 54)) (.cells (arr .i64 z16) 54)
  have e3 := heap_new ((w.alloc (.cells (arr .i64 (tal zs)) 54)).alloc (.cells (arr .i64 z16) 54)) (.cells (arr .i64 z16) 54)
  rw [s1] at e2
  rw [s2] at e3
  have e1' : (((w.alloc (.cells (arr .i64 (tal zs)) 54)).alloc (.cells (arr .i64 z16) 54)).alloc (.cells (arr .i64 z16) 54)).heap[w.heap.size]? = some (.cells (arr .i64 (tal zs)) 54 (0, 0)) := by rw [b3.block _ (by omega), b2.block _ (by omega)]; exact e1
  have e2' : (((w.alloc (.cells (arr .i64 (tal zs)) 54)).alloc (.cells (arr .i64 z16) 54)).alloc (.cells (arr .i64 z16) 54)).heap[w.heap.size + 1]? = some (.cells (arr .i64 z16) 54 (0, 0)) := by rw [b3.block _ (by omega)]; exact e2
  have hM : MemF w (((w.alloc (.cells (arr .i64 (tal zs)) 54)).alloc (.cells (arr .i64 z16) 54)).alloc (.cells (arr .i64 z16) 54)) (tal zs) (fillF zs 1) := ⟨e1', e2', by rw [fillF_one]; exact e3, Bn (Bn b1 b2) b3⟩
  have HM := hid hM
  clear b1 s1 e1 b2 s2 e2 b3 e3 e1' e2' hM
  generalize tal zs = tz at *
  go_enter Try.func27, Try.ntmps27
  go_wp2_with (first
    | (refine wpList_alloc_at rfl 54 rfl (some 2) rfl (arr .i64 z16) Try.zero54 (w.heap.size + 1) (by simp) ?_)
    | (refine wpList_alloc_at rfl 54 rfl (some 3) rfl (arr .i64 z16) Try.zero54 (w.heap.size + 1 + 1) (by simp) ?_))
  generalize ((w.alloc (.cells (arr .i64 tz) 54)).alloc (.cells (arr .i64 z16) 54)).alloc (.cells (arr .i64 z16) 54) = w3 at *
  go_loopw [4] (fun i wr => ∃ j : Nat, j ≤ 15 ∧ i = .int .i64 ((j : Int) + 1) ∧ MemF w wr tz (fillF zs (j + 1))) (fun i _ => 16 - (intOf i).toNat)
  case atStart => exact ⟨0, by omega, rfl, HM.out⟩
  case round =>
    obtain ⟨j, hj, rfl, hM⟩ := hrel
    by_cases hlt : j < 15
    · have hj16 : (j : Int) + 1 < 16 := by omega
      have hfl := fillF_length zs (j + 1)
      have c1 := (Joins.cell_of_block hM.fst j).trans (arr_get .i64 _ j (by omega))
      have c2 := (Joins.cell_of_block hM.many j).trans (arr_get .i64 _ j (by rw [HTL.out]; omega))
      have cw := (Joins.cell_of_block hM.fst (j + 1)).trans (arr_get .i64 _ (j + 1) (by omega))
      have fw := Joins.unfrozen_of_block hM.fst (j + 1)
      rw [fillF_getD _ _ _ (by omega), if_pos (by omega)] at c1
      rw [HG.out j (by omega)] at c2
      have hc := cnt_le zs j
      have hs := first_small zs j (by omega) hl
      have hput := fun W (h : MemF w W tz (fillF zs (j + 1))) => (h.put (j + 1) ((first zs j + cnt zs j) * 2)).drew
      have e := fillF_set zs (j + 1) (by omega) (by omega)
      rw [show j + 1 - 1 = j from rfl] at e
      rw [e] at hput
      have HP := hid hput
      have HMM := hid hM
      clear hput hM hfl e
      generalize (fillF zs (j + 1)).getD (j + 1) 0 = old at *
      generalize first zs j = f at *
      generalize cnt zs j = c at *
      have HV : Hid (((f : Int) + (c : Int)) * 2 = (((f + c) * 2 : Nat) : Int)) := by show _ = _; omega
      go_wp2_with fail
      go_region
      rw [HV.out]
      have HP1 := hid (HP.out _ HMM.out)
      generalize hW2 : (wr.setCell ⟨w.heap.size + 1 + 1, j + 1, none⟩ (.int .i64 (((f + c) * 2 : Nat) : Int))).drew = W2 at *
      clear hW2 c1 c2 cw fw
      go_wp2
      go_roundw
      case rel => exact ⟨j + 1, by omega, by go_num, HP1.out⟩
      case measure => simp [intOf]; omega
    · obtain rfl : j = 15 := by omega
      have hres := hM.res
      have hfst := hM.fst
      have hbel := hM.bel
      have hsz : (arr .i64 (fillF zs 16)).size = 16 := by rw [arr_size, fillF_length]
      clear hM HM
      go_wp2_with (first
        | (refine wpList_load_row rfl 54 _ rfl (w.heap.size + 1 + 1) rfl 54 (arr .i64 (fillF zs 16)) (0, 0) _ hfst Try.underlying54 rfl (by rw [hsz]; exact Try.size54) ?_)
        | (refine wpList_store_rowTo rfl 54 _ _ rfl rfl (w.heap.size + 1) (arr .i64 (fillF zs 16)) rfl rfl 54 _ hres (by rw [hsz]; exact Try.size54) (by rw [hsz]; rfl) (arr_one _ _) ?_))
      refine bodyPost_ret (results_cell_row (ty := 54) rfl _ _ _ _ _ _ _ rfl (setRow_heap _ _ _ _ _ _ hres) Try.underlying54 rfl (by rw [hsz]; exact Try.size54)) rfl ?_
      exact ⟨rfl, below_setRow hbel (by omega) _⟩
end Go.Proofs.Ytgecoiakhmnilab
