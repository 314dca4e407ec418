/-
  Arrays in memory, and the contracts of tallied, whole, firsts and Check.
-/
import Derived.Test.YtgecoiakhmnilaaRow
import Derived.Test.YtgecoiakhmnilaaHuffMath
import Derived.Handy
import Derived.Lib.SmallJoins
import Derived.Great.BuildSlice
import Derived.Deep.WholeRow
import Derived.Laws.CopyOwn
namespace Go.Proofs.Ytgecoiakhmnilaa
open Go.RowKit Hf

theorem ret_int {k : IntKind} {a b : Int} (h : a = b) : Ending.returned (.int k a) = .returned (.int k b) := by rw [h]
theorem bel_alloc (w : World) (o : Obj) : Below w.heap.size w (w.alloc o) := (Below.refl _ _).alloc (Nat.le_refl _) o
theorem heap_new (w : World) (o : Obj) : (w.alloc o).heap[w.heap.size]? = some o := by
  show (w.heap.push o)[w.heap.size]? = _
  simp

/-- Numbers of a kind as an array's cells. -/
def arr (k : IntKind) (l : List Nat) : Array Value := (l.map fun z : Nat => Value.int k (z : Int)).toArray

theorem arr_size (k : IntKind) (l : List Nat) : (arr k l).size = l.length := by simp [arr]
theorem arr_get (k : IntKind) (l : List Nat) (i : Nat) (h : i < l.length) : (arr k l)[i]? = some (.int k ((l.getD i 0 : Nat) : Int)) := by
  simp [arr, List.getD, List.getElem?_eq_getElem h]
theorem arr_set (k : IntKind) (l : List Nat) (i v : Nat) : (arr k l).setIfInBounds i (.int k (v : Int)) = arr k (l.set i v) := by
  simp [arr, List.map_set]
theorem arr_one (k : IntKind) (l : List Nat) : (arr k l).all (·.oneCell') = true := by
  simp [arr, Value.oneCell']

theorem Try.zero59 : ∀ w, (zeroValue 59).run Try.prog w = .ok (.agg (arr .i64 z16)) w := (zero_of_info (t := 59) (n := 16) (by kernel_rfl)).1
theorem Try.size59 : (Try.prog.info? 59).map (·.size) = some 16 := by kernel_rfl

theorem heap_put_other {w : World} {g k i : Nat} {cs : Array Value} {t : TypeId} {fr : Nat × Nat} (h : w.heap[g]? = some (.cells cs t fr)) (hk : k ≠ g) (v : Value) : (w.setCell ⟨g, i, none⟩ v).heap[k]? = w.heap[k]? := by
  rw [setCell_eq_setRow w g i cs t fr v h]
  exact setRow_other w g k _ hk

theorem wpList_alloc_row {P : Program} {ops : Array Oper} {rest : List Oper} {o : Oper} {a : Act} {w : World} {Q : Exit → Act → World → Prop} (hgd : o.guard = none) (ty : TypeId) (ho : o.op = .alloc ty) (d : Option Tmp) (hd : o.dst = d) (cs : Array Value)
    (hz : ∀ w, (zeroValue ty).run P w = .ok (.agg cs) w) (h : wpList P ops Q rest (a.put d (.pointer (some ⟨w.heap.size, 0, none⟩))) (w.alloc (.cells cs ty))) : wpList P ops Q (o :: rest) a w := by
  subst hd
  refine wpList_plain hgd fun _ hK => ?_
  unfold Oper.wp execOp
  simp only [ho, Instr.alloc, Sem.run_bind, hz, Result.andThen_ok, newVar]
  exact hK _ _ h
theorem wpList_alloc_at {P : Program} {ops : Array Oper} {rest : List Oper} {o : Oper} {a : Act} {w : World} {Q : Exit → Act → World → Prop} (hgd : o.guard = none) (ty : TypeId) (ho : o.op = .alloc ty) (d : Option Tmp) (hd : o.dst = d) (cs : Array Value)
    (hz : ∀ w, (zeroValue ty).run P w = .ok (.agg cs) w) (N : Nat) (hN : N = w.heap.size) (h : wpList P ops Q rest (a.put d (.pointer (some ⟨N, 0, none⟩))) (w.alloc (.cells cs ty))) : wpList P ops Q (o :: rest) a w := by
  subst hN; exact wpList_alloc_row hgd ty ho d hd cs hz h

theorem results_row_tmp {P : Program} {fn : Func} {p u : Tmp} {ty : TypeId} (h : fn.results = #[.cell p ty, .tmp u]) (tmps : Array Value) (w : World) (g : Nat) (v : Value) (hp : tmps.getD p undef = .pointer (some ⟨g, 0, none⟩)) (hl : (loadVar ty ⟨g, 0, none⟩).run P w = .ok v w) :
    (results fn tmps).run P w = .ok (.tuple #[v, tmps.getD u undef]) w := by
  rw [results_cell_tmp h, hp]
  simp [asAddr, hl]

/-- a[i] of an array of 16 numbers, by value. -/
theorem index_arr (l : List Nat) (i : Nat) (hl : l.length = 16) (hi : i < 16) (w : World) : (Instr.index 59 (.agg (arr .i64 l)) (.int .i64 (i : Int))).run Try.prog w = .ok (.int .i64 ((l.getD i 0 : Nat) : Int)) w := by
  have ha : (isAgg 3).run Try.prog w = .ok false w := by
    unfold isAgg
    rw [Sem.run_bind, run_underlying Try.underlying3 w]
    rfl
  have hz : (Go.sizeOf 3).run Try.prog w = .ok 1 w := Try.sizeOf3 w
  have hp : (part 3 (arr .i64 l) (i * 1)).run Try.prog w = .ok (.int .i64 ((l.getD i 0 : Nat) : Int)) w := by
    unfold part
    simp [Sem.run_bind, ha, arr_get .i64 l i (by omega)]
  have h0 : (0 : Int) ≤ (i : Int) ∧ (i : Int) < ((16 : Nat) : Int) := by omega
  unfold Instr.index
  simp only [asIntOf, Sem.run_bind, Sem.run_pure, Result.andThen_ok, run_underlying Try.underlying59 w]
  rw [if_pos h0]
  simp only [Sem.run_bind, hz, Result.andThen_ok, Int.toNat_natCast, hp]

theorem wrap64_id {x : Int} (h1 : -9223372036854775808 ≤ x) (h2 : x < 9223372036854775808) : wrap64 x = x := by
  unfold wrap64; omega

theorem wsum_small (zs : List Int) (k : Nat) (hk : k ≤ 16) (hl : zs.length ≤ 520) : wsum zs k ≤ 272629760 := by
  have h := wsum_le zs k
  have h2 : k * (zs.length * 32768) ≤ 16 * (520 * 32768) := Nat.mul_le_mul hk (Nat.mul_le_mul_right _ hl)
  omega
theorem term_int (c k : Nat) (h : k < 16) : (c : Int) * 2 ^ (15 - (k : Int)).toNat = ((c * 2 ^ (15 - k) : Nat) : Int) := by
  rw [show (15 - (k : Int)).toNat = 15 - k from by omega]; simp
theorem term_small (c k : Nat) (h : c ≤ 520) : c * 2 ^ (15 - k) ≤ 17039360 := by
  have h2 : 2 ^ (15 - k) ≤ 2 ^ 15 := Nat.pow_le_pow_right (by decide) (by omega)
  have h3 : c * 2 ^ (15 - k) ≤ 520 * 2 ^ 15 := Nat.mul_le_mul h h2
  omega

set_option maxHeartbeats 400000 in
theorem whole_word (zs : List Int) (w : World) (hl : zs.length ≤ 520) :
    Calls Try.prog 48 #[.agg (arr .i64 (tal zs))] w fun e w' => e = .returned (.bool (wsum zs 16 == 32768)) ∧ Below w.heap.size w w' := by
  have b1 := bel_alloc w (.cells (arr .i64 (tal zs)) 59)
  have e1 := heap_new w (.cells (arr .i64 (tal zs)) 59)
  have zt : (Try.prog.info? 59).map (·.size) = some (arr .i64 (tal zs)).size := by rw [arr_size, tal_length]; exact Try.size59
  have HI : Hid (∀ k : Nat, k < 16 → ∀ w, (Instr.index 59 (.agg (arr .i64 (tal zs))) (.int .i64 (k : Int))).run Try.prog w = .ok (.int .i64 ((cnt zs k : Nat) : Int)) w) := by
    intro k hk w
    have h := index_arr (tal zs) k (tal_length zs) hk w
    rwa [tal_getD zs k hk] at h
  generalize tal zs = tz at *
  go_enter Try.func48, Try.ntmps48
  go_wp2_with (first
    | (refine wpList_load_row rfl 59 _ rfl w.heap.size rfl 59 (arr .i64 tz) (0, 0) _ e1 Try.underlying59 rfl zt ?_))
  go_loop [3, 7] (fun s i => ∃ k : Nat, k ≤ 16 ∧ i = .int .i64 k ∧ s = .int .i64 ((wsum zs k : Nat) : Int)) (fun _ i => 16 - (intOf i).toNat)
  case atStart => exact ⟨0, by omega, rfl, rfl⟩
  case round =>
    obtain ⟨k, hk, rfl, rfl⟩ := hrel
    by_cases hlt : k < 16
    · have hk16 : (k : Int) < 16 := by omega
      have hx := HI.out k hlt
      have hc := cnt_le zs k
      have hw := wsum_small zs k (by omega) hl
      have ht := term_int (cnt zs k) k hlt
      have hs := term_small (cnt zs k) k (by omega)
      have HE := hid (show wsum zs (k + 1) = wsum zs k + cnt zs k * 2 ^ (15 - k) from rfl)
      generalize cnt zs k * 2 ^ (15 - k) = t at *
      generalize wsum zs k = sm at *
      generalize cnt zs k = c at *
      have hp : (c : Int) * 2 ^ (15 - k) = (t : Int) := by rw [← ht, show (15 - (k : Int)).toNat = 15 - k from by omega]
      go_wp2
      exact ⟨⟨k + 1, by omega, by go_num, by rw [HE.out]; simp⟩, by simp [intOf]; omega⟩
    · obtain rfl : k = 16 := by omega
      go_wp2
      go_ret
      refine ⟨?_, b1⟩
      have hb : (((wsum zs 16 : Nat) : Int) == 32768) = (wsum zs 16 == 32768) := by
        rw [Bool.eq_iff_iff, beq_iff_eq, beq_iff_eq]; omega
      rw [← hb]; rfl

/-- What the walk of firsts keeps. -/
structure MemF (w wr : World) (tz fz : List Nat) : Prop where
  many : wr.heap[w.heap.size]? = some (.cells (arr .i64 tz) 59 (0, 0))
  res : wr.heap[w.heap.size + 1]? = some (.cells (arr .i64 z16) 59 (0, 0))
  fst : wr.heap[w.heap.size + 1 + 1]? = some (.cells (arr .i64 fz) 59 (0, 0))
  bel : Below w.heap.size w wr
theorem MemF.put {w wr : World} {tz fz : List Nat} (h : MemF w wr tz fz) (i v : Nat) : MemF w (wr.setCell ⟨w.heap.size + 1 + 1, i, none⟩ (.int .i64 (v : Int))) tz (fz.set i v) := by
  refine ⟨?_, ?_, ?_, h.bel.setCell (by simp; omega) _⟩
  · rw [heap_put_other h.fst (by omega)]; exact h.many
  · rw [heap_put_other h.fst (by omega)]; exact h.res
  · rw [Joins.block_setCell h.fst, arr_set]
theorem MemF.drew {w wr : World} {tz fz : List Nat} (h : MemF w wr tz fz) : MemF w wr.drew tz fz := ⟨h.many, h.res, h.fst, h.bel.drew⟩

set_option maxHeartbeats 800000 in
set_option maxRecDepth 100000 in
theorem firsts_word (zs : List Int) (w : World) (hl : zs.length ≤ 520) :
    Calls Try.prog 35 #[.agg (arr .i64 (tal zs))] w fun e w' => e = .returned (.agg (arr .i64 (fillF zs 16))) ∧ Below w.heap.size w w' := by
  have HG := hid (tal_getD zs)
  have HTL := hid (tal_length zs)
  have b1 := bel_alloc w (.cells (arr .i64 (tal zs)) 59)
  have s1 : (w.alloc (.cells (arr .i64 (tal zs)) 59)).heap.size = w.heap.size + 1 := by simp
  have e1 := heap_new w (.cells (arr .i64 (tal zs)) 59)
  have b2 := bel_alloc (w.alloc (.cells (arr .i64 (tal zs)) 59)) (.cells (arr .i64 z16) 59)
  have s2 : ((w.alloc (.cells (arr .i64 (tal zs)) 59)).alloc (.cells (arr .i64 z16) 59)).heap.size = w.heap.size + 1 + 1 := by simp
  have e2 := heap_new (w.alloc (.cells (arr .i64 (tal zs)) 59)) (.cells (arr .i64 z16) 59)
  have b3 := bel_alloc ((w.alloc (.cells (arr .i64 (tal zs)) 59)).alloc (.cells (arr .i64 z16) 59)) (.cells (arr .i64 z16) 59)
  have e3 := heap_new ((w.alloc (.cells (arr .i64 (tal zs)) 59)).alloc (.cells (arr .i64 z16) 59)) (.cells (arr .i64 z16) 59)
  rw [s1] at e2
  rw [s2] at e3
  have e1' : (((w.alloc (.cells (arr .i64 (tal zs)) 59)).alloc (.cells (arr .i64 z16) 59)).alloc (.cells (arr .i64 z16) 59)).heap[w.heap.size]? = some (.cells (arr .i64 (tal zs)) 59 (0, 0)) := by rw [b3.block _ (by omega), b2.block _ (by omega)]; exact e1
  have e2' : (((w.alloc (.cells (arr .i64 (tal zs)) 59)).alloc (.cells (arr .i64 z16) 59)).alloc (.cells (arr .i64 z16) 59)).heap[w.heap.size + 1]? = some (.cells (arr .i64 z16) 59 (0, 0)) := by rw [b3.block _ (by omega)]; exact e2
  have hM : MemF w (((w.alloc (.cells (arr .i64 (tal zs)) 59)).alloc (.cells (arr .i64 z16) 59)).alloc (.cells (arr .i64 z16) 59)) (tal zs) (fillF zs 1) := ⟨e1', e2', by rw [fillF_one]; exact e3, Bn (Bn b1 b2) b3⟩
  have HM := hid hM
  clear b1 s1 e1 b2 s2 e2 b3 e3 e1' e2' hM
  generalize tal zs = tz at *
  go_enter Try.func35, Try.ntmps35
  go_wp2_with (first
    | (refine wpList_alloc_at rfl 59 rfl (some 2) rfl (arr .i64 z16) Try.zero59 (w.heap.size + 1) (by simp) ?_)
    | (refine wpList_alloc_at rfl 59 rfl (some 3) rfl (arr .i64 z16) Try.zero59 (w.heap.size + 1 + 1) (by simp) ?_))
  generalize ((w.alloc (.cells (arr .i64 tz) 59)).alloc (.cells (arr .i64 z16) 59)).alloc (.cells (arr .i64 z16) 59) = w3 at *
  go_loopw [4] (fun i wr => ∃ j : Nat, j ≤ 15 ∧ i = .int .i64 ((j : Int) + 1) ∧ MemF w wr tz (fillF zs (j + 1))) (fun i _ => 16 - (intOf i).toNat)
  case atStart => exact ⟨0, by omega, rfl, HM.out⟩
  case round =>
    obtain ⟨j, hj, rfl, hM⟩ := hrel
    by_cases hlt : j < 15
    · have hj16 : (j : Int) + 1 < 16 := by omega
      have hfl := fillF_length zs (j + 1)
      have c1 := (Joins.cell_of_block hM.fst j).trans (arr_get .i64 _ j (by omega))
      have c2 := (Joins.cell_of_block hM.many j).trans (arr_get .i64 _ j (by rw [HTL.out]; omega))
      have cw := (Joins.cell_of_block hM.fst (j + 1)).trans (arr_get .i64 _ (j + 1) (by omega))
      have fw := Joins.unfrozen_of_block hM.fst (j + 1)
      rw [fillF_getD _ _ _ (by omega), if_pos (by omega)] at c1
      rw [HG.out j (by omega)] at c2
      have hc := cnt_le zs j
      have hs := first_small zs j (by omega) hl
      have hput := fun W (h : MemF w W tz (fillF zs (j + 1))) => (h.put (j + 1) ((first zs j + cnt zs j) * 2)).drew
      have e := fillF_set zs (j + 1) (by omega) (by omega)
      rw [show j + 1 - 1 = j from rfl] at e
      rw [e] at hput
      have HP := hid hput
      have HMM := hid hM
      clear hput hM hfl e
      generalize (fillF zs (j + 1)).getD (j + 1) 0 = old at *
      generalize first zs j = f at *
      generalize cnt zs j = c at *
      have HV : Hid (((f : Int) + (c : Int)) * 2 = (((f + c) * 2 : Nat) : Int)) := by show _ = _; omega
      go_wp2_with fail
      go_region
      rw [HV.out]
      have HP1 := hid (HP.out _ HMM.out)
      generalize hW2 : (wr.setCell ⟨w.heap.size + 1 + 1, j + 1, none⟩ (.int .i64 (((f + c) * 2 : Nat) : Int))).drew = W2 at *
      clear hW2 c1 c2 cw fw
      go_wp2
      go_roundw
      case rel => exact ⟨j + 1, by omega, by go_num, HP1.out⟩
      case measure => simp [intOf]; omega
    · obtain rfl : j = 15 := by omega
      have hres := hM.res
      have hfst := hM.fst
      have hbel := hM.bel
      have hsz : (arr .i64 (fillF zs 16)).size = 16 := by rw [arr_size, fillF_length]
      clear hM HM
      go_wp2_with (first
        | (refine wpList_load_row rfl 59 _ rfl (w.heap.size + 1 + 1) rfl 59 (arr .i64 (fillF zs 16)) (0, 0) _ hfst Try.underlying59 rfl (by rw [hsz]; exact Try.size59) ?_)
        | (refine wpList_store_rowTo rfl 59 _ _ rfl rfl (w.heap.size + 1) (arr .i64 (fillF zs 16)) rfl rfl 59 _ hres (by rw [hsz]; exact Try.size59) (by rw [hsz]; rfl) (arr_one _ _) ?_))
      refine bodyPost_ret (results_cell_row (ty := 59) rfl _ _ _ _ _ _ _ rfl (setRow_heap _ _ _ _ _ _ hres) Try.underlying59 rfl (by rw [hsz]; exact Try.size59)) rfl ?_
      exact ⟨rfl, below_setRow hbel (by omega) _⟩
end Go.Proofs.Ytgecoiakhmnilaa
