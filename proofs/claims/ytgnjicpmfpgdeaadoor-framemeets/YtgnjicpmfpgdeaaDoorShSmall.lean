/-
  The contracts of the document's right, moved, constants and Start.
-/
import Derived.Test.YtgnjicpmfpgdeaaDoorRows
import Derived.Test.YtgnjicpmfpgdeaaDoorShShaFast
import Derived.WalkKit
import Derived.ProofKit
import Derived.OpenShut
import Derived.Deep.QuietTactic
import Derived.BigQuiet
import Derived.Handy
import Derived.Lib.SmallJoins
import Derived.RegionTactic
import Derived.Great.BuildSlice
import Derived.Deep.WholeRow
import Derived.Laws.CopyOwn
namespace Go.Proofs.YtgnjicpmfpgdeaaDoor.Sh
open Go.RowKit Sha

theorem ret_int {k : IntKind} {a b : Int} (h : a = b) : Ending.returned (.int k a) = .returned (.int k b) := by rw [h]
theorem hid {p : Prop} (h : p) : Hid p := h

theorem Bn {w a b : World} (h : Below w.heap.size w a) (h2 : Below a.heap.size a b) : Below w.heap.size w b := h.trans (h2.mono h.size)
theorem bel_alloc (w : World) (o : Obj) : Below w.heap.size w (w.alloc o) := (Below.refl _ _).alloc (Nat.le_refl _) o
theorem heap_new (w : World) (o : Obj) : (w.alloc o).heap[w.heap.size]? = some o := by
  show (w.heap.push o)[w.heap.size]? = _
  simp

/-- Numbers of a kind as an array's cells. -/
def arr (k : IntKind) (l : List Nat) : Array Value := (l.map fun z : Nat => Value.int k (z : Int)).toArray

theorem arr_size (k : IntKind) (l : List Nat) : (arr k l).size = l.length := by simp [arr]
theorem arr_get (k : IntKind) (l : List Nat) (i : Nat) (h : i < l.length) : (arr k l)[i]? = some (.int k ((l.getD i 0 : Nat) : Int)) := by
  simp [arr, List.getD, List.getElem?_eq_getElem h]
theorem arr_set (k : IntKind) (l : List Nat) (i v : Nat) : (arr k l).setIfInBounds i (.int k (v : Int)) = arr k (l.set i v) := by
  simp [arr, List.map_set]

theorem rotN_zero (x : Nat) : rotN 0 x = x := by unfold rotN; exact iter_zero _ _
theorem rotN_succ (n x : Nat) : rotN (n + 1) x = rotN n (rot1 x) := by unfold rotN; exact iter_succ _ _ _
theorem movN_zero (x : Nat) : movN 0 x = x := by unfold movN; exact iter_zero _ _
theorem movN_succ (n x : Nat) : movN (n + 1) x = movN n (mov1 x) := by unfold movN; exact iter_succ _ _ _
theorem rot1_int (y : Nat) : (y : Int) / 2 + (y : Int) % 2 * 2147483648 = ((rot1 y : Nat) : Int) := by unfold rot1; omega
theorem mov1_int (y : Nat) : (y : Int) / 2 = ((mov1 y : Nat) : Int) := by unfold mov1; omega

theorem right_ref (x n : Nat) (w : World) (hx : x < 2 ^ 32) (hn : n ≤ 32) : Calls Tryd.prog 92 #[.int .u32 (x : Int), .int .i64 (n : Int)] w fun e w' => e = .returned (.int .u32 ((rotN n x : Nat) : Int)) ∧ w' = w := by
  go_enter Tryd.func92, Tryd.ntmps92
  go_wp2
  go_loop [0, 1] (fun x' i => ∃ (m y : Nat), m ≤ 32 ∧ y < 2 ^ 32 ∧ rotN m y = rotN n x ∧ i = .int .i64 m ∧ x' = .int .u32 y) (fun _ i => (intOf i).toNat)
  case atStart => exact ⟨n, x, hn, hx, rfl, rfl, rfl⟩
  case round =>
    obtain ⟨m, y, hm, hy, heq, rfl, rfl⟩ := hrel
    by_cases h0 : 0 < m
    · obtain ⟨j, rfl⟩ : ∃ j, m = j + 1 := ⟨m - 1, by omega⟩
      have h0' : (0 : Int) < ((j + 1 : Nat) : Int) := by omega
      have hr := rot1_lt y hy
      rw [rotN_succ] at heq
      have HQ := hid heq
      have HE := hid (rot1_int y)
      clear heq
      go_wp2
      exact ⟨⟨j, rot1 y, by omega, hr, HQ.out, rfl, by rw [HE.out]⟩, by simp [intOf]⟩
    · have hm0 : m = 0 := by omega
      subst hm0
      go_wp2
      go_ret
      exact ⟨ret_int (by rw [← heq, rotN_zero]), rfl⟩
theorem moved_ref (x n : Nat) (w : World) (hx : x < 2 ^ 32) (hn : n ≤ 32) : Calls Tryd.prog 93 #[.int .u32 (x : Int), .int .i64 (n : Int)] w fun e w' => e = .returned (.int .u32 ((movN n x : Nat) : Int)) ∧ w' = w := by
  go_enter Tryd.func93, Tryd.ntmps93
  go_wp2
  go_loop [0, 1] (fun x' i => ∃ (m y : Nat), m ≤ 32 ∧ y < 2 ^ 32 ∧ movN m y = movN n x ∧ i = .int .i64 m ∧ x' = .int .u32 y) (fun _ i => (intOf i).toNat)
  case atStart => exact ⟨n, x, hn, hx, rfl, rfl, rfl⟩
  case round =>
    obtain ⟨m, y, hm, hy, heq, rfl, rfl⟩ := hrel
    by_cases h0 : 0 < m
    · obtain ⟨j, rfl⟩ : ∃ j, m = j + 1 := ⟨m - 1, by omega⟩
      have h0' : (0 : Int) < ((j + 1 : Nat) : Int) := by omega
      have hr := mov1_lt y hy
      rw [movN_succ] at heq
      have HQ := hid heq
      have HE := hid (mov1_int y)
      clear heq
      go_wp2
      exact ⟨⟨j, mov1 y, by omega, hr, HQ.out, rfl, by rw [HE.out]⟩, by simp [intOf]⟩
    · have hm0 : m = 0 := by omega
      subst hm0
      go_wp2
      go_ret
      exact ⟨ret_int (by rw [← heq, movN_zero]), rfl⟩

theorem start_ref (w : World) : Calls Tryd.prog 85 #[] w fun e w' => e = .returned (.agg (arr .u32 Sha.start.list)) ∧ Below w.heap.size w w' := by
  go_enter Tryd.func85, Tryd.ntmps85
  go_wp2
  refine bodyPost_ret (results_cell_row (ty := 118) rfl _ _ _ _ _ _ _ rfl (heap_new _ _) Tryd.underlying118 rfl (by kernel_rfl)) rfl ?_
  exact ⟨rfl, bel_alloc _ _⟩

/-- A new variable of a type whose zero value is an array. -/
theorem wpList_alloc_row {P : Program} {ops : Array Oper} {rest : List Oper} {o : Oper} {a : Act} {w : World} {Q : Exit → Act → World → Prop} (hgd : o.guard = none) (ty : TypeId) (ho : o.op = .alloc ty) (d : Option Tmp) (hd : o.dst = d) (cs : Array Value)
    (hz : ∀ w, (zeroValue ty).run P w = .ok (.agg cs) w) (h : wpList P ops Q rest (a.put d (.pointer (some ⟨w.heap.size, 0, none⟩))) (w.alloc (.cells cs ty))) : wpList P ops Q (o :: rest) a w := by
  subst hd
  refine wpList_plain hgd fun _ hK => ?_
  unfold Oper.wp execOp
  simp only [ho, Instr.alloc, Sem.run_bind, hz, Result.andThen_ok, newVar]
  exact hK _ _ h

def z64 : List Nat := List.replicate 64 0

theorem Tryd.zero126 : ∀ w, (zeroValue 126).run Tryd.prog w = .ok (.agg (arr .u32 z64)) w := (zero_of_info (t := 126) (n := 64) (by kernel_rfl)).1

theorem arr_one (k : IntKind) (l : List Nat) : (arr k l).all (·.oneCell') = true := by
  simp [arr, Value.oneCell']

set_option maxRecDepth 100000 in
theorem constants_ref (w : World) : Calls Tryd.prog 94 #[] w fun e w' => e = .returned (.agg (arr .u32 kL)) ∧ Below w.heap.size w w' := by
  have hg := heap_new w (.cells (arr .u32 z64) 126)
  go_enter Tryd.func94, Tryd.ntmps94
  go_wp2_with (first
    | (refine wpList_alloc_row rfl 126 rfl (some 0) rfl (arr .u32 z64) Tryd.zero126 ?_)
    | (refine wpList_buildFlatArrTo rfl 126 117 64 _ rfl .u32 (kL.map fun z : Nat => (z : Int)) (some 1) rfl Tryd.underlying126 (by kernel_rfl) (by kernel_rfl) (by kernel_rfl) ?_)
    | (refine wpList_store_rowTo rfl 126 _ _ rfl rfl w.heap.size ((kL.map fun z : Nat => (z : Int)).map (Value.int .u32)).toArray rfl rfl 126 _ hg (by kernel_rfl) (by kernel_rfl) (by kernel_rfl) ?_))
  refine bodyPost_ret (results_cell_row (ty := 126) rfl _ _ _ _ _ _ _ rfl (setRow_heap _ _ _ _ _ _ hg) Tryd.underlying126 rfl (by kernel_rfl)) rfl ?_
  refine ⟨?_, below_setRow (bel_alloc _ _) (Nat.le_refl _) _⟩
  rw [List.map_map]
  rfl
end Go.Proofs.YtgnjicpmfpgdeaaDoor.Sh
