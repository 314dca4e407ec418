/-
  The contracts of the document's right, moved, constants and Start.
-/
import Derived.Test.YtkipepodgmfbnabDoorRows
import Derived.Test.YtkipepodgmfbnabDoorShaFast
import Derived.WalkKit
import Derived.ProofKit
import Derived.OpenShut
import Derived.Deep.QuietTactic
import Derived.BigQuiet
import Derived.Handy
import Derived.Lib.SmallJoins
import Derived.RegionTactic
import Derived.Great.BuildSlice
import Derived.Deep.WholeRow
import Derived.Laws.CopyOwn
namespace Go.Proofs.YtkipepodgmfbnabDoor
open Go.RowKit Sha

theorem ret_int {k : IntKind} {a b : Int} (h : a = b) : Ending.returned (.int k a) = .returned (.int k b) := by rw [h]
theorem hid {p : Prop} (h : p) : Hid p := h

theorem Bn {w a b : World} (h : Below w.heap.size w a) (h2 : Below a.heap.size a b) : Below w.heap.size w b := h.trans (h2.mono h.size)
theorem bel_alloc (w : World) (o : Obj) : Below w.heap.size w (w.alloc o) := (Below.refl _ _).alloc (Nat.le_refl _) o
theorem heap_new (w : World) (o : Obj) : (w.alloc o).heap[w.heap.size]? = some o := by
  show (w.heap.push o)[w.heap.size]? = _
  simp

/-- Numbers of a kind as an array's cells. -/
def arr (k : IntKind) (l : List Nat) : Array Value := (l.map fun z : Nat => Value.int k (z : Int)).toArray

theorem arr_size (k : IntKind) (l : List Nat) : (arr k l).size = l.length := by simp [arr]
theorem arr_get (k : IntKind) (l : List Nat) (i : Nat) (h : i < l.length) : (arr k l)[i]? = some (.int k ((l.getD i 0 : Nat) : Int)) := by
  simp [arr, List.getD, List.getElem?_eq_getElem h]
theorem arr_set (k : IntKind) (l : List Nat) (i v : Nat) : (arr k l).setIfInBounds i (.int k (v : Int)) = arr k (l.set i v) := by
  simp [arr, List.map_set]

theorem rotN_zero (x : Nat) : rotN 0 x = x := by unfold rotN; exact iter_zero _ _
theorem rotN_succ (n x : Nat) : rotN (n + 1) x = rotN n (rot1 x) := by unfold rotN; exact iter_succ _ _ _
theorem movN_zero (x : Nat) : movN 0 x = x := by unfold movN; exact iter_zero _ _
theorem movN_succ (n x : Nat) : movN (n + 1) x = movN n (mov1 x) := by unfold movN; exact iter_succ _ _ _
theorem rot1_int (y : Nat) : (y : Int) / 2 + (y : Int) % 2 * 2147483648 = ((rot1 y : Nat) : Int) := by unfold rot1; omega
theorem mov1_int (y : Nat) : (y : Int) / 2 = ((mov1 y : Nat) : Int) := by unfold mov1; omega

/-- A new variable of a type whose zero value is an array. -/
theorem wpList_alloc_row {P : Program} {ops : Array Oper} {rest : List Oper} {o : Oper} {a : Act} {w : World} {Q : Exit → Act → World → Prop} (hgd : o.guard = none) (ty : TypeId) (ho : o.op = .alloc ty) (d : Option Tmp) (hd : o.dst = d) (cs : Array Value)
    (hz : ∀ w, (zeroValue ty).run P w = .ok (.agg cs) w) (h : wpList P ops Q rest (a.put d (.pointer (some ⟨w.heap.size, 0, none⟩))) (w.alloc (.cells cs ty))) : wpList P ops Q (o :: rest) a w := by
  subst hd
  refine wpList_plain hgd fun _ hK => ?_
  unfold Oper.wp execOp
  simp only [ho, Instr.alloc, Sem.run_bind, hz, Result.andThen_ok, newVar]
  exact hK _ _ h

def z64 : List Nat := List.replicate 64 0

theorem Tryd.zero71 : ∀ w, (zeroValue 71).run Tryd.prog w = .ok (.agg (arr .u32 z64)) w := (zero_of_info (t := 71) (n := 64) (by kernel_rfl)).1

theorem arr_one (k : IntKind) (l : List Nat) : (arr k l).all (·.oneCell') = true := by
  simp [arr, Value.oneCell']

end Go.Proofs.YtkipepodgmfbnabDoor
