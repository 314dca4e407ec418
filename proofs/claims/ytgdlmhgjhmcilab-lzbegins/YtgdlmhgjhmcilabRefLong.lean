/-
  The contracts of the document's longest and Longest.
-/
import Derived.Test.YtgdlmhgjhmcilabCom
import Derived.Lib.SmallJoins
namespace Go.Proofs.Ytgdlmhgjhmcilab
open Go.RowKit Lz

theorem bel_alloc (w : World) (o : Obj) : Below w.heap.size w (w.alloc o) := (Below.refl _ _).alloc (Nat.le_refl _) o
theorem heap_new (w : World) (o : Obj) : (w.alloc o).heap[w.heap.size]? = some o := by
  show (w.heap.push o)[w.heap.size]? = _
  simp
theorem heap_old (w : World) (o : Obj) {i : Nat} {x : Obj} (h : w.heap[i]? = some x) : (w.alloc o).heap[i]? = some x := (Below.heap_alloc w o i (Array.getElem?_eq_some_iff.1 h).1).trans h

def tokV (t : Tok) : Array Value := #[.int .i64 (t.1 : Int), .int .i64 (t.2.1 : Int), .int .u8 t.2.2]
/-- Block B is a token. -/
def Tb (W : World) (B : Nat) (t : Tok) : Prop := W.heap[B]? = some (.cells (tokV t) 34 (0, 0))
theorem Tb.c0 {W : World} {B : Nat} {t : Tok} (h : Tb W B t) : W.cell? ⟨B, 0, none⟩ = some (.int .i64 (t.1 : Int)) := Joins.cell_of_block h 0
theorem Tb.c1 {W : World} {B : Nat} {t : Tok} (h : Tb W B t) : W.cell? ⟨B, 1, none⟩ = some (.int .i64 (t.2.1 : Int)) := Joins.cell_of_block h 1
theorem Tb.c2 {W : World} {B : Nat} {t : Tok} (h : Tb W B t) : W.cell? ⟨B, 2, none⟩ = some (.int .u8 t.2.2) := Joins.cell_of_block h 2
theorem Tb.f {W : World} {B : Nat} {t : Tok} (h : Tb W B t) (i : Nat) : W.frozen? ⟨B, i, none⟩ = false := Joins.unfrozen_of_block h i

theorem heap_put_other {w : World} {g k i : Nat} {cs : Array Value} {t : TypeId} {fr : Nat × Nat} (h : w.heap[g]? = some (.cells cs t fr)) (hk : k ≠ g) (v : Value) : (w.setCell ⟨g, i, none⟩ v).heap[k]? = w.heap[k]? := by
  rw [setCell_eq_setRow w g i cs t fr v h]
  exact setRow_other w g k _ hk

def put3 (W : World) (B : Nat) (t : Tok) : World := ((W.setCell ⟨B, 0, none⟩ (.int .i64 (t.1 : Int))).setCell ⟨B, 1, none⟩ (.int .i64 (t.2.1 : Int))).setCell ⟨B, 2, none⟩ (.int .u8 t.2.2)
theorem Tb.set {W : World} {B : Nat} {t : Tok} (h : Tb W B t) (t' : Tok) : Tb (put3 W B t') B t' := by
  unfold Tb put3
  rw [Joins.block_setCell (Joins.block_setCell (Joins.block_setCell h _) _) _]
  rfl
theorem Tb.other {W : World} {B B' : Nat} {t t' : Tok} (h : Tb W B t) (hne : B' ≠ B) {o : Option Obj} (h2 : W.heap[B']? = o) : (put3 W B t').heap[B']? = o := by
  have h1 := Joins.block_setCell (i := 0) h (.int .i64 (t'.1 : Int))
  have h3 := Joins.block_setCell (i := 1) h1 (.int .i64 (t'.2.1 : Int))
  unfold put3
  rw [heap_put_other h3 hne, heap_put_other h1 hne, heap_put_other h hne, h2]
theorem Tb.bel {W w : World} {B n : Nat} {t : Tok} (_h : Tb W B t) (hb : Below n w W) (hn : n ≤ B) (t' : Tok) : Below n w (put3 W B t') := by
  unfold put3
  exact ((hb.setCell (p := ⟨B, 0, none⟩) hn _).setCell (p := ⟨B, 1, none⟩) hn _).setCell (p := ⟨B, 2, none⟩) hn _

theorem ahead_take {q d : Nat} (h1 : d < q) (h2 : d < 4096) : (aheadL q).take (d + 1) = (aheadL q).take d ++ [q - (d + 1)] := by
  have hl : d < (aheadL q).length := by simp [aheadL]; omega
  rw [List.take_succ_eq_append_getElem hl]
  congr 2
  simp [aheadL]; omega

end Go.Proofs.Ytgdlmhgjhmcilab
