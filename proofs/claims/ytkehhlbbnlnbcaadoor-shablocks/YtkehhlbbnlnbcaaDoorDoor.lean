/-
  What the rows' condition on the program's two tables gives; the arguments that the statements take; what '==' says of equal arrays.
-/
import Derived.Test.YtkehhlbbnlnbcaaDoorAlive
import Derived.Test.YtkehhlbbnlnbcaaDoorTie
import Derived.Test.YtkehhlbbnlnbcaaDoorCards
import Derived.LaidMore
import Derived.Lib.LaidTab
import Derived.Stop.Joined
import Derived.DeepKeys
import Derived.Laws.StructEq
namespace Go.Proofs.YtkehhlbbnlnbcaaDoor
open Go.ChangeShapes Go.WideShapes Go.ChangeAt Go.RowKit Sha

def laidL : List (String × DataW Unit) := [("saltern/sha.start", Rows.laid_saltern_sha_start), ("saltern/sha.constants", Rows.laid_saltern_sha_constants)]

theorem own : ownKnob Tryd.prog.godebug = none := by kernel_rfl
theorem gStart : Tryd.prog.globalNamed "saltern/sha.start" = some 1 := by kernel_rfl
theorem gConst : Tryd.prog.globalNamed "saltern/sha.constants" = some 0 := by kernel_rfl
theorem tStart : (Tryd.prog.globals[1]?).map (·.type) = some 31 := by kernel_rfl
theorem tConst : (Tryd.prog.globals[0]?).map (·.type) = some 61 := by kernel_rfl
theorem Tryd.cells30 : Tryd.prog.cellsOf 30 = 1 := by kernel_rfl
theorem Tryd.cells31 : Tryd.prog.cellsOf 31 = 8 := by kernel_rfl
theorem Tryd.cells61 : Tryd.prog.cellsOf 61 = 64 := by kernel_rfl

/-- The door's own heap meets the condition. -/
theorem door_met (os : Os) (args : Array Value) : laidMetH Tryd.prog laidL ((World.doorLaid Tryd.prog 400 os).forCall (fun _ _ => 0) ⟨#[], args, []⟩).memory :=
  laidMetH_of_parts3 (fuel := 8) (laidMet_of_run' 8 (by kernel_rfl) (by kernel_rfl)) (by kernel_rfl) (by kernel_rfl)

theorem of_laid {W : World} (h : laidMetH Tryd.prog laidL W) : Laid W := by
  rw [MakeChecks.laidMetH_plain _ _ _ (by kernel_rfl)] at h
  obtain ⟨ps, ⟨g0, t0, cs0, f0, p0, q0, hg0, ht0, hv0, hd0, ⟨g1, t1, cs1, f1, p1, q1, hg1, ht1, hv1, hd1, _, _⟩, _⟩, _, _⟩ := h
  obtain rfl := Option.some.inj (gStart.symm.trans hg0)
  obtain rfl := Option.some.inj (gConst.symm.trans hg1)
  obtain rfl := Option.some.inj (tStart.symm.trans ht0)
  obtain rfl := Option.some.inj (tConst.symm.trans ht1)
  have e0 := Lib.cells_of_tab (zs := ints Sha.start.list) Tryd.underlying31 Tryd.underlying30 Tryd.cells30 Tryd.cells31 hd0
  have e1 := Lib.cells_of_tab (zs := ints kL) Tryd.underlying61 Tryd.underlying30 Tryd.cells30 Tryd.cells61 hd1
  have c0 : ∀ i, W.cell? ⟨1, i, none⟩ = ((ints Sha.start.list).map fun z => Value.int .u32 z)[i]? := fun i => by
    have := World.var?_cell hg0 hv0 i
    rw [this, ← e0]; simp
  have c1 : ∀ i, W.cell? ⟨0, i, none⟩ = ((ints kL).map fun z => Value.int .u32 z)[i]? := fun i => by
    have := World.var?_cell hg1 hv1 i
    rw [this, ← e1]; simp
  refine ⟨fun i hi => ?_, fun i hi => ?_, ?_⟩
  · rw [c1 i]
    simp [ints, List.getD, List.getElem?_eq_getElem (show i < kL.length from hi)]
  · rw [c0 i]
    simp [ints, List.getD, List.getElem?_eq_getElem (show i < Sha.start.list.length from hi)]
  · have := World.block_lt_of_cell? W ⟨1, 0, none⟩ (c0 0)
    exact this

theorem eq_items_same {P : Program} (d : Nat) {e : TypeId} {k : IntKind} (he : P.underlying e = some (.int k)) (l : List Nat) (w : World) :
    ∀ is : List Nat, (∀ i ∈ is, i < l.length) → (Op.eqItems (d + 1) e 1 (arr k l) (arr k l) is).run P w = .ok true w
  | [], _ => rfl
  | i :: is, h => by
    have hi := h i (by simp)
    have ih := eq_items_same d he l w is (fun j hj => h j (by simp [hj]))
    have hp : (part e (arr k l) (i * 1)).run P w = .ok (.int k ((l.getD i 0 : Nat) : Int)) w := by
      have ha : (isAgg e).run P w = .ok false w := by
        unfold isAgg
        rw [Sem.run_bind, run_underlying he w]
        rfl
      unfold part
      simp [Sem.run_bind, ha, arr_get k l i hi]
    simp only [Op.eqItems, Sem.run_bind, hp, Result.andThen_ok, run_equalIn_int w d e k k _ _ he]
    simpa using ih

/-- '==' of an array of numbers with itself. -/
theorem eq_arr_same {P : Program} {t e : TypeId} {n : Nat} {k : IntKind} {i : TypeInfo} (ht : P.underlying t = some (.array n e)) (hi : P.info? e = some i) (hc : P.cellsOf e = 1) (he : P.underlying e = some (.int k)) (l : List Nat) (hl : l.length = n) (w : World) :
    (Op.equalIn 10000 t (.agg (arr k l)) (.agg (arr k l))).run P w = .ok true w := by
  rw [show (10000 : Nat) = 9999 + 1 from rfl, run_equalIn_array w 9999 _ _ ht hi, hc]
  exact eq_items_same 9998 he l w _ (fun j hj => by rw [hl]; exact List.mem_range.1 hj)

theorem Tryd.info30 : ∃ i, Tryd.prog.info? 30 = some i := info_of_underlying Tryd.underlying30
theorem Tryd.infoU8 : ∃ i, Tryd.prog.info? 5 = some i := info_of_underlying Tryd.underlying5
theorem Tryd.cells5 : Tryd.prog.cellsOf 5 = 1 := by kernel_rfl

theorem eq31 (l : List Nat) (hl : l.length = 8) (w : World) : (Op.equalIn 10000 31 (.agg (arr .u32 l)) (.agg (arr .u32 l))).run Tryd.prog w = .ok true w := by
  obtain ⟨i, hi⟩ := Tryd.info30
  exact eq_arr_same Tryd.underlying31 hi Tryd.cells30 Tryd.underlying30 l hl w
theorem eq25 (l : List Nat) (hl : l.length = 32) (w : World) : (Op.equalIn 10000 25 (.agg (arr .u8 l)) (.agg (arr .u8 l))).run Tryd.prog w = .ok true w := by
  obtain ⟨i, hi⟩ := Tryd.infoU8
  exact eq_arr_same Tryd.underlying25 hi Tryd.cells5 Tryd.underlying5 l hl w
theorem eq24 (l : List Nat) (hl : l.length = 32) (w : World) : (Op.equalIn 10000 24 (.agg (arr .u8 l)) (.agg (arr .u8 l))).run Tryd.prog w = .ok true w := by
  obtain ⟨i, hi⟩ := Tryd.infoU8
  exact eq_arr_same Tryd.underlying24 hi Tryd.cells5 Tryd.underlying5 l hl w
theorem digest_length (l : List Nat) : (digest l).length = 32 := rfl
end Go.Proofs.YtkehhlbbnlnbcaaDoor
