/-
  '==' of any two arrays of bytes, and the contract of mac.Same.
-/
import Derived.Test.YtgnjicpmfpgdeaaDoorShMacSumW
namespace Go.Proofs.YtgnjicpmfpgdeaaDoor.Sh
open Go.ChangeShapes Go.WideShapes Go.ChangeAt Go.RowKit Sha

theorem Tryd.cells5 : Tryd.prog.cellsOf 5 = 1 := by kernel_rfl
theorem Tryd.infoU8 : ∃ i, Tryd.prog.info? 5 = some i := info_of_underlying Tryd.underlying5
theorem eq_items_any {P : Program} (d : Nat) {e : TypeId} {k : IntKind} (he : P.underlying e = some (.int k)) (l m : List Nat) (w : World) :
    ∀ is : List Nat, (∀ i ∈ is, i < l.length ∧ i < m.length) → (Op.eqItems (d + 1) e 1 (arr k l) (arr k m) is).run P w = .ok (is.all fun i => l.getD i 0 == m.getD i 0) w
  | [], _ => rfl
  | i :: is, h => by
    have hi := h i (by simp)
    have ih := eq_items_any d he l m w is (fun j hj => h j (by simp [hj]))
    have ha : (isAgg e).run P w = .ok false w := by
      unfold isAgg
      rw [Sem.run_bind, run_underlying he w]
      rfl
    have hp : ∀ q : List Nat, i < q.length → (part e (arr k q) (i * 1)).run P w = .ok (.int k ((q.getD i 0 : Nat) : Int)) w := by
      intro q hq
      unfold part
      simp [Sem.run_bind, ha, arr_get k q i hq]
    simp only [Op.eqItems, Sem.run_bind, hp l hi.1, hp m hi.2, Result.andThen_ok, run_equalIn_int w d e k k _ _ he, List.all_cons]
    generalize l.getD i 0 = x at *
    generalize m.getD i 0 = y at *
    by_cases hq : x = y
    · subst hq
      simpa using ih
    · have h1 : ¬ (x : Int) = (y : Int) := by omega
      simp [hq, h1]

/-- Whether two rows have the same bytes. -/
def eqB (n : Nat) (l m : List Nat) : Bool := (List.range n).all fun i => l.getD i 0 == m.getD i 0
theorem eqB_same (n : Nat) (l : List Nat) : eqB n l l = true := by simp [eqB]

theorem eq_arr_any {P : Program} {t e : TypeId} {n : Nat} {k : IntKind} {i : TypeInfo} (ht : P.underlying t = some (.array n e)) (hi : P.info? e = some i) (hc : P.cellsOf e = 1) (he : P.underlying e = some (.int k)) (l m : List Nat) (hl : l.length = n) (hm : m.length = n) (w : World) :
    (Op.equalIn 10000 t (.agg (arr k l)) (.agg (arr k m))).run P w = .ok (eqB n l m) w := by
  rw [show (10000 : Nat) = 9999 + 1 from rfl, run_equalIn_array w 9999 _ _ ht hi, hc]
  exact eq_items_any 9998 he l m w _ (fun j hj => by rw [hl, hm]; have := List.mem_range.1 hj; exact ⟨this, this⟩)
theorem eq26_any (l m : List Nat) (hl : l.length = 32) (hm : m.length = 32) (w : World) : (Op.equalIn 10000 39 (.agg (arr .u8 l)) (.agg (arr .u8 m))).run Tryd.prog w = .ok (eqB 32 l m) w := by
  obtain ⟨i, hi⟩ := Tryd.infoU8
  exact eq_arr_any Tryd.underlying39 hi Tryd.cells5 Tryd.underlying5 l m hl hm w

set_option maxRecDepth 100000 in
theorem same_word (a b : List Nat) (w : World) (ha : a.length = 32) (hb : b.length = 32) :
    Calls Tryd.prog 49 #[.agg (arr .u8 a), .agg (arr .u8 b)] w fun e w' => e = .returned (.bool (eqB 32 a b)) ∧ Below w.heap.size w w' := by
  have b1 := bel_alloc w (.cells (arr .u8 a) 39)
  have e1 := heap_new w (.cells (arr .u8 a) 39)
  have s1 : (w.alloc (.cells (arr .u8 a) 39)).heap.size = w.heap.size + 1 := by simp
  have b2 := bel_alloc (w.alloc (.cells (arr .u8 a) 39)) (.cells (arr .u8 b) 39)
  have e2 := heap_new (w.alloc (.cells (arr .u8 a) 39)) (.cells (arr .u8 b) 39)
  rw [s1] at e2
  have e1' : ((w.alloc (.cells (arr .u8 a) 39)).alloc (.cells (arr .u8 b) 39)).heap[w.heap.size]? = some (.cells (arr .u8 a) 39 (0, 0)) := by rw [b2.block _ (by omega)]; exact e1
  have HB := hid (Bn b1 b2)
  have hq := eq26_any a b ha hb
  have hg := guard25
  have za : (Tryd.prog.info? 39).map (·.size) = some (arr .u8 a).size := by rw [arr_size, ha]; exact Tryd.size39'
  have zb : (Tryd.prog.info? 39).map (·.size) = some (arr .u8 b).size := by rw [arr_size, hb]; exact Tryd.size39'
  generalize eqB 32 a b = q at *
  clear b1 e1 b2
  go_enter Tryd.func49, Tryd.ntmps49
  go_wp2_with (first
    | (refine wpList_load_row rfl 39 _ rfl w.heap.size rfl 39 (arr .u8 a) (0, 0) _ e1' Tryd.underlying39 rfl za ?_)
    | (refine wpList_load_row rfl 39 _ rfl (w.heap.size + 1) rfl 39 (arr .u8 b) (0, 0) _ e2 Tryd.underlying39 rfl zb ?_))
  go_ret
  exact ⟨rfl, HB.out⟩
end Go.Proofs.YtgnjicpmfpgdeaaDoor.Sh
