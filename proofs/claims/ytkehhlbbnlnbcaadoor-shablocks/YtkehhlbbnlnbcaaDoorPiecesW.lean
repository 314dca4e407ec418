/-
  What the statement ShaPieces needs besides: pieces of lists of rows, and the steps of its regions.
-/
import Derived.Test.YtkehhlbbnlnbcaaDoorMethods
namespace Go.Proofs.YtkehhlbbnlnbcaaDoor.shaPieces
open Go.ChangeShapes Go.WideShapes Go.ChangeAt Go.RowKit Sha

theorem grown_bel {w w' : World} {g B : Nat} (h : w.grownBy w' (some g)) (hB : B ≤ g) (hs : B ≤ w.heap.size) : Below B w w' :=
  ⟨h.os, h.tape, h.output, h.size, fun k hk => h.block k (by omega) (by intro h; injection h with h; omega)⟩
theorem put_new (w : World) (l : List Nat) (tt g : Nat) (hg : g = w.heap.size) :
    Below w.heap.size w ((w.alloc (.cells (arr .u8 z32) tt)).setRow g (arr .u8 l)) ∧ ((w.alloc (.cells (arr .u8 z32) tt)).setRow g (arr .u8 l)).heap[g]? = some (.cells (arr .u8 l) tt (0, 0)) ∧ ((w.alloc (.cells (arr .u8 z32) tt)).setRow g (arr .u8 l)).heap.size = w.heap.size + 1 := by
  subst hg
  have b := bel_alloc w (.cells (arr .u8 z32) tt)
  have e := heap_new w (.cells (arr .u8 z32) tt)
  have h1 := setRow_heap _ w.heap.size _ (arr .u8 l) _ _ e
  refine ⟨below_setRow b (Nat.le_refl _) _, h1, ?_⟩
  simp
theorem ps_take {w : World} {a : Option Addr} {cap : Nat} {l : List (List Nat)} (h : Ps w a cap l) (n : Nat) : Ps w a cap (l.take n) := by
  have hr := h.room
  have hle : (l.take n).length ≤ l.length := by simp; omega
  refine ⟨by omega, h.most, fun h0 => ?_⟩
  obtain ⟨b, off, ha, hbw, hc⟩ := h.cells (by omega)
  refine ⟨b, off, ha, hbw, fun j hj => ?_⟩
  obtain ⟨v, a', cap', h1, h2⟩ := hc j (by omega)
  refine ⟨v, a', cap', h1, ?_⟩
  have e : (l.take n).getD j [] = l.getD j [] := by
    have : j < n := by simp at hj; omega
    simp [List.getD, List.getElem?_take_of_lt this]
  rw [e]; exact h2
theorem add_plain0 (a : Addr) : a.add 0 = a := by cases a; simp [Addr.add]
theorem add_block (a : Addr) (j : Nat) : (a.add j).block = a.block := by cases a; simp only [Addr.add]; split <;> rfl
theorem ps_vals {w : World} {ad : Addr} {cap : Nat} {l : List (List Nat)} (h : Ps w (some ad) cap l) : ∃ vals, Vals w vals l ∧ (∀ (j : Nat) (u : Value), vals[j]? = some u → w.cell? (ad.add j) = some u) ∧ ∀ u ∈ vals, u.oneCell' = true := by
  rcases Nat.eq_zero_or_pos l.length with h0 | h0
  · have := List.length_eq_zero_iff.1 h0
    subst this
    exact ⟨[], ⟨rfl, fun j hj => by simp at hj⟩, fun j u hu => by simp at hu, fun u hu => by simp at hu⟩
  · obtain ⟨b, off, hb, _, hc⟩ := h.cells h0
    injection hb with hb
    subst hb
    have key : ∀ j, j < l.length → ((List.range l.length).map fun j => (w.cell? ⟨b, off + j, none⟩).getD undef)[j]? = some ((w.cell? ⟨b, off + j, none⟩).getD undef) := by
      intro j hj
      simp [hj]
    refine ⟨(List.range l.length).map fun j => (w.cell? ⟨b, off + j, none⟩).getD undef, ⟨by simp, fun j hj => ?_⟩, fun j u hu => ?_, fun u hu => ?_⟩
    · obtain ⟨v, a', cap', h1, h2⟩ := hc j hj
      refine ⟨a', cap', ?_⟩
      rw [List.getD, key j hj, h1]
      exact h2
    · have hj : j < l.length := by have := (List.getElem?_eq_some_iff.1 hu).1; simpa using this
      rw [key j hj] at hu
      injection hu with hu
      obtain ⟨v, a', cap', h1, h2⟩ := hc j hj
      rw [Go.WideShapes.add_plain, h1, ← hu, h1]
      rfl
    · rw [List.mem_map] at hu
      obtain ⟨j, hj, rfl⟩ := hu
      obtain ⟨v, a', cap', h1, h2⟩ := hc j (List.mem_range.1 hj)
      rw [h1, Option.getD_some, h2.val]
      rfl

/-- '!=' of two arrays, as an operation. -/
theorem run_neq_op {P : Program} {oi : Oper} {ts : Array Value} {df : List Deferred} {t t2 : TypeId} {x y : Operand} (ho : oi.op = .binOp .neq t x y t2) {xs ys : Array Value} {b : Bool} (hx : Act.eval ⟨ts, df⟩ x = .agg xs) (hy : Act.eval ⟨ts, df⟩ y = .agg ys) (hg : P.eqGuardType P.depth t = false) {w : World}
    (h : (Op.equalIn 10000 t (.agg xs) (.agg ys)).run P w = .ok b w) : (execOp (Act.eval ⟨ts, df⟩) oi).run P w = .ok (.value (.bool (!b))) w := by
  unfold execOp
  simp only [ho, hx, hy, Sem.run_bind, run_eqGuard_agg w .neq t x y xs ys hg, run_neq_struct w t xs ys, h, Result.andThen_ok]
  rfl

/-- The state behind an operation that has a slot. -/
theorem put_slot {P : Program} {md : Region.Mode} {ops : Array Oper} {Q : Exit → Act → World → Prop} {S : World → Prop} {d : Nat} {o : Oper} (hd : o.dst = some d) {fuel : Nat} {listed : Array Bool} {ts : Array Value} {df : List Deferred} {v : Value} {w : World}
    (h : wpAnyH P md ops Q S fuel listed ⟨ts.setIfInBounds d v, df⟩ w) : wpAnyH P md ops Q S fuel listed (Act.put ⟨ts, df⟩ o.dst v) w := by
  rw [hd]; exact h
theorem own_rows_later {w w' : World} {B n : Nat} {v : Value} {xs : List Value} (h : w.ownsRow B 35 1 v n xs) (hb : Below w.heap.size w w') : w'.ownsRow B 35 1 v n xs := by
  refine ⟨h.1, ?_⟩
  rcases h.2 with h1 | ⟨g, cap, cur, hv, hg, hh, hr⟩
  · exact Or.inl h1
  · have hlt : g < w.heap.size := (Array.getElem?_eq_some_iff.1 hh).1
    exact Or.inr ⟨g, cap, cur, hv, hg, (hb.block g hlt).trans hh, hr⟩
theorem small24 (k : Nat) (h : k + 1 ≤ 20) : 0 + (k + 1) ≤ maxLen ∧ (0 + (k + 1)) * 24 ≤ 140737488355328 ∧ 0 + (k + 1) + 1 ≤ maxLen ∧ (0 + (k + 1) + 1) * 24 ≤ 140737488355328 := by unfold maxLen; omega
theorem mem_len (m : List (List Nat)) (k : Nat) (hk : k < m.length) : (m.getD k []).length ≤ m.flatten.length := by
  have e : m.getD k [] = m[k] := by simp [List.getD, List.getElem?_eq_getElem hk]
  rw [e]
  exact (List.sublist_flatten_of_mem (List.getElem_mem hk)).length_le
end Go.Proofs.YtkehhlbbnlnbcaaDoor.shaPieces
