/-
  A record's bytes: the contract of record's written.
-/
import Derived.Test.YtcbjlnabbfkkeaaRcD
namespace Go.Proofs.Ytcbjlnabbfkkeaa
open Go.ChangeShapes Go.WideShapes Go.ChangeAt Go.RowKit Go.Deep Go.Lib

def pathL (s : ByteArray) : List Int := s.data.toList.map fun b => ((b.toNat : Nat) : Int)
theorem pathL_len (s : ByteArray) : (pathL s).length = s.size := by simp [pathL]
theorem pathL_cells (s : ByteArray) : strCells s = (pathL s).map (Value.int .u8) := by simp [strCells, pathL]
def wrH (r : Rec) : List Int := ([82, r.kind] ++ vint r.seq ++ vint r.epoch) ++ r.prev
def wrB (r : Rec) : List Int := if r.kind = 1 then wrH r ++ [r.site] else if r.kind = 2 then ((wrH r ++ [(r.path.size : Int)]) ++ pathL r.path) ++ pcsB r.ps else (wrH r ++ [(r.path.size : Int)]) ++ pathL r.path

theorem app_u8 {x y : List Int} (h1 : ∀ z ∈ x, (Lit.int .u8 z).wf = true) (h2 : ∀ z ∈ y, (Lit.int .u8 z).wf = true) : ∀ z ∈ x ++ y, (Lit.int .u8 z).wf = true := fun z hz => by
  rcases List.mem_append.1 hz with h | h
  · exact h1 z h
  · exact h2 z h
theorem get_u8 {x : List Int} (h : ∀ z ∈ x, (Lit.int .u8 z).wf = true) (j : Nat) : (Lit.int .u8 (x.getD j 0)).wf = true := by
  by_cases hj : j < x.length
  · simpa [List.getD, List.getElem?_eq_getElem hj] using h _ (List.getElem_mem hj)
  · simp [List.getD, List.getElem?_eq_none (show x.length ≤ j by omega)]; exact wf_zero _
theorem mem_u8 {x : List Int} (h : ∀ j, (Lit.int .u8 (x.getD j 0)).wf = true) : ∀ z ∈ x, (Lit.int .u8 z).wf = true := fun z hz => by
  obtain ⟨j, hj, rfl⟩ := List.getElem_of_mem hz
  have := h j
  rwa [List.getD, List.getElem?_eq_getElem hj] at this
theorem vint_mem (x : Int) (h0 : 0 ≤ x) (h1 : x < 18446744073709551616) : ∀ z ∈ vint x, (Lit.int .u8 z).wf = true := mem_u8 (fun j => wf_mk_u8 (vint_u8 x h0 h1 j).1 (vint_u8 x h0 h1 j).2)
theorem pcs_mem (l : List Pc) (hl : l.length ≤ 100000) (h : ∀ x ∈ l, PcOk x ∧ nOk x = true) : ∀ z ∈ pcsB l, (Lit.int .u8 z).wf = true := by
  refine app_u8 (vint_mem _ (by omega) (by omega)) (fun z hz => ?_)
  obtain ⟨x, hx, hz⟩ := List.mem_flatMap.1 hz
  obtain ⟨h1, h2⟩ := h x hx
  have h3 := of_decide_eq_true h2
  exact app_u8 (vint_mem x.2 (by omega) (by omega)) (mem_u8 h1.u8) z hz
theorem pcs_u8 (l : List Pc) (hl : l.length ≤ 100000) (h : ∀ x ∈ l, PcOk x ∧ nOk x = true) (j : Nat) : (Lit.int .u8 ((pcsB l).getD j 0)).wf = true := get_u8 (pcs_mem l hl h) j
/-- A record's box, and the row of bytes that is made behind it. -/
structure Wr (w W : World) (r : Rec) (v : Value) (A : List Int) : Prop where
  own : W.ownsRow (w.heap.size + 1) 5 1 v A.length (A.map (Value.int .u8))
  box : Bx W w.heap.size r
  bel : Below w.heap.size w W
  few : A.length ≤ 1000
theorem Wr.ge {w W : World} {r : Rec} {v : Value} {A : List Int} (h : Wr w W r v A) : w.heap.size + 1 ≤ W.heap.size := h.box.lt
theorem Wr.later {w W W' : World} {r : Rec} {v : Value} {A : List Int} (h : Wr w W r v A) (hb : Below W.heap.size W W') : Wr w W' r v A := ⟨own_later h.own hb, h.box.later hb, Bn h.bel hb, h.few⟩
theorem Wr.app {w W W' : World} {r : Rec} {v v' : Value} {A Z : List Int} (h : Wr w W r v A) (ho : W'.ownsRow (w.heap.size + 1) 5 1 v' (A ++ Z).length ((A ++ Z).map (Value.int .u8))) (hb : Below (w.heap.size + 1) W W') (hl : (A ++ Z).length ≤ 1000) : Wr w W' r v' (A ++ Z) :=
  ⟨ho, ⟨(hb.block _ (Nat.lt_succ_self _)).trans h.box.blk, h.box.len⟩, h.bel.trans (hb.mono (Nat.le_succ _)), hl⟩
theorem own_base {w : World} {b c e n : Nat} {v : Value} {k : Nat} {xs : List Value} (h : w.ownsRow b e n v k xs) (hc : c ≤ b) : w.ownsRow c e n v k xs := by
  refine ⟨h.1, ?_⟩
  rcases h.2 with h | ⟨g, cap, cur, h1, h2, h3⟩
  · exact .inl h
  · exact .inr ⟨g, cap, cur, h1, Nat.le_trans hc h2, h3⟩
theorem Wr.start (w : World) (r : Rec) (x y : Int) (h : r.prev.length = 32) : Wr w ((w.alloc (.cells r.cs.toArray 36)).alloc (.cells #[.int .u8 x, .int .u8 y] 5)) r (.slice (some ⟨w.heap.size + 1, 0, none⟩) 2 2) [x, y] := by
  have s : (w.alloc (.cells r.cs.toArray 36)).heap.size = w.heap.size + 1 := by simp
  refine ⟨⟨rfl, .inr ⟨w.heap.size + 1, 2, #[.int .u8 x, .int .u8 y], rfl, Nat.le_refl _, ?_, Nat.le_refl _, by unfold maxLen; omega, rfl, rfl⟩⟩, (Bx.mk' w r h).later (bel_alc _ _), Bn (bel_alc _ _) (bel_alc _ _), by simp⟩
  have := heap_alc (w.alloc (.cells r.cs.toArray 36)) (.cells #[.int .u8 x, .int .u8 y] 5)
  rw [s] at this
  exact this
end Go.Proofs.Ytcbjlnabbfkkeaa
