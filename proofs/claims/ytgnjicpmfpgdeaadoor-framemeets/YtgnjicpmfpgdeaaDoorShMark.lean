/-
  A row of bytes of one's own that a string was turned into: its mark lies behind it. What append makes of it.
-/
import Derived.Test.YtgnjicpmfpgdeaaDoorShMacSumW
import Derived.Lib.ConvBytes
namespace Go.Proofs.YtgnjicpmfpgdeaaDoor.Sh
open Go.RowKit Sha

/-- A row of bytes of one's own, marked behind its end, if at all. -/
def OwnM (w : World) (B : Nat) (v : Value) (n : Nat) (xs : List Value) : Prop :=
  xs.length = n ∧ ∃ g cap cur fz, v = .slice (some ⟨g, 0, none⟩) n cap ∧ B ≤ g ∧ w.heap[g]? = some (.cells cur 5 fz) ∧ (fz = (0, 0) ∨ cap ≤ fz.1) ∧ n ≤ cap ∧ cap ≤ maxLen ∧ cur.size = cap ∧ cur.toList.take n = xs

theorem OwnM.later {w w' : World} {B n : Nat} {v : Value} {xs : List Value} (h : OwnM w B v n xs) (hb : Below w.heap.size w w') : OwnM w' B v n xs := by
  obtain ⟨h1, g, cap, cur, fz, hv, hg, hh, hr⟩ := h
  exact ⟨h1, g, cap, cur, fz, hv, hg, (hb.block g (Array.getElem?_eq_some_iff.1 hh).1).trans hh, hr⟩
theorem OwnM.lt {w : World} {B n : Nat} {v : Value} {xs : List Value} (h : OwnM w B v n xs) : ∀ j, v.ownBlock = some j → B ≤ j := by
  obtain ⟨_, g, cap, cur, fz, rfl, hg, _⟩ := h
  intro j hj
  simp [Value.ownBlock] at hj
  omega
theorem OwnM.cellAt {w : World} {B n g cap : Nat} {xs : List Value} (h : OwnM w B (.slice (some ⟨g, 0, none⟩) n cap) n xs) (j : Nat) (hj : j < n) : w.cell? ⟨g, j, none⟩ = xs[j]? := by
  obtain ⟨_, g', cap', cur, fz, hv, _, hh, _, _, _, _, ht⟩ := h
  injection hv with h1 h2 h3
  injection h1 with h1
  injection h1 with h1
  subst h1
  rw [Joins.cell_of_block hh j, ← ht, List.getElem?_take, if_pos hj]
  simp
theorem rd_ownM {w : World} {B : Nat} {v : Value} {l : List Nat} (h : OwnM w B v l.length (V l)) (hz : ∀ j, l.getD j 0 < 256) :
    ∃ g cap, v = .slice (some ⟨g, 0, none⟩) l.length cap ∧ Rd w v (some ⟨g, 0, none⟩) cap l := by
  have h' := h
  obtain ⟨_, g, cap, cur, fz, rfl, _, hh, _, hn, hc, _, _⟩ := h
  refine ⟨g, cap, rfl, rfl, hn, hc, fun _ => ⟨g, 0, rfl, (Array.getElem?_eq_some_iff.1 hh).1, fun j hj => ?_⟩, hz, fun h => by cases h⟩
  rw [Nat.zero_add, h'.cellAt j hj]
  simp [V, List.getD, List.getElem?_eq_getElem hj]

theorem append_M (w : World) (B : Nat) (v : Value) (n : Nat) (xs : List Value) (h : OwnM w B v n xs) (ad : Addr) (u : Value) (h1 : u.oneCell' = true) (hu : w.cell? ad = some u) (hn : n ≤ 1000000) (hB : B ≤ w.heap.size) (ty : TypeId) :
    ∃ v' w', (Builtin.append_ #[22, 22] ty #[v, .slice (some ad) 1 1]).run Tryd.prog w = .ok v' w' ∧ OwnM w' B v' (n + 1) (xs ++ [u]) ∧ w.grownBy w' v.ownBlock := by
  obtain ⟨i0, hi, hz0, hz1, hz2⟩ := info_parts Tryd.info5
  have h' := h
  obtain ⟨hxl, g, cap, cur, fz, rfl, hBg, hh, hfz, hnc, hcm, hcs, htk⟩ := h
  have hf := run_firstCells_some (P := Tryd.prog) w 1 1 ad 1 1 [u] rfl (fun j x hx => by
    match j, hx with
    | 0, hx => simp at hx; subst hx; rw [add_plain']; exact hu)
  by_cases hroom : n + 1 ≤ cap
  · have hcell : w.cell? ⟨g, n, none⟩ = some cur[n] := by simp [World.cell?, hh, show n < cur.size from by omega]
    have hfro : w.frozen? ⟨g, n, none⟩ = false := by
      obtain ⟨lo, hi'⟩ := fz
      simp only [World.frozen?, hh, Bool.and_eq_false_iff, decide_eq_false_iff_not]
      rcases hfz with h | h
      · injection h with h2 h3
        right
        omega
      · left
        simp only at h
        omega
    have hst : (store ⟨g, n, none⟩ u).run Tryd.prog w = .ok () (w.setRow g (cur.setIfInBounds n u)) := by
      rw [run_store Tryd.prog w _ u _ h1, hcell]
      simp [hfro, setCell_eq_setRow w g n cur 5 fz u hh]
    have hadd : (⟨g, n, none⟩ : Addr).add 0 = ⟨g, n, none⟩ := add_plain' _
    have hsc : (storeCells ⟨g, n, none⟩ [u] 0).run Tryd.prog w = .ok () (w.setRow g (cur.setIfInBounds n u)) := by
      simp only [storeCells, Sem.run_bind, hadd, hst, Result.andThen_ok]
      rfl
    refine ⟨.slice (some ⟨g, 0, none⟩) (n + 1) cap, w.setRow g (cur.setIfInBounds n u), ?_, ⟨by simp [hxl], g, cap, _, fz, rfl, hBg, setRow_heap _ _ _ _ _ _ hh, hfz, hroom, hcm, by simp [hcs], ?_⟩, ?_⟩
    · simp [Builtin.append_, run_underlying Tryd.underlying22, sizeOf, typeInfo, hi, hz1, Builtin.lenOf, hroom, hf, Addr.add_lit, hsc]
    · rw [Array.toList_setIfInBounds, List.take_succ_eq_append_getElem (by simp; omega), List.take_set_of_le (Nat.le_refl _), htk]
      simp
    · exact grown_setRow _ _ _
  · have holds : ∀ j x, xs[j]? = some x → w.cell? ((⟨g, 0, none⟩ : Addr).add j) = some x := by
      intro j x hx
      have hj : j < n := by have := (List.getElem?_eq_some_iff.1 hx).1; omega
      rw [Go.WideShapes.add_plain, Nat.zero_add, h'.cellAt j hj, hx]
    have hr := run_append_grow (P := Tryd.prog) w 22 ty 5 i0 (.int .u8 0) Tryd.underlying22 hi hz0 ⟨g, 0, none⟩ n cap xs (by rw [hxl, hz1, Nat.mul_one]) holds ad 1 1 [u] (by rw [hz1]; rfl) (fun j x hx => by
      match j, hx with
      | 0, hx => simp at hx; subst hx; rw [add_plain']; exact hu) (by omega) (by omega) (growslice_fits (by omega) (by rw [hz2]; omega))
    have hge := grownCap_ge w (n + 1) cap 5
    have hcm2 : grownCap w (n + 1) cap 5 ≤ maxLen := grownCap_le_maxLen w (n + 1) cap 5 (by unfold maxLen; omega)
    refine ⟨_, _, hr, ⟨by simp [hxl], w.heap.size, _, _, (0, 0), rfl, hB, heap_alloc_new w.drew _, Or.inl rfl, hge, hcm2, ?_, ?_⟩, ⟨rfl, rfl, rfl, by simp, fun k hk _ => (bel_alloc w.drew _).block k hk⟩⟩
    · simp only [Array.size_append, List.size_toArray, size_zeroCells, Value.cells, hxl, List.length_singleton]
      simp
      omega
    · simp only [Array.toList_append, List.append_assoc]
      rw [← List.append_assoc, show n + 1 = (xs ++ [u]).length from by simp [hxl]]
      exact List.take_left
end Go.Proofs.YtgnjicpmfpgdeaaDoor.Sh
