/-
  The contract of the closure that takes the least node.
-/
import Derived.Test.YtgecoiakhmnilaaTreeMath
import Derived.Test.YtgecoiakhmnilaaByCount
namespace Go.Proofs.Ytgecoiakhmnilaa
open Go.RowKit Hf

/-- What lies where while the tree is made: the variables symbols, nodes, leaf and pair, and the row of nodes. -/
structure TM (w wr : World) (gy gN gl gp gr capN n : Nat) (vy : Value) (s : TS) : Prop where
  sy : wr.heap[gy]? = some (.cells #[vy] 22 (0, 0))
  nd : wr.heap[gN]? = some (.cells #[.slice (some ⟨gr, 0, none⟩) s.N.length capN] 75 (0, 0))
  lf : wr.heap[gl]? = some (.cells #[.int .i64 (s.l : Int)] 3 (0, 0))
  pr : wr.heap[gp]? = some (.cells #[.int .i64 (s.p : Int)] 3 (0, 0))
  row : wr.ownsRow w.heap.size 78 2 (.slice (some ⟨gr, 0, none⟩) s.N.length capN) s.N.length ((flatN s.N).map (Value.int .i64))
  ne : gl ≠ gp
  by' : w.heap.size ≤ gy
  bN : w.heap.size ≤ gN
  bl : w.heap.size ≤ gl
  bp : w.heap.size ≤ gp
  bel : Below w.heap.size w wr

theorem TM.wtCell {w wr : World} {gy gN gl gp gr capN n : Nat} {vy : Value} {s : TS} (h : TM w wr gy gN gl gp gr capN n vy s) (i : Nat) (hi : i < s.N.length) : wr.cell? ⟨gr, i * 2, none⟩ = some (.int .i64 (wt s.N i)) := by
  rw [Nat.mul_comm i 2, h.row.cellAt (2 * i) (by omega), List.getElem?_map, ← flatN_wt]
  have hl := flatN_length s.N
  simp [List.getD, List.getElem?_eq_getElem (show 2 * i < (flatN s.N).length from by omega)]
theorem TM.rowBlk {w wr : World} {gy gN gl gp gr capN n : Nat} {vy : Value} {s : TS} (h : TM w wr gy gN gl gp gr capN n vy s) : ∃ cur, wr.heap[gr]? = some (.cells cur 78 (0, 0)) := by
  rcases h.row.2 with ⟨hv, _⟩ | ⟨g, cap, cur, hv, hb, hg, _⟩
  · cases hv
  · injection hv with hv
    injection hv with hv
    injection hv with hv _
    subst hv
    exact ⟨cur, hg⟩
theorem ne_of_type {wr : World} {a b : Nat} {c1 c2 : Array Value} {t1 t2 : TypeId} {m1 m2 : Nat × Nat} (h1 : wr.heap[a]? = some (.cells c1 t1 m1)) (h2 : wr.heap[b]? = some (.cells c2 t2 m2)) (ht : t1 ≠ t2) : a ≠ b := by
  intro e; subst e
  rw [h1] at h2
  injection h2 with h2
  injection h2 with _ h3 _
  exact ht h3
theorem TM.drew {w wr : World} {gy gN gl gp gr capN n : Nat} {vy : Value} {s : TS} (h : TM w wr gy gN gl gp gr capN n vy s) : TM w wr.drew gy gN gl gp gr capN n vy s :=
  ⟨h.sy, h.nd, h.lf, h.pr, h.row, h.ne, h.by', h.bN, h.bl, h.bp, h.bel.drew⟩
theorem TM.setL {w wr : World} {gy gN gl gp gr capN n : Nat} {vy : Value} {s : TS} (h : TM w wr gy gN gl gp gr capN n vy s) (x : Nat) : TM w (wr.setCell ⟨gl, 0, none⟩ (.int .i64 (x : Int))) gy gN gl gp gr capN n vy ⟨s.N, x, s.p⟩ := by
  obtain ⟨cur, hcur⟩ := h.rowBlk
  have n1 : gy ≠ gl := ne_of_type h.sy h.lf (by decide)
  have n2 : gN ≠ gl := ne_of_type h.nd h.lf (by decide)
  have n3 : gr ≠ gl := ne_of_type hcur h.lf (by decide)
  refine ⟨by rw [heap_put_other h.lf n1]; exact h.sy, by rw [heap_put_other h.lf n2]; exact h.nd, by rw [Joins.block_setCell h.lf]; rfl, by rw [heap_put_other h.lf (Ne.symm h.ne)]; exact h.pr, ?_, h.ne, h.by', h.bN, h.bl, h.bp, h.bel.setCell (show w.heap.size ≤ (Addr.mk gl 0 none).block from h.bl) _⟩
  exact ownsRow_setCell_other h.row (by simp [Value.ownBlock]; exact n3) _
theorem TM.setP {w wr : World} {gy gN gl gp gr capN n : Nat} {vy : Value} {s : TS} (h : TM w wr gy gN gl gp gr capN n vy s) (x : Nat) : TM w (wr.setCell ⟨gp, 0, none⟩ (.int .i64 (x : Int))) gy gN gl gp gr capN n vy ⟨s.N, s.l, x⟩ := by
  obtain ⟨cur, hcur⟩ := h.rowBlk
  have n1 : gy ≠ gp := ne_of_type h.sy h.pr (by decide)
  have n2 : gN ≠ gp := ne_of_type h.nd h.pr (by decide)
  have n3 : gr ≠ gp := ne_of_type hcur h.pr (by decide)
  refine ⟨by rw [heap_put_other h.pr n1]; exact h.sy, by rw [heap_put_other h.pr n2]; exact h.nd, by rw [heap_put_other h.pr h.ne]; exact h.lf, by rw [Joins.block_setCell h.pr]; rfl, ?_, h.ne, h.by', h.bN, h.bl, h.bp, h.bel.setCell (show w.heap.size ≤ (Addr.mk gp 0 none).block from h.bp) _⟩
  exact ownsRow_setCell_other h.row (by simp [Value.ownBlock]; exact n3) _

set_option maxHeartbeats 1600000 in
set_option maxRecDepth 100000 in
theorem take_word (gy gN gl gp gr capN n : Nat) (ay : Option Addr) (cy : Nat) (s : TS) (w wr : World) (h : TM w wr gy gN gl gp gr capN n (.slice ay n cy) s) (hn : n ≤ 100000) (hlen : s.N.length ≤ 200000) (ln : s.l ≤ n) (np : n ≤ s.p) (pl : s.p ≤ s.N.length) (hfree : 0 < (n - s.l) + (s.N.length - s.p)) :
    Calls Try.prog 54 #[.pointer (some ⟨gp, 0, none⟩), .pointer (some ⟨gN, 0, none⟩), .pointer (some ⟨gl, 0, none⟩), .pointer (some ⟨gy, 0, none⟩)] wr fun e w' => e = .returned (.int .i64 ((takeA n s.N s.l s.p : Nat) : Int)) ∧ TM w w' gy gN gl gp gr capN n (.slice ay n cy) ⟨s.N, takeL n s.N s.l s.p, takeP n s.N s.l s.p⟩ := by
  have c1 : wr.cell? ⟨gp, 0, none⟩ = some (.int .i64 (s.p : Int)) := by have := Joins.cell_of_block h.pr 0; simpa using this
  have c2 : wr.cell? ⟨gN, 0, none⟩ = some (.slice (some ⟨gr, 0, none⟩) s.N.length capN) := by have := Joins.cell_of_block h.nd 0; simpa using this
  have c3 : wr.cell? ⟨gl, 0, none⟩ = some (.int .i64 (s.l : Int)) := by have := Joins.cell_of_block h.lf 0; simpa using this
  have c4 : wr.cell? ⟨gy, 0, none⟩ = some (.slice ay n cy) := by have := Joins.cell_of_block h.sy 0; simpa using this
  have f1 := Joins.unfrozen_of_block h.pr 0
  have f3 := Joins.unfrozen_of_block h.lf 0
  have hro := h.row.1
  by_cases hp : s.p = s.N.length
  · have hu : useLeaf n s.N s.l s.p = true := by unfold useLeaf; rw [hp]; simp
    have hll : s.l < n := by omega
    unfold takeA takeL takeP
    rw [hu]
    simp only [if_true]
    have HT := hid (h.drew.setL (s.l + 1))
    clear h hu hro
    rw [hp] at c1
    generalize s.N.length = len at *
    have hb : ((len : Int) == (len : Int)) = true := by simp
    generalize s.l = l at *
    clear hp
    go_enter Try.func54, Try.ntmps54
    go_wp2_with fail
    go_region
    have d1 : wr.drew.cell? ⟨gp, 0, none⟩ = some (.int .i64 (len : Int)) := c1
    have d3 : wr.drew.cell? ⟨gl, 0, none⟩ = some (.int .i64 (l : Int)) := c3
    have g1 : wr.drew.frozen? ⟨gp, 0, none⟩ = false := f1
    have g3 : wr.drew.frozen? ⟨gl, 0, none⟩ = false := f3
    clear c1 c2 c3 c4 f1 f3
    generalize wr.drew = W at *
    go_wp2
    go_ret
    exact ⟨rfl, HT.out⟩
  · have hpl : s.p < s.N.length := by omega
    have hpb : ((s.p : Int) == (s.N.length : Int)) = false := by simp; omega
    have w2 := h.wtCell s.p hpl
    by_cases hll : s.l < n
    · have w1 := h.wtCell s.l (by omega)
      have hlN : s.l < s.N.length := by omega
      by_cases hw : wt s.N s.l ≤ wt s.N s.p
      · have hu : useLeaf n s.N s.l s.p = true := by unfold useLeaf; simp [hll, hw]
        unfold takeA takeL takeP
        rw [hu]
        simp only [if_true]
        have HT := hid (h.drew.setL (s.l + 1))
        clear h hu hro hp
        generalize wt s.N s.l = x at *
        generalize wt s.N s.p = y at *
        generalize s.N.length = len at *
        generalize s.l = l at *
        generalize s.p = pp at *
        have hz1 : (l : Int) < (len : Int) := by omega
        have hz2 : (pp : Int) < (len : Int) := by omega
        have hz3 : (l : Int) < (n : Int) := by omega
        go_enter Try.func54, Try.ntmps54
        go_wp2_with fail
        go_region
        have d1 : wr.drew.cell? ⟨gp, 0, none⟩ = some (.int .i64 (pp : Int)) := c1
        have d3 : wr.drew.cell? ⟨gl, 0, none⟩ = some (.int .i64 (l : Int)) := c3
        have g1 : wr.drew.frozen? ⟨gp, 0, none⟩ = false := f1
        have g3 : wr.drew.frozen? ⟨gl, 0, none⟩ = false := f3
        clear c1 c2 c3 c4 f1 f3 w1 w2
        generalize wr.drew = W at *
        go_wp2
        go_ret
        exact ⟨rfl, HT.out⟩
      · have hu : useLeaf n s.N s.l s.p = false := by
          unfold useLeaf
          rw [decide_eq_false hw, Bool.and_false, Bool.or_false]
          simpa using hp
        unfold takeA takeL takeP
        rw [hu]
        simp only [Bool.false_eq_true, if_false]
        have HT := hid (h.drew.setP (s.p + 1))
        clear h hu hro hp
        generalize wt s.N s.l = x at *
        generalize wt s.N s.p = y at *
        generalize s.N.length = len at *
        generalize s.l = l at *
        generalize s.p = pp at *
        have hz1 : (l : Int) < (len : Int) := by omega
        have hz2 : (pp : Int) < (len : Int) := by omega
        have hz3 : (l : Int) < (n : Int) := by omega
        go_enter Try.func54, Try.ntmps54
        go_wp2_with fail
        go_region
        have d1 : wr.drew.cell? ⟨gp, 0, none⟩ = some (.int .i64 (pp : Int)) := c1
        have d3 : wr.drew.cell? ⟨gl, 0, none⟩ = some (.int .i64 (l : Int)) := c3
        have g1 : wr.drew.frozen? ⟨gp, 0, none⟩ = false := f1
        have g3 : wr.drew.frozen? ⟨gl, 0, none⟩ = false := f3
        clear c1 c2 c3 c4 f1 f3 w1 w2
        generalize wr.drew = W at *
        go_wp2
        go_ret
        exact ⟨rfl, HT.out⟩
    · have hu : useLeaf n s.N s.l s.p = false := by
        unfold useLeaf
        rw [decide_eq_false hll, Bool.false_and, Bool.or_false]
        simpa using hp
      unfold takeA takeL takeP
      rw [hu]
      simp only [Bool.false_eq_true, if_false]
      have HT := hid (h.drew.setP (s.p + 1))
      clear h hu hro hp
      generalize wt s.N s.p = y at *
      generalize s.N.length = len at *
      generalize s.l = l at *
      generalize s.p = pp at *
      have hz2 : (pp : Int) < (len : Int) := by omega
      have hz3 : ¬ (l : Int) < (n : Int) := by omega
      go_enter Try.func54, Try.ntmps54
      go_wp2_with fail
      go_region
      have d1 : wr.drew.cell? ⟨gp, 0, none⟩ = some (.int .i64 (pp : Int)) := c1
      have d3 : wr.drew.cell? ⟨gl, 0, none⟩ = some (.int .i64 (l : Int)) := c3
      have g1 : wr.drew.frozen? ⟨gp, 0, none⟩ = false := f1
      have g3 : wr.drew.frozen? ⟨gl, 0, none⟩ = false := f3
      clear c1 c2 c3 c4 f1 f3 w2
      generalize wr.drew = W at *
      go_wp2
      go_ret
      exact ⟨rfl, HT.out⟩
end Go.Proofs.Ytgecoiakhmnilaa
