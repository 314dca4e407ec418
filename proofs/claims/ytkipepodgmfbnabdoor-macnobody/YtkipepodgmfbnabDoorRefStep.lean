/-
  The contract of the document's Step.
-/
import Derived.Test.YtkipepodgmfbnabDoorSmall
namespace Go.Proofs.YtkipepodgmfbnabDoor
open Go.RowKit Sha

theorem heap_put_other {w : World} {g k i : Nat} {cs : Array Value} {t : TypeId} {fr : Nat × Nat} (h : w.heap[g]? = some (.cells cs t fr)) (hk : k ≠ g) (v : Value) : (w.setCell ⟨g, i, none⟩ v).heap[k]? = w.heap[k]? := by
  rw [setCell_eq_setRow w g i cs t fr v h]
  exact setRow_other w g k _ hk

/-- What the walk of Step keeps ahead of its rounds: which blocks lie where, and what is in them. -/
structure Mem (w wr : World) (s bl ws : List Nat) : Prop where
  st : wr.heap[w.heap.size]? = some (.cells (arr .u32 s) 34 (0, 0))
  bk : wr.heap[w.heap.size + 1]? = some (.cells (arr .u8 bl) 31 (0, 0))
  res : wr.heap[w.heap.size + 1 + 1]? = some (.cells (arr .u32 [0, 0, 0, 0, 0, 0, 0, 0]) 34 (0, 0))
  wv : wr.heap[w.heap.size + 1 + 1 + 1]? = some (.cells (arr .u32 ws) 71 (0, 0))
  bel : Below w.heap.size w wr

theorem Mem.put {w wr : World} {s bl ws : List Nat} (h : Mem w wr s bl ws) (i v : Nat) : Mem w (wr.setCell ⟨w.heap.size + 1 + 1 + 1, i, none⟩ (.int .u32 (v : Int))).drew s bl (ws.set i v) := by
  have e : ∀ k : Nat, (wr.setCell ⟨w.heap.size + 1 + 1 + 1, i, none⟩ (.int .u32 (v : Int))).drew.heap[k]? = (wr.setCell ⟨w.heap.size + 1 + 1 + 1, i, none⟩ (.int .u32 (v : Int))).heap[k]? := fun k => rfl
  refine ⟨?_, ?_, ?_, ?_, (h.bel.setCell (by simp; omega) _).drew⟩
  · rw [e, heap_put_other h.wv (by omega)]; exact h.st
  · rw [e, heap_put_other h.wv (by omega)]; exact h.bk
  · rw [e, heap_put_other h.wv (by omega)]; exact h.res
  · rw [e, Joins.block_setCell h.wv, arr_set]

theorem Mem.drew {w wr : World} {s bl ws : List Nat} (h : Mem w wr s bl ws) : Mem w wr.drew s bl ws := ⟨h.st, h.bk, h.res, h.wv, h.bel.drew⟩

def wsL (bl : List Nat) (k : Nat) : List Nat := sched bl k ++ List.replicate (64 - k) 0

theorem wsL_length (bl : List Nat) (k : Nat) (h : k ≤ 64) : (wsL bl k).length = 64 := by
  rw [wsL, List.length_append, sched_length, List.length_replicate]; omega
theorem wsL_get (bl : List Nat) (k i : Nat) (h : i < k) : (wsL bl k).getD i 0 = wS bl i := by
  rw [← sched_get bl k i h, wsL]
  simp [List.getD, List.getElem?_append_left (show i < (sched bl k).length from by rw [sched_length]; exact h)]
theorem wsL_set (bl : List Nat) (k : Nat) (h : k < 64) : (wsL bl k).set k (wS bl k) = wsL bl (k + 1) := by
  have hl := sched_length bl k
  rw [wsL, List.set_append_right _ _ (by omega), hl, Nat.sub_self, show 64 - k = (63 - k) + 1 from by omega, List.replicate_succ, List.set_cons_zero, wsL, sched, List.append_assoc, show 64 - (k + 1) = 63 - k from by omega]
  rfl
theorem wsL_zero (bl : List Nat) : wsL bl 0 = z64 := rfl
theorem wsL_full (bl : List Nat) : wsL bl 64 = sched bl 64 := by rw [wsL]; simp

theorem be4_int (b0 b1 b2 b3 : Nat) (h0 : b0 < 256) (h1 : b1 < 256) (h2 : b2 < 256) (h3 : b3 < 256) : (b0 : Int) * 16777216 + (b1 : Int) * 65536 + (b2 : Int) * 256 + (b3 : Int) = ((add32 (add32 (add32 (b0 * 16777216 % 4294967296) (b1 * 65536 % 4294967296)) (b2 * 256 % 4294967296)) b3 : Nat) : Int) := by
  unfold add32; omega

theorem wS_step (bl : List Nat) (i : Nat) : wS bl (i + 16) = add32 (add32 (add32 (wS bl i) (sg0 (wS bl (i + 1)))) (wS bl (i + 9))) (sg1 (wS bl (i + 14))) := by
  rw [wS_next, sg0_quick _ (wS_lt _ _), sg1_quick _ (wS_lt _ _)]

theorem xor32 (a b : Nat) (ha : a < 2 ^ 32) (hb : b < 2 ^ 32) : bits .xor .u32 (a : Int) (b : Int) = ((a ^^^ b : Nat) : Int) := u32_xor_nat a b ha hb
theorem and32 (a b : Nat) (ha : a < 2 ^ 32) (hb : b < 2 ^ 32) : bits .and .u32 (a : Int) (b : Int) = ((a &&& b : Nat) : Int) := u32_and_nat a b ha hb

theorem sg0_int (x : Nat) (h : x < 2 ^ 32) : bits .xor .u32 (bits .xor .u32 ((rotN 7 x : Nat) : Int) ((rotN 18 x : Nat) : Int)) ((movN 3 x : Nat) : Int) = ((sg0 x : Nat) : Int) := by
  rw [xor32 _ _ (rotN_lt _ _ h) (rotN_lt _ _ h), xor32 _ _ (Nat.xor_lt_two_pow (rotN_lt _ _ h) (rotN_lt _ _ h)) (movN_lt _ _ h), sg0]
theorem sg1_int (x : Nat) (h : x < 2 ^ 32) : bits .xor .u32 (bits .xor .u32 ((rotN 17 x : Nat) : Int) ((rotN 19 x : Nat) : Int)) ((movN 10 x : Nat) : Int) = ((sg1 x : Nat) : Int) := by
  rw [xor32 _ _ (rotN_lt _ _ h) (rotN_lt _ _ h), xor32 _ _ (Nat.xor_lt_two_pow (rotN_lt _ _ h) (rotN_lt _ _ h)) (movN_lt _ _ h), sg1]

theorem sum4_int (p a q c : Nat) : ((p : Int) + (a : Int) + (q : Int) + (c : Int)) % 4294967296 = ((add32 (add32 (add32 p a) q) c : Nat) : Int) := by
  unfold add32; omega

theorem wpList_alloc_at {P : Program} {ops : Array Oper} {rest : List Oper} {o : Oper} {a : Act} {w : World} {Q : Exit → Act → World → Prop} (hgd : o.guard = none) (ty : TypeId) (ho : o.op = .alloc ty) (d : Option Tmp) (hd : o.dst = d) (cs : Array Value)
    (hz : ∀ w, (zeroValue ty).run P w = .ok (.agg cs) w) (N : Nat) (hN : N = w.heap.size) (h : wpList P ops Q rest (a.put d (.pointer (some ⟨N, 0, none⟩))) (w.alloc (.cells cs ty))) : wpList P ops Q (o :: rest) a w := by
  subst hN; exact wpList_alloc_row hgd ty ho d hd cs hz h

theorem Tryd.size34 : (Tryd.prog.info? 34).map (·.size) = some 8 := by kernel_rfl

def z8 : List Nat := List.replicate 8 0
theorem Tryd.zero34 : ∀ w, (zeroValue 34).run Tryd.prog w = .ok (.agg (arr .u32 z8)) w := (zero_of_info (t := 34) (n := 8) (by kernel_rfl)).1

/-- What the walk keeps from the rounds on. -/
structure Mem3 (w wr : World) (gk : Nat) (s ws r : List Nat) : Prop where
  st : wr.heap[w.heap.size]? = some (.cells (arr .u32 s) 34 (0, 0))
  res : wr.heap[w.heap.size + 1 + 1]? = some (.cells (arr .u32 [0, 0, 0, 0, 0, 0, 0, 0]) 34 (0, 0))
  wv : wr.heap[w.heap.size + 1 + 1 + 1]? = some (.cells (arr .u32 ws) 71 (0, 0))
  kv : wr.heap[gk]? = some (.cells (arr .u32 kL) 71 (0, 0))
  sv : wr.heap[gk + 1]? = some (.cells (arr .u32 r) 34 (0, 0))
  bel : Below w.heap.size w wr

theorem Mem3.drew {w wr : World} {gk : Nat} {s ws r : List Nat} (h : Mem3 w wr gk s ws r) : Mem3 w wr.drew gk s ws r := ⟨h.st, h.res, h.wv, h.kv, h.sv, h.bel.drew⟩

theorem Mem3.drewN {w wr : World} {gk : Nat} {s ws r : List Nat} (h : Mem3 w wr gk s ws r) (n : Nat) : Mem3 w (wr.drewN n) gk s ws r := ⟨h.st, h.res, h.wv, h.kv, h.sv, Below.trans h.bel ⟨rfl, rfl, rfl, Nat.le_refl _, fun _ _ => rfl⟩⟩

theorem Mem3.put {w wr : World} {gk : Nat} {s ws r : List Nat} (h : Mem3 w wr gk s ws r) (hg : w.heap.size + 3 < gk) (i v : Nat) : Mem3 w (wr.setCell ⟨gk + 1, i, none⟩ (.int .u32 (v : Int))) gk s ws (r.set i v) := by
  refine ⟨?_, ?_, ?_, ?_, ?_, h.bel.setCell (by simp; omega) _⟩
  · rw [heap_put_other h.sv (by omega)]; exact h.st
  · rw [heap_put_other h.sv (by omega)]; exact h.res
  · rw [heap_put_other h.sv (by omega)]; exact h.wv
  · rw [heap_put_other h.sv (by omega)]; exact h.kv
  · rw [Joins.block_setCell h.sv, arr_set]

/-- The cells that a round reads. -/
theorem Mem3.cells {w wr : World} {gk : Nat} {s ws : List Nat} {a b c d e f g h : Nat} (hM : Mem3 w wr gk s ws (St.mk a b c d e f g h).list) :
    wr.cell? ⟨gk + 1, 0, none⟩ = some (.int .u32 (a : Int)) ∧ wr.cell? ⟨gk + 1, 1, none⟩ = some (.int .u32 (b : Int)) ∧ wr.cell? ⟨gk + 1, 2, none⟩ = some (.int .u32 (c : Int)) ∧ wr.cell? ⟨gk + 1, 3, none⟩ = some (.int .u32 (d : Int)) ∧
    wr.cell? ⟨gk + 1, 4, none⟩ = some (.int .u32 (e : Int)) ∧ wr.cell? ⟨gk + 1, 5, none⟩ = some (.int .u32 (f : Int)) ∧ wr.cell? ⟨gk + 1, 6, none⟩ = some (.int .u32 (g : Int)) ∧ wr.cell? ⟨gk + 1, 7, none⟩ = some (.int .u32 (h : Int)) :=
  ⟨Joins.cell_of_block hM.sv 0, Joins.cell_of_block hM.sv 1, Joins.cell_of_block hM.sv 2, Joins.cell_of_block hM.sv 3, Joins.cell_of_block hM.sv 4, Joins.cell_of_block hM.sv 5, Joins.cell_of_block hM.sv 6, Joins.cell_of_block hM.sv 7⟩

theorem up1_int (x : Nat) (h : x < 2 ^ 32) : bits .xor .u32 (bits .xor .u32 ((rotN 6 x : Nat) : Int) ((rotN 11 x : Nat) : Int)) ((rotN 25 x : Nat) : Int) = ((up1 x : Nat) : Int) := by
  rw [xor32 _ _ (rotN_lt _ _ h) (rotN_lt _ _ h), xor32 _ _ (Nat.xor_lt_two_pow (rotN_lt _ _ h) (rotN_lt _ _ h)) (rotN_lt _ _ h), up1]
theorem up0_int (x : Nat) (h : x < 2 ^ 32) : bits .xor .u32 (bits .xor .u32 ((rotN 2 x : Nat) : Int) ((rotN 13 x : Nat) : Int)) ((rotN 22 x : Nat) : Int) = ((up0 x : Nat) : Int) := by
  rw [xor32 _ _ (rotN_lt _ _ h) (rotN_lt _ _ h), xor32 _ _ (Nat.xor_lt_two_pow (rotN_lt _ _ h) (rotN_lt _ _ h)) (rotN_lt _ _ h), up0]

theorem ch_int (e f g : Nat) (he : e < 2 ^ 32) (hf : f < 2 ^ 32) (hg : g < 2 ^ 32) : bits .xor .u32 (bits .and .u32 (e : Int) (f : Int)) (bits .and .u32 (bits .xor .u32 (if IntKind.u32.signed = true then -1 else IntKind.u32.max) (e : Int)) (g : Int)) = (((e &&& f) ^^^ ((e ^^^ 4294967295) &&& g) : Nat) : Int) := by
  have hn : e ^^^ 4294967295 < 2 ^ 32 := Nat.xor_lt_two_pow he (by decide)
  rw [if_neg (by decide), show IntKind.u32.max = ((4294967295 : Nat) : Int) from rfl, xor32 _ _ (by decide) he, Nat.xor_comm 4294967295 e, and32 _ _ he hf, and32 _ _ hn hg, xor32 _ _ (Nat.and_lt_two_pow _ hf) (Nat.and_lt_two_pow _ hg)]
theorem maj_int (a b c : Nat) (ha : a < 2 ^ 32) (hb : b < 2 ^ 32) (hc : c < 2 ^ 32) : bits .xor .u32 (bits .xor .u32 (bits .and .u32 (a : Int) (b : Int)) (bits .and .u32 (a : Int) (c : Int))) (bits .and .u32 (b : Int) (c : Int)) = (((a &&& b) ^^^ (a &&& c) ^^^ (b &&& c) : Nat) : Int) := by
  rw [and32 _ _ ha hb, and32 _ _ ha hc, and32 _ _ hb hc, xor32 _ _ (Nat.and_lt_two_pow _ hb) (Nat.and_lt_two_pow _ hc), xor32 _ _ (Nat.xor_lt_two_pow (Nat.and_lt_two_pow _ hb) (Nat.and_lt_two_pow _ hc)) (Nat.and_lt_two_pow _ hc)]
theorem t1_sum (h u x k w : Nat) : (((h : Int) + (u : Int) + (x : Int) + (k : Int)) % 4294967296 + (w : Int)) % 4294967296 = ((add32 (add32 (add32 (add32 h u) x) k) w : Nat) : Int) := by
  unfold add32; omega

theorem t2_sum (t u m : Nat) : ((t : Int) + ((u : Int) + (m : Int))) % 4294967296 = ((add32 t (add32 u m) : Nat) : Int) := by
  unfold add32; omega
theorem e_sum (d t : Nat) : ((d : Int) + (t : Int)) % 4294967296 = ((add32 d t : Nat) : Int) := by
  unfold add32; omega

theorem kL_lt (k : Nat) : kL.getD k 0 < 2 ^ 32 := by
  by_cases hk : k < 64
  · have h : ∀ i : Fin 64, kL.getD i.val 0 < 2 ^ 32 := by decide +kernel
    exact h ⟨k, hk⟩
  · rw [List.getD, List.getElem?_eq_none (by show kL.length ≤ k; rw [show kL.length = 64 from rfl]; omega)]
    decide

/-- The first j of the sums. -/
def sumsL (r s : List Nat) : Nat → List Nat
  | 0 => r
  | j + 1 => (sumsL r s j).set j (add32 ((sumsL r s j).getD j 0) (s.getD j 0))
theorem sumsL_length (r s : List Nat) (j : Nat) : (sumsL r s j).length = r.length := by
  induction j with
  | zero => rfl
  | succ j ih => rw [sumsL, List.length_set, ih]
theorem sumsL_all (R s : St) : sumsL R.list s.list 8 = (both R s).list := rfl

end Go.Proofs.YtkipepodgmfbnabDoor
