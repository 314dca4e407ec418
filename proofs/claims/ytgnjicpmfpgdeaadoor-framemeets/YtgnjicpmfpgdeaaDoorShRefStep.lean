/-
  The contract of the document's Step.
-/
import Derived.Test.YtgnjicpmfpgdeaaDoorShSmall
namespace Go.Proofs.YtgnjicpmfpgdeaaDoor.Sh
open Go.RowKit Sha

theorem heap_put_other {w : World} {g k i : Nat} {cs : Array Value} {t : TypeId} {fr : Nat × Nat} (h : w.heap[g]? = some (.cells cs t fr)) (hk : k ≠ g) (v : Value) : (w.setCell ⟨g, i, none⟩ v).heap[k]? = w.heap[k]? := by
  rw [setCell_eq_setRow w g i cs t fr v h]
  exact setRow_other w g k _ hk

/-- What the walk of Step keeps ahead of its rounds: which blocks lie where, and what is in them. -/
structure Mem (w wr : World) (s bl ws : List Nat) : Prop where
  st : wr.heap[w.heap.size]? = some (.cells (arr .u32 s) 118 (0, 0))
  bk : wr.heap[w.heap.size + 1]? = some (.cells (arr .u8 bl) 82 (0, 0))
  res : wr.heap[w.heap.size + 1 + 1]? = some (.cells (arr .u32 [0, 0, 0, 0, 0, 0, 0, 0]) 118 (0, 0))
  wv : wr.heap[w.heap.size + 1 + 1 + 1]? = some (.cells (arr .u32 ws) 126 (0, 0))
  bel : Below w.heap.size w wr

theorem Mem.put {w wr : World} {s bl ws : List Nat} (h : Mem w wr s bl ws) (i v : Nat) : Mem w (wr.setCell ⟨w.heap.size + 1 + 1 + 1, i, none⟩ (.int .u32 (v : Int))).drew s bl (ws.set i v) := by
  have e : ∀ k : Nat, (wr.setCell ⟨w.heap.size + 1 + 1 + 1, i, none⟩ (.int .u32 (v : Int))).drew.heap[k]? = (wr.setCell ⟨w.heap.size + 1 + 1 + 1, i, none⟩ (.int .u32 (v : Int))).heap[k]? := fun k => rfl
  refine ⟨?_, ?_, ?_, ?_, (h.bel.setCell (by simp; omega) _).drew⟩
  · rw [e, heap_put_other h.wv (by omega)]; exact h.st
  · rw [e, heap_put_other h.wv (by omega)]; exact h.bk
  · rw [e, heap_put_other h.wv (by omega)]; exact h.res
  · rw [e, Joins.block_setCell h.wv, arr_set]

theorem Mem.drew {w wr : World} {s bl ws : List Nat} (h : Mem w wr s bl ws) : Mem w wr.drew s bl ws := ⟨h.st, h.bk, h.res, h.wv, h.bel.drew⟩

def wsL (bl : List Nat) (k : Nat) : List Nat := sched bl k ++ List.replicate (64 - k) 0

theorem wsL_length (bl : List Nat) (k : Nat) (h : k ≤ 64) : (wsL bl k).length = 64 := by
  rw [wsL, List.length_append, sched_length, List.length_replicate]; omega
theorem wsL_get (bl : List Nat) (k i : Nat) (h : i < k) : (wsL bl k).getD i 0 = wS bl i := by
  rw [← sched_get bl k i h, wsL]
  simp [List.getD, List.getElem?_append_left (show i < (sched bl k).length from by rw [sched_length]; exact h)]
theorem wsL_set (bl : List Nat) (k : Nat) (h : k < 64) : (wsL bl k).set k (wS bl k) = wsL bl (k + 1) := by
  have hl := sched_length bl k
  rw [wsL, List.set_append_right _ _ (by omega), hl, Nat.sub_self, show 64 - k = (63 - k) + 1 from by omega, List.replicate_succ, List.set_cons_zero, wsL, sched, List.append_assoc, show 64 - (k + 1) = 63 - k from by omega]
  rfl
theorem wsL_zero (bl : List Nat) : wsL bl 0 = z64 := rfl
theorem wsL_full (bl : List Nat) : wsL bl 64 = sched bl 64 := by rw [wsL]; simp

theorem be4_int (b0 b1 b2 b3 : Nat) (h0 : b0 < 256) (h1 : b1 < 256) (h2 : b2 < 256) (h3 : b3 < 256) : (b0 : Int) * 16777216 + (b1 : Int) * 65536 + (b2 : Int) * 256 + (b3 : Int) = ((add32 (add32 (add32 (b0 * 16777216 % 4294967296) (b1 * 65536 % 4294967296)) (b2 * 256 % 4294967296)) b3 : Nat) : Int) := by
  unfold add32; omega

theorem wS_step (bl : List Nat) (i : Nat) : wS bl (i + 16) = add32 (add32 (add32 (wS bl i) (sg0 (wS bl (i + 1)))) (wS bl (i + 9))) (sg1 (wS bl (i + 14))) := by
  rw [wS_next, sg0_quick _ (wS_lt _ _), sg1_quick _ (wS_lt _ _)]

theorem xor32 (a b : Nat) (ha : a < 2 ^ 32) (hb : b < 2 ^ 32) : bits .xor .u32 (a : Int) (b : Int) = ((a ^^^ b : Nat) : Int) := u32_xor_nat a b ha hb
theorem and32 (a b : Nat) (ha : a < 2 ^ 32) (hb : b < 2 ^ 32) : bits .and .u32 (a : Int) (b : Int) = ((a &&& b : Nat) : Int) := u32_and_nat a b ha hb

theorem sg0_int (x : Nat) (h : x < 2 ^ 32) : bits .xor .u32 (bits .xor .u32 ((rotN 7 x : Nat) : Int) ((rotN 18 x : Nat) : Int)) ((movN 3 x : Nat) : Int) = ((sg0 x : Nat) : Int) := by
  rw [xor32 _ _ (rotN_lt _ _ h) (rotN_lt _ _ h), xor32 _ _ (Nat.xor_lt_two_pow (rotN_lt _ _ h) (rotN_lt _ _ h)) (movN_lt _ _ h), sg0]
theorem sg1_int (x : Nat) (h : x < 2 ^ 32) : bits .xor .u32 (bits .xor .u32 ((rotN 17 x : Nat) : Int) ((rotN 19 x : Nat) : Int)) ((movN 10 x : Nat) : Int) = ((sg1 x : Nat) : Int) := by
  rw [xor32 _ _ (rotN_lt _ _ h) (rotN_lt _ _ h), xor32 _ _ (Nat.xor_lt_two_pow (rotN_lt _ _ h) (rotN_lt _ _ h)) (movN_lt _ _ h), sg1]

theorem right_lit (x n : Nat) (z : Int) (w : World) (hx : x < 2 ^ 32) (hn : n ≤ 32) (hz : z = (n : Int)) : Calls Tryd.prog 92 #[.int .u32 (x : Int), .int .i64 z] w fun e w' => e = .returned (.int .u32 ((rotN n x : Nat) : Int)) ∧ w' = w := by
  subst hz; exact right_ref x n w hx hn
theorem moved_lit (x n : Nat) (z : Int) (w : World) (hx : x < 2 ^ 32) (hn : n ≤ 32) (hz : z = (n : Int)) : Calls Tryd.prog 93 #[.int .u32 (x : Int), .int .i64 z] w fun e w' => e = .returned (.int .u32 ((movN n x : Nat) : Int)) ∧ w' = w := by
  subst hz; exact moved_ref x n w hx hn

theorem sum4_int (p a q c : Nat) : ((p : Int) + (a : Int) + (q : Int) + (c : Int)) % 4294967296 = ((add32 (add32 (add32 p a) q) c : Nat) : Int) := by
  unfold add32; omega

theorem wpList_alloc_at {P : Program} {ops : Array Oper} {rest : List Oper} {o : Oper} {a : Act} {w : World} {Q : Exit → Act → World → Prop} (hgd : o.guard = none) (ty : TypeId) (ho : o.op = .alloc ty) (d : Option Tmp) (hd : o.dst = d) (cs : Array Value)
    (hz : ∀ w, (zeroValue ty).run P w = .ok (.agg cs) w) (N : Nat) (hN : N = w.heap.size) (h : wpList P ops Q rest (a.put d (.pointer (some ⟨N, 0, none⟩))) (w.alloc (.cells cs ty))) : wpList P ops Q (o :: rest) a w := by
  subst hN; exact wpList_alloc_row hgd ty ho d hd cs hz h

theorem Tryd.size118 : (Tryd.prog.info? 118).map (·.size) = some 8 := by kernel_rfl

def z8 : List Nat := List.replicate 8 0
theorem Tryd.zero118 : ∀ w, (zeroValue 118).run Tryd.prog w = .ok (.agg (arr .u32 z8)) w := (zero_of_info (t := 118) (n := 8) (by kernel_rfl)).1

/-- What the walk keeps from the rounds on. -/
structure Mem3 (w wr : World) (gk : Nat) (s ws r : List Nat) : Prop where
  st : wr.heap[w.heap.size]? = some (.cells (arr .u32 s) 118 (0, 0))
  res : wr.heap[w.heap.size + 1 + 1]? = some (.cells (arr .u32 [0, 0, 0, 0, 0, 0, 0, 0]) 118 (0, 0))
  wv : wr.heap[w.heap.size + 1 + 1 + 1]? = some (.cells (arr .u32 ws) 126 (0, 0))
  kv : wr.heap[gk]? = some (.cells (arr .u32 kL) 126 (0, 0))
  sv : wr.heap[gk + 1]? = some (.cells (arr .u32 r) 118 (0, 0))
  bel : Below w.heap.size w wr

theorem Mem3.drew {w wr : World} {gk : Nat} {s ws r : List Nat} (h : Mem3 w wr gk s ws r) : Mem3 w wr.drew gk s ws r := ⟨h.st, h.res, h.wv, h.kv, h.sv, h.bel.drew⟩

theorem Mem3.drewN {w wr : World} {gk : Nat} {s ws r : List Nat} (h : Mem3 w wr gk s ws r) (n : Nat) : Mem3 w (wr.drewN n) gk s ws r := ⟨h.st, h.res, h.wv, h.kv, h.sv, Below.trans h.bel ⟨rfl, rfl, rfl, Nat.le_refl _, fun _ _ => rfl⟩⟩

theorem Mem3.put {w wr : World} {gk : Nat} {s ws r : List Nat} (h : Mem3 w wr gk s ws r) (hg : w.heap.size + 3 < gk) (i v : Nat) : Mem3 w (wr.setCell ⟨gk + 1, i, none⟩ (.int .u32 (v : Int))) gk s ws (r.set i v) := by
  refine ⟨?_, ?_, ?_, ?_, ?_, h.bel.setCell (by simp; omega) _⟩
  · rw [heap_put_other h.sv (by omega)]; exact h.st
  · rw [heap_put_other h.sv (by omega)]; exact h.res
  · rw [heap_put_other h.sv (by omega)]; exact h.wv
  · rw [heap_put_other h.sv (by omega)]; exact h.kv
  · rw [Joins.block_setCell h.sv, arr_set]

/-- The cells that a round reads. -/
theorem Mem3.cells {w wr : World} {gk : Nat} {s ws : List Nat} {a b c d e f g h : Nat} (hM : Mem3 w wr gk s ws (St.mk a b c d e f g h).list) :
    wr.cell? ⟨gk + 1, 0, none⟩ = some (.int .u32 (a : Int)) ∧ wr.cell? ⟨gk + 1, 1, none⟩ = some (.int .u32 (b : Int)) ∧ wr.cell? ⟨gk + 1, 2, none⟩ = some (.int .u32 (c : Int)) ∧ wr.cell? ⟨gk + 1, 3, none⟩ = some (.int .u32 (d : Int)) ∧
    wr.cell? ⟨gk + 1, 4, none⟩ = some (.int .u32 (e : Int)) ∧ wr.cell? ⟨gk + 1, 5, none⟩ = some (.int .u32 (f : Int)) ∧ wr.cell? ⟨gk + 1, 6, none⟩ = some (.int .u32 (g : Int)) ∧ wr.cell? ⟨gk + 1, 7, none⟩ = some (.int .u32 (h : Int)) :=
  ⟨Joins.cell_of_block hM.sv 0, Joins.cell_of_block hM.sv 1, Joins.cell_of_block hM.sv 2, Joins.cell_of_block hM.sv 3, Joins.cell_of_block hM.sv 4, Joins.cell_of_block hM.sv 5, Joins.cell_of_block hM.sv 6, Joins.cell_of_block hM.sv 7⟩

theorem up1_int (x : Nat) (h : x < 2 ^ 32) : bits .xor .u32 (bits .xor .u32 ((rotN 6 x : Nat) : Int) ((rotN 11 x : Nat) : Int)) ((rotN 25 x : Nat) : Int) = ((up1 x : Nat) : Int) := by
  rw [xor32 _ _ (rotN_lt _ _ h) (rotN_lt _ _ h), xor32 _ _ (Nat.xor_lt_two_pow (rotN_lt _ _ h) (rotN_lt _ _ h)) (rotN_lt _ _ h), up1]
theorem up0_int (x : Nat) (h : x < 2 ^ 32) : bits .xor .u32 (bits .xor .u32 ((rotN 2 x : Nat) : Int) ((rotN 13 x : Nat) : Int)) ((rotN 22 x : Nat) : Int) = ((up0 x : Nat) : Int) := by
  rw [xor32 _ _ (rotN_lt _ _ h) (rotN_lt _ _ h), xor32 _ _ (Nat.xor_lt_two_pow (rotN_lt _ _ h) (rotN_lt _ _ h)) (rotN_lt _ _ h), up0]

theorem ch_int (e f g : Nat) (he : e < 2 ^ 32) (hf : f < 2 ^ 32) (hg : g < 2 ^ 32) : bits .xor .u32 (bits .and .u32 (e : Int) (f : Int)) (bits .and .u32 (bits .xor .u32 (if IntKind.u32.signed = true then -1 else IntKind.u32.max) (e : Int)) (g : Int)) = (((e &&& f) ^^^ ((e ^^^ 4294967295) &&& g) : Nat) : Int) := by
  have hn : e ^^^ 4294967295 < 2 ^ 32 := Nat.xor_lt_two_pow he (by decide)
  rw [if_neg (by decide), show IntKind.u32.max = ((4294967295 : Nat) : Int) from rfl, xor32 _ _ (by decide) he, Nat.xor_comm 4294967295 e, and32 _ _ he hf, and32 _ _ hn hg, xor32 _ _ (Nat.and_lt_two_pow _ hf) (Nat.and_lt_two_pow _ hg)]
theorem maj_int (a b c : Nat) (ha : a < 2 ^ 32) (hb : b < 2 ^ 32) (hc : c < 2 ^ 32) : bits .xor .u32 (bits .xor .u32 (bits .and .u32 (a : Int) (b : Int)) (bits .and .u32 (a : Int) (c : Int))) (bits .and .u32 (b : Int) (c : Int)) = (((a &&& b) ^^^ (a &&& c) ^^^ (b &&& c) : Nat) : Int) := by
  rw [and32 _ _ ha hb, and32 _ _ ha hc, and32 _ _ hb hc, xor32 _ _ (Nat.and_lt_two_pow _ hb) (Nat.and_lt_two_pow _ hc), xor32 _ _ (Nat.xor_lt_two_pow (Nat.and_lt_two_pow _ hb) (Nat.and_lt_two_pow _ hc)) (Nat.and_lt_two_pow _ hc)]
theorem t1_sum (h u x k w : Nat) : (((h : Int) + (u : Int) + (x : Int) + (k : Int)) % 4294967296 + (w : Int)) % 4294967296 = ((add32 (add32 (add32 (add32 h u) x) k) w : Nat) : Int) := by
  unfold add32; omega

theorem t2_sum (t u m : Nat) : ((t : Int) + ((u : Int) + (m : Int))) % 4294967296 = ((add32 t (add32 u m) : Nat) : Int) := by
  unfold add32; omega
theorem e_sum (d t : Nat) : ((d : Int) + (t : Int)) % 4294967296 = ((add32 d t : Nat) : Int) := by
  unfold add32; omega

theorem kL_lt (k : Nat) : kL.getD k 0 < 2 ^ 32 := by
  by_cases hk : k < 64
  · have h : ∀ i : Fin 64, kL.getD i.val 0 < 2 ^ 32 := by decide +kernel
    exact h ⟨k, hk⟩
  · rw [List.getD, List.getElem?_eq_none (by show kL.length ≤ k; rw [show kL.length = 64 from rfl]; omega)]
    decide

/-- The first j of the sums. -/
def sumsL (r s : List Nat) : Nat → List Nat
  | 0 => r
  | j + 1 => (sumsL r s j).set j (add32 ((sumsL r s j).getD j 0) (s.getD j 0))
theorem sumsL_length (r s : List Nat) (j : Nat) : (sumsL r s j).length = r.length := by
  induction j with
  | zero => rfl
  | succ j ih => rw [sumsL, List.length_set, ih]
theorem sumsL_all (R s : St) : sumsL R.list s.list 8 = (both R s).list := rfl

set_option maxHeartbeats 8000000 in
set_option maxRecDepth 100000 in
theorem step_ref (s : St) (bl : List Nat) (w : World) (hs : s.Ok) (hl : bl.length = 64) (hb : ∀ j, bl.getD j 0 < 256) :
    Calls Tryd.prog 86 #[.agg (arr .u32 s.list), .agg (arr .u8 bl)] w fun e w' => e = .returned (.agg (arr .u32 (Sha.step s bl).list)) ∧ Below w.heap.size w w' := by
  have HB := hid hb
  have HL := hid hl
  clear hb hl
  go_enter Tryd.func86, Tryd.ntmps86
  go_wp2_with (refine wpList_alloc_row rfl 126 rfl (some 5) rfl (arr .u32 z64) Tryd.zero126 ?_)
  generalize hw4 : (((w.alloc (.cells (arr .u32 s.list) 118)).alloc (.cells (arr .u8 bl) 82)).alloc (.cells #[.int .u32 0, .int .u32 0, .int .u32 0, .int .u32 0, .int .u32 0, .int .u32 0, .int .u32 0, .int .u32 0] 118)).alloc (.cells (arr .u32 z64) 126) = w4
  have hM : Mem w w4 s.list bl (wsL bl 0) := by
    subst hw4
    have b1 := bel_alloc w (.cells (arr .u32 s.list) 118)
    generalize hw1 : w.alloc (.cells (arr .u32 s.list) 118) = w1 at *
    have s1 : w1.heap.size = w.heap.size + 1 := by rw [← hw1]; simp
    have e1 : w1.heap[w.heap.size]? = some (.cells (arr .u32 s.list) 118 (0, 0)) := by rw [← hw1]; exact heap_new _ _
    have b2 := bel_alloc w1 (.cells (arr .u8 bl) 82)
    generalize hw2 : w1.alloc (.cells (arr .u8 bl) 82) = w2 at *
    have s2 : w2.heap.size = w.heap.size + 1 + 1 := by rw [← hw2]; simp [s1]
    have e2 : w2.heap[w.heap.size + 1]? = some (.cells (arr .u8 bl) 82 (0, 0)) := by rw [← hw2, ← s1]; exact heap_new _ _
    have b3 := bel_alloc w2 (.cells #[.int .u32 0, .int .u32 0, .int .u32 0, .int .u32 0, .int .u32 0, .int .u32 0, .int .u32 0, .int .u32 0] 118)
    generalize hw3 : w2.alloc (.cells #[.int .u32 0, .int .u32 0, .int .u32 0, .int .u32 0, .int .u32 0, .int .u32 0, .int .u32 0, .int .u32 0] 118) = w3 at *
    have s3 : w3.heap.size = w.heap.size + 1 + 1 + 1 := by rw [← hw3]; simp [s2]
    have e3 : w3.heap[w.heap.size + 1 + 1]? = some (.cells (arr .u32 [0, 0, 0, 0, 0, 0, 0, 0]) 118 (0, 0)) := by rw [← hw3, ← s2]; exact heap_new _ _
    have b4 := bel_alloc w3 (.cells (arr .u32 z64) 126)
    have e4 : (w3.alloc (.cells (arr .u32 z64) 126)).heap[w.heap.size + 1 + 1 + 1]? = some (.cells (arr .u32 z64) 126 (0, 0)) := by rw [← s3]; exact heap_new _ _
    refine ⟨?_, ?_, ?_, e4, Bn (Bn (Bn b1 b2) b3) b4⟩
    · rw [b4.block _ (by omega), b3.block _ (by omega), b2.block _ (by omega)]; exact e1
    · rw [b4.block _ (by omega), b3.block _ (by omega)]; exact e2
    · rw [b4.block _ (by omega)]; exact e3
  clear hw4
  go_loopw [6] (fun i wr => ∃ k : Nat, k ≤ 16 ∧ i = .int .i64 k ∧ Mem w wr s.list bl (wsL bl k)) (fun i _ => 16 - (intOf i).toNat)
  case atStart => exact ⟨0, by omega, rfl, hM⟩
  case round =>
    obtain ⟨k, hk, rfl, hM⟩ := hrel
    by_cases hlt : k < 16
    · have hk16 : (k : Int) < 16 := by omega
      have hlen := HL.out
      have c0 := (Joins.cell_of_block hM.bk (4 * k)).trans (arr_get .u8 bl _ (by omega))
      have c1 := (Joins.cell_of_block hM.bk (4 * k + 1)).trans (arr_get .u8 bl _ (by omega))
      have c2 := (Joins.cell_of_block hM.bk (4 * k + 2)).trans (arr_get .u8 bl _ (by omega))
      have c3 := (Joins.cell_of_block hM.bk (4 * k + 3)).trans (arr_get .u8 bl _ (by omega))
      have q0 := HB.out (4 * k)
      have q1 := HB.out (4 * k + 1)
      have q2 := HB.out (4 * k + 2)
      have q3 := HB.out (4 * k + 3)
      have HV := hid (be4_int _ _ _ _ q0 q1 q2 q3)
      have HE : Hid (wS bl k = be4 bl k) := wS_low bl k hlt
      have hwl := wsL_length bl k (by omega)
      have cw := (Joins.cell_of_block hM.wv k).trans (arr_get .u32 _ k (by omega))
      have fw := Joins.unfrozen_of_block hM.wv k
      have hput := hM.put k (wS bl k)
      rw [wsL_set bl k (by omega), HE.out, be4] at hput
      have HP := hid hput
      clear hput hM hlen hwl
      generalize bl.getD (4 * k) 0 = b0 at *
      generalize bl.getD (4 * k + 1) 0 = b1 at *
      generalize bl.getD (4 * k + 2) 0 = b2 at *
      generalize bl.getD (4 * k + 3) 0 = b3 at *
      generalize (wsL bl k).getD k 0 = old at *
      go_wp2_with fail
      go_region
      rw [HV.out]
      generalize hW : (wr.setCell ⟨w.heap.size + 1 + 1 + 1, k, none⟩ (.int .u32 ((add32 (add32 (add32 (b0 * 16777216 % 4294967296) (b1 * 65536 % 4294967296)) (b2 * 256 % 4294967296)) b3 : Nat) : Int))).drew = W at *
      go_wp2
      go_roundw
      case rel => exact ⟨k + 1, by omega, by go_num, HP.out⟩
      case measure => simp [intOf]; omega
    obtain rfl : k = 16 := by omega
    have HM := hid hM
    clear hM
    go_wp2_with fail
    rw [show ((16 : Nat) : Int) = 16 from rfl]
    go_loopw [7] (fun i wr => ∃ j : Nat, j ≤ 48 ∧ i = .int .i64 ((j : Int) + 16) ∧ Mem w wr s.list bl (wsL bl (j + 16))) (fun i _ => 64 - (intOf i).toNat)
    case atStart => exact ⟨0, by omega, rfl, HM.out⟩
    case round =>
      obtain ⟨j, hj, rfl, hM⟩ := hrel
      by_cases hlt : j < 48
      · have hj48 : (j : Int) + 16 < 64 := by omega
        have hwl := wsL_length bl (j + 16) (by omega)
        have d0 := (Joins.cell_of_block hM.wv j).trans (arr_get .u32 _ j (by omega))
        have d1 := (Joins.cell_of_block hM.wv (j + 1)).trans (arr_get .u32 _ _ (by omega))
        have d9 := (Joins.cell_of_block hM.wv (j + 9)).trans (arr_get .u32 _ _ (by omega))
        have d14 := (Joins.cell_of_block hM.wv (j + 14)).trans (arr_get .u32 _ _ (by omega))
        have dw := (Joins.cell_of_block hM.wv (j + 16)).trans (arr_get .u32 _ _ (by omega))
        have fw := Joins.unfrozen_of_block hM.wv (j + 16)
        rw [wsL_get bl (j + 16) _ (by omega)] at d0 d1 d9 d14
        have x0 := wS_lt bl j
        have x1 := wS_lt bl (j + 1)
        have x9 := wS_lt bl (j + 9)
        have x14 := wS_lt bl (j + 14)
        have HN := hid (wS_step bl j)
        have HS0 := hid (sg0_int _ x1)
        have HS1 := hid (sg1_int _ x14)
        have HSM := hid (sum4_int (wS bl j) (sg0 (wS bl (j + 1))) (wS bl (j + 9)) (sg1 (wS bl (j + 14))))
        have y0 := sg0_lt _ x1
        have y1 := sg1_lt _ x14
        have hput := fun W (h : Mem w W s.list bl (wsL bl (j + 16))) => h.put (j + 16) (wS bl (j + 16))
        rw [wsL_set bl (j + 16) (by omega), HN.out] at hput
        have HP := hid hput
        have HM := hid hM
        clear hput hM hwl
        generalize (wsL bl (j + 16)).getD (j + 16) 0 = old at *
        generalize wS bl j = v0 at *
        generalize wS bl (j + 1) = v1 at *
        generalize wS bl (j + 9) = v9 at *
        generalize wS bl (j + 14) = v14 at *
        go_wp2_with fail
        go_region
        have HM1 := hid HM.out.drew
        generalize hW1 : wr.drew = W1 at *
        have e0 : W1.cell? ⟨w.heap.size + 1 + 1 + 1, j, none⟩ = some (.int .u32 (v0 : Int)) := by rw [← hW1]; exact d0
        have e9 : W1.cell? ⟨w.heap.size + 1 + 1 + 1, j + 9, none⟩ = some (.int .u32 (v9 : Int)) := by rw [← hW1]; exact d9
        have ew : W1.cell? ⟨w.heap.size + 1 + 1 + 1, j + 16, none⟩ = some (.int .u32 (old : Int)) := by rw [← hW1]; exact dw
        have ef : W1.frozen? ⟨w.heap.size + 1 + 1 + 1, j + 16, none⟩ = false := by rw [← hW1]; exact fw
        clear d0 d1 d9 d14 dw fw HM hW1
        go_wp2_with fail
        go_at_call 92
        refine (right_lit v1 7 _ _ x1 (by decide) rfl).mono ?_
        rintro _ w' ⟨rfl, hw⟩
        obtain rfl := hw.symm
        clear hw
        go_wp2_with fail
        go_at_call 92
        refine (right_lit v1 18 _ _ x1 (by decide) rfl).mono ?_
        rintro _ w' ⟨rfl, hw⟩
        obtain rfl := hw.symm
        clear hw
        go_wp2_with fail
        go_at_call 93
        refine (moved_lit v1 3 _ _ x1 (by decide) rfl).mono ?_
        rintro _ w' ⟨rfl, hw⟩
        obtain rfl := hw.symm
        clear hw
        go_wp2_with fail
        rw [HS0.out]
        go_at_call 92
        refine (right_lit v14 17 _ _ x14 (by decide) rfl).mono ?_
        rintro _ w' ⟨rfl, hw⟩
        obtain rfl := hw.symm
        clear hw
        go_wp2_with fail
        go_at_call 92
        refine (right_lit v14 19 _ _ x14 (by decide) rfl).mono ?_
        rintro _ w' ⟨rfl, hw⟩
        obtain rfl := hw.symm
        clear hw
        go_wp2_with fail
        go_at_call 93
        refine (moved_lit v14 10 _ _ x14 (by decide) rfl).mono ?_
        rintro _ w' ⟨rfl, hw⟩
        obtain rfl := hw.symm
        clear hw
        go_wp2_with fail
        rw [HS1.out]
        generalize sg0 v1 = t0 at *
        generalize sg1 v14 = t1 at *
        go_region
        rw [HSM.out]
        have HP1 := hid (HP.out _ HM1.out)
        generalize hW2 : (W1.setCell ⟨w.heap.size + 1 + 1 + 1, j + 16, none⟩ (.int .u32 ((add32 (add32 (add32 v0 t0) v9) t1 : Nat) : Int))).drew = W2 at *
        clear hW2
        go_wp2
        go_roundw
        case rel => exact ⟨j + 1, by omega, by go_num, by rw [show j + 1 + 16 = j + 16 + 1 from by omega]; exact HP1.out⟩
        case measure => simp [intOf]; omega
      · obtain rfl : j = 48 := by omega
        have hM' := hM
        rw [show 48 + 16 = 64 from rfl, wsL_full] at hM'
        have HM := hid hM'
        clear hM hM'
        go_wp2_with fail
        rw [show ((48 : Nat) : Int) + 16 = 64 from rfl]
        go_at_call 94
        refine (constants_ref _).mono ?_
        rintro _ w5 ⟨rfl, hb5⟩
        have hsz5 : w.heap.size + 1 + 1 + 1 < w5.heap.size := by
          have h1 := hb5.size
          have h2 : w.heap.size + 1 + 1 + 1 < wr.heap.size := (Array.getElem?_eq_some_iff.1 HM.out.wv).1
          omega
        have hgA := heap_new w5 (.cells (arr .u32 z64) 126)
        have hgB : ((w5.alloc (.cells (arr .u32 z64) 126)).setRow w5.heap.size (arr .u32 kL)).heap[w.heap.size]? = some (.cells (arr .u32 s.list) 118 (0, 0)) := by
          rw [setRow_other _ _ _ _ (by omega), heap_alloc_old _ _ (by omega), hb5.block _ (by have h2 : w.heap.size + 1 + 1 + 1 < wr.heap.size := (Array.getElem?_eq_some_iff.1 HM.out.wv).1; omega)]
          exact HM.out.st
        have hgC : (((w5.alloc (.cells (arr .u32 z64) 126)).setRow w5.heap.size (arr .u32 kL)).alloc (.cells (arr .u32 z8) 118)).heap[w5.heap.size + 1]? = some (.cells (arr .u32 z8) 118 (0, 0)) := by
          have e : ((w5.alloc (.cells (arr .u32 z64) 126)).setRow w5.heap.size (arr .u32 kL)).heap.size = w5.heap.size + 1 := by simp [World.setRow]
          rw [← e]; exact heap_new _ _
        have hM3 : Mem3 w ((((w5.alloc (.cells (arr .u32 z64) 126)).setRow w5.heap.size (arr .u32 kL)).alloc (.cells (arr .u32 z8) 118)).setRow (w5.heap.size + 1) (arr .u32 s.list)) w5.heap.size s.list (sched bl 64) s.list := by
          have h2 : w.heap.size + 1 + 1 + 1 < wr.heap.size := (Array.getElem?_eq_some_iff.1 HM.out.wv).1
          have hB : Below w5.heap.size w5 ((((w5.alloc (.cells (arr .u32 z64) 126)).setRow w5.heap.size (arr .u32 kL)).alloc (.cells (arr .u32 z8) 118)).setRow (w5.heap.size + 1) (arr .u32 s.list)) := below_setRow ((below_setRow (bel_alloc _ _) (Nat.le_refl _) _).alloc (by simp [World.setRow]) _) (by omega) _
          have hB' := hb5.trans (hB.mono hb5.size)
          refine ⟨?_, ?_, ?_, ?_, setRow_heap _ _ _ _ _ _ hgC, Bn HM.out.bel hB'⟩
          · rw [hB'.block _ (by omega)]; exact HM.out.st
          · rw [hB'.block _ (by omega)]; exact HM.out.res
          · rw [hB'.block _ (by omega)]; exact HM.out.wv
          · rw [setRow_other _ _ _ _ (by omega), heap_alloc_old _ _ (by simp [World.setRow])]
            exact setRow_heap _ _ _ _ _ _ hgA
        go_wp2_with (first
          | (refine wpList_alloc_row rfl 126 rfl (some 12) rfl (arr .u32 z64) Tryd.zero126 ?_)
          | (refine wpList_store_rowTo rfl 126 _ _ rfl rfl w5.heap.size (arr .u32 kL) rfl rfl 126 _ hgA (by kernel_rfl) rfl (arr_one _ _) ?_)
          | (refine wpList_load_row rfl 118 _ rfl w.heap.size rfl 118 (arr .u32 s.list) (0, 0) _ hgB Tryd.underlying118 rfl (by kernel_rfl) ?_)
          | (refine wpList_alloc_at rfl 118 rfl (some 13) rfl (arr .u32 z8) Tryd.zero118 (w5.heap.size + 1) (by simp [World.setRow]) ?_)
          | (refine wpList_store_rowTo rfl 118 _ _ rfl rfl (w5.heap.size + 1) (arr .u32 s.list) rfl rfl 118 _ hgC (by kernel_rfl) rfl (arr_one _ _) ?_))
        generalize hw6 : (((w5.alloc (.cells (arr .u32 z64) 126)).setRow w5.heap.size (arr .u32 kL)).alloc (.cells (arr .u32 z8) 118)).setRow (w5.heap.size + 1) (arr .u32 s.list) = w6 at *
        generalize hgk : w5.heap.size = gk at *
        have HM3 := hid hM3
        have hgk3 : w.heap.size + 3 < gk := by omega
        clear hw6 hgA hgB hgC hM3 HM hgk hb5 hsz5
        go_loopw [14] (fun i wr => ∃ k : Nat, k ≤ 64 ∧ i = .int .i64 k ∧ Mem3 w wr gk s.list (sched bl 64) (rounds (sched bl 64) s k).list) (fun i _ => 64 - (intOf i).toNat)
        case atStart => exact ⟨0, by omega, rfl, HM3.out⟩
        case round =>
          obtain ⟨k, hk, rfl, hM⟩ := hrel
          by_cases hlt : k < 64
          · have hk64 : (k : Int) < 64 := by omega
            have hok := rounds_ok (sched bl 64) s hs k
            have ck := (Joins.cell_of_block hM.kv k).trans (arr_get .u32 kL k hlt)
            have cw := (Joins.cell_of_block hM.wv k).trans (arr_get .u32 _ k (by rw [sched_length]; exact hlt))
            have hkl : kL.getD k 0 < 2 ^ 32 := kL_lt k
            have hwl : (sched bl 64).getD k 0 < 2 ^ 32 := by rw [sched_get _ _ _ hlt]; exact wS_lt _ _
            have HR : Hid (rounds (sched bl 64) s (k + 1) = rnd (rounds (sched bl 64) s k) (kL.getD k 0) ((sched bl 64).getD k 0)) := rfl
            generalize kL.getD k 0 = kk at *
            generalize (sched bl 64).getD k 0 = ww at *
            generalize rounds (sched bl 64) s k = r at *
            obtain ⟨a, b, c, d, e, f, g, h8⟩ := r
            have HM := hid hM
            obtain ⟨s0, s1, s2, s3, s4, s5, s6, s7⟩ := hM.cells
            have oa := hok.a
            have ob := hok.b
            have oc := hok.c
            have od := hok.d
            have oe := hok.e
            have of := hok.f
            have og := hok.g
            have oh := hok.h
            simp only at oa ob oc od oe of og oh
            have HU1 := hid (up1_int e oe)
            have HU0 := hid (up0_int a oa)
            clear hM hok
            go_wp2_with fail
            go_quiet ((go_at_call 92; first | exact Calls.quiet_of_same (right_lit e 6 _ _ oe (by decide) rfl) | exact Calls.quiet_of_same (right_lit e 11 _ _ oe (by decide) rfl) | exact Calls.quiet_of_same (right_lit e 25 _ _ oe (by decide) rfl)))
            rw [HU1.out]
            have hM1 := HM.out.drewN nq
            have ck1 : (wr.drewN nq).cell? ⟨gk, k, none⟩ = some (.int .u32 (kk : Int)) := ck
            have cw1 : (wr.drewN nq).cell? ⟨w.heap.size + 1 + 1 + 1, k, none⟩ = some (.int .u32 (ww : Int)) := cw
            clear s0 s1 s2 s3 s4 s5 s6 s7 HM ck cw
            generalize wr.drewN nq = W1 at *
            have HM1 := hid hM1
            obtain ⟨s0, s1, s2, s3, s4, s5, s6, s7⟩ := hM1.cells
            clear hM1
            have ou1 := up1_lt e oe
            generalize hu1 : up1 e = u1e at *
            have HUE := hid hu1
            clear hu1
            go_wp2_with fail
            go_quiet (fail)
            have HC := hid (ch_int e f g oe of og)
            have HMJ := hid (maj_int a b c oa ob oc)
            rw [HC.out, t1_sum]
            have HT : Hid (t1F ⟨a, b, c, d, e, f, g, h8⟩ kk ww = add32 (add32 (add32 (add32 h8 (up1 e)) ((e &&& f) ^^^ ((e ^^^ 4294967295) &&& g))) kk) ww) := rfl
            have hM2 := HM1.out.drewN nq
            clear s0 s1 s2 s3 s4 s5 s6 s7 HM1 ck1 cw1
            generalize W1.drewN nq = W2 at *
            have HM2 := hid hM2
            obtain ⟨s0, s1, s2, s3, s4, s5, s6, s7⟩ := hM2.cells
            clear hM2
            have ot1 := add32_lt (add32 (add32 (add32 h8 u1e) ((e &&& f) ^^^ ((e ^^^ 4294967295) &&& g))) kk) ww
            generalize ht1 : add32 (add32 (add32 (add32 h8 u1e) ((e &&& f) ^^^ ((e ^^^ 4294967295) &&& g))) kk) ww = t1 at *
            have HT1 := hid ht1
            clear ht1
            go_wp2_with fail
            go_quiet ((go_at_call 92; first | exact Calls.quiet_of_same (right_lit a 2 _ _ oa (by decide) rfl) | exact Calls.quiet_of_same (right_lit a 13 _ _ oa (by decide) rfl) | exact Calls.quiet_of_same (right_lit a 22 _ _ oa (by decide) rfl)))
            rw [HU0.out]
            have hM3 := HM2.out.drewN nq
            clear s0 s1 s2 s3 s4 s5 s6 s7 HM2
            generalize W2.drewN nq = W3 at *
            have HM3 := hid hM3
            obtain ⟨s0, s1, s2, s3, s4, s5, s6, s7⟩ := hM3.cells
            have hsv := hM3.sv
            clear hM3
            have ou0 := up0_lt a oa
            generalize hu0 : up0 a = u0a at *
            have HUA := hid hu0
            clear hu0
            have fz := Joins.unfrozen_of_block hsv
            have HSV := hid hsv
            clear hsv
            have HT2 : Hid (t2F ⟨a, b, c, d, e, f, g, h8⟩ = add32 (up0 a) ((a &&& b) ^^^ (a &&& c) ^^^ (b &&& c))) := rfl
            go_wp2
            rw [HMJ.out, t2_sum, e_sum]
            have hR : rounds (sched bl 64) s (k + 1) = ⟨add32 t1 (add32 u0a ((a &&& b) ^^^ (a &&& c) ^^^ (b &&& c))), a, b, c, add32 d t1, e, f, g⟩ := by
              rw [HR.out, rnd, HT.out, HUE.out, HT1.out, HT2.out, HUA.out]
            refine ⟨⟨k + 1, by omega, by go_num, ?_⟩, by simp [intOf]; omega⟩
            rw [hR]
            exact (((((((HM3.out.put hgk3 0 _).put hgk3 1 a).put hgk3 2 b).put hgk3 3 c).put hgk3 4 _).put hgk3 5 e).put hgk3 6 f).put hgk3 7 g
          · obtain rfl : k = 64 := by omega
            have HM := hid hM
            clear hM
            go_wp2_with fail
            rw [show ((64 : Nat) : Int) = 64 from rfl]
            have HSTEP : Hid (Sha.step s bl = both (rounds (sched bl 64) s 64) s) := rfl
            generalize rounds (sched bl 64) s 64 = R at *
            go_loopw [19] (fun i wr => ∃ j : Nat, j ≤ 8 ∧ i = .int .i64 j ∧ Mem3 w wr gk s.list (sched bl 64) (sumsL R.list s.list j)) (fun i _ => 8 - (intOf i).toNat)
            case atStart => exact ⟨0, by omega, rfl, HM.out⟩
            case round =>
              obtain ⟨j, hj, rfl, hM⟩ := hrel
              by_cases hlt : j < 8
              · have hj8 : (j : Int) < 8 := by omega
                have hlen := sumsL_length R.list s.list j
                have d0 := (Joins.cell_of_block hM.sv j).trans (arr_get .u32 _ j (by rw [hlen]; exact hlt))
                have d1 := (Joins.cell_of_block hM.st j).trans (arr_get .u32 s.list j hlt)
                have fz := Joins.unfrozen_of_block hM.sv j
                have hput := (hM.put hgk3 j (add32 ((sumsL R.list s.list j).getD j 0) (s.list.getD j 0))).drew
                have HP : Hid (Mem3 w _ gk s.list (sched bl 64) (sumsL R.list s.list (j + 1))) := hput
                have HV := hid (e_sum ((sumsL R.list s.list j).getD j 0) (s.list.getD j 0))
                clear hput hM hlen
                generalize (sumsL R.list s.list j).getD j 0 = p at *
                generalize s.list.getD j 0 = q at *
                go_wp2_with fail
                go_region
                rw [HV.out]
                generalize hW : (wr.setCell ⟨gk + 1, j, none⟩ (.int .u32 ((add32 p q : Nat) : Int))).drew = W at *
                clear hW
                go_wp2
                go_roundw
                case rel => exact ⟨j + 1, by omega, by go_num, HP.out⟩
                case measure => simp [intOf]; omega
              · obtain rfl : j = 8 := by omega
                rw [sumsL_all, ← HSTEP.out] at hM
                have hsv := hM.sv
                have hres := hM.res
                have hbel := hM.bel
                have hlS : (arr .u32 (Sha.step s bl).list).size = 8 := arr_size _ _
                clear hM HM
                go_wp2_with (first
                  | (refine wpList_load_row rfl 118 _ rfl (gk + 1) rfl 118 (arr .u32 (Sha.step s bl).list) (0, 0) _ hsv Tryd.underlying118 rfl (by rw [hlS]; exact Tryd.size118) ?_)
                  | (refine wpList_store_rowTo rfl 118 _ _ rfl rfl (w.heap.size + 1 + 1) (arr .u32 (Sha.step s bl).list) rfl rfl 118 _ hres (by rw [hlS]; exact Tryd.size118) (by rw [hlS]; rfl) (arr_one _ _) ?_))
                refine bodyPost_ret (results_cell_row (ty := 118) rfl _ _ _ _ _ _ _ rfl (setRow_heap _ _ _ _ _ _ hres) Tryd.underlying118 rfl (by rw [hlS]; exact Tryd.size118)) rfl ?_
                exact ⟨rfl, below_setRow hbel (by omega) _⟩
end Go.Proofs.YtgnjicpmfpgdeaaDoor.Sh
