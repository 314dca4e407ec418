/-
  The document's Check, Sum, Has, Greatest, All and Same.
-/
import Derived.Test.YtkfoeijhhfaceabPart09
import Derived.Laws.StructEq
import Derived.Deep.OwnRows
namespace Go.Proofs.Ytkfoeijhhfaceab
open Go.RowKit Go.Shelf
attribute [local go_sem] Oper.semAt_some

theorem eq24 (d n d' n' : Int) (w : World) : (Op.equalIn 10000 29 (.agg #[.int .i64 d, .int .i64 n]) (.agg #[.int .i64 d', .int .i64 n'])).run Try.prog w = .ok (d == d' && n == n') w := by
  have u3 := Try.underlying3
  have a3 := Try.isAgg3
  have z3 := Try.sizeOf3
  have hS : Try.prog.underlying 29 = some (.struct (Try.prog.fieldsOf 29)) := by kernel_rfl
  have hp : Try.prog.stoodInHeld 29 = false := by kernel_rfl
  rw [show (10000 : Nat) = 9999 + 1 from rfl, run_equalIn_agg w 9999 29 _ _ hS hp]
  simp only [Program.fieldsOf, Try.underlying29]
  go_simp
  by_cases h1 : d = d' <;> by_cases h2 : n = n' <;> simp [h1, h2]
theorem run_neq24 (d n d' n' : Int) (w : World) : (binOp .neq 29 (.agg #[.int .i64 d, .int .i64 n]) (.agg #[.int .i64 d', .int .i64 n'])).run Try.prog w = .ok (.bool (!(d == d' && n == n'))) w := by
  rw [run_neq_struct, eq24]; rfl
theorem run_eql24 (d n d' n' : Int) (w : World) : (binOp .eql 29 (.agg #[.int .i64 d, .int .i64 n]) (.agg #[.int .i64 d', .int .i64 n'])).run Try.prog w = .ok (.bool (d == d' && n == n')) w := by
  rw [run_eql_struct, eq24]; rfl

theorem rcheck_any (b : Int) (a : Option Addr) (cap : Nat) (l : List Ext) (w : World) (hr : Rx w a cap l) :
    Calls Try.prog 6 #[.int .i64 b, .slice a l.length cap] w fun e w' => e = .returned (.int .i64 (chkO b l)) ∧ Below w.heap.size w w' := by
  unfold chkO
  by_cases h : b < 0 ∨ 4096 < b
  · rw [if_pos h]
    clear hr
    generalize l.length = n at *
    by_cases h1 : b < 0
    · go_enter Try.func6, Try.ntmps6
      go_wp2
      go_ret
      exact ⟨rfl, Below.refl _ _⟩
    · have h2 : 4096 < b := by omega
      have e1 : decide (b < 0) = false := decide_eq_false h1
      have e2 : decide (4096 < b) = true := decide_eq_true h2
      go_enter Try.func6, Try.ntmps6
      go_wp2
      go_ret
      exact ⟨rfl, Below.refl _ _⟩
  · rw [if_neg h]
    exact rcheck_good b a cap l w hr (by omega) (by omega)

def allO (b : Int) : List Ext × Int := if b < 0 ∨ 4096 < b then ([], 1) else if b = 0 then ([], 0) else ([(0, b)], 0)
theorem all_eq (b : Int) : allO b = otherO b [] := by
  unfold allO otherO
  by_cases h : b < 0 ∨ 4096 < b
  · have hc : chkO b [] = 1 := by unfold chkO; rw [if_pos h]
    rw [if_pos h, hc, if_pos (by omega)]
  · have hc : chkO b [] = 0 := by unfold chkO; rw [if_neg h, if_pos (show rowB b 0 [] = true from rfl)]
    have e : btw b [] = putL [] 0 b := rfl
    rw [if_neg h, hc, e, if_neg (show ¬ ((0 : Int) ≠ 0) from fun h => h rfl)]
    by_cases h0 : b = 0
    · subst h0; rw [if_pos rfl, put_no (by omega)]
    · rw [if_neg h0, put_nil (by omega)]; simp
theorem one_row (w : World) (b : Int) : (w.alloc (.cells #[.int .i64 0, .int .i64 b] 29)).ownsRow w.heap.size 29 2 (.slice (some ⟨w.heap.size, 0, none⟩) 1 1) 1 ([(0, b)].flatMap extC) :=
  ⟨rfl, .inr ⟨w.heap.size, 1, _, rfl, Nat.le_refl _, heap_new w _, Nat.le_refl _, by unfold maxLen; omega, rfl, rfl⟩⟩
end Go.Proofs.Ytkfoeijhhfaceab
/-
  The document's Has and Greatest.
-/
namespace Go.Proofs.Ytkfoeijhhfaceab
open Go.RowKit Go.Shelf
attribute [local go_sem] Oper.semAt_some

theorem hldB_take {l : List Ext} {e : Ext} {k : Nat} (h : hldB (l.take k) e = true) : hldB l e = true := by
  have := hldB_pre (l.take k) (l.drop k) e h
  rwa [List.take_append_drop] at this
set_option maxHeartbeats 6400000 in
set_option maxRecDepth 100000 in
theorem rhas_main (a : Option Addr) (cap : Nat) (l : List Ext) (e0 e1 : Int) (w : World) (hr : Rx w a cap l) (he : (Lit.int .i64 e0).wf = true) (hc : chkO 4096 l = 0) (hl : lieB 4096 (e0, e1) = true) :
    Calls Try.prog 7 #[.slice a l.length cap, .agg #[.int .i64 e0, .int .i64 e1]] w fun e w' => e = .returned (.bool (hldB l (e0, e1))) ∧ Below w.heap.size w w' := by
  have hB := bel_alloc w (.cells #[.int .i64 e0, .int .i64 e1] 29)
  have HXE : Hid (Xb (w.alloc (.cells #[.int .i64 e0, .int .i64 e1] 29)) w.heap.size (e0, e1)) := heap_new w _
  have HC := hid (rcheck_any 4096 a cap l (w.alloc (.cells #[.int .i64 e0, .int .i64 e1] 29)) (hr.later hB))
  rw [hc] at HC
  have HB := hid hB
  have HR := hid hr
  have HRW := hid (chk_row hc)
  have HL : Hid (∀ W, Calls Try.prog 10 #[.int .i64 4096, .agg #[.int .i64 e0, .int .i64 e1]] W fun e w' => e = .returned (.bool true) ∧ Below W.heap.size W w') := fun W => by
    have := lies_ref 4096 (e0, e1) W (by omega) (by omega) he
    rw [hl] at this
    exact this
  obtain ⟨k1, k2, k3⟩ := (lieB_iff 4096 (e0, e1)).1 hl
  dsimp only at k1 k2 k3
  have hroom := hr.room
  have hmost := hr.most
  unfold maxLen at hmost
  obtain ⟨o, ho⟩ : ∃ o, o = hldB l (e0, e1) := ⟨_, rfl⟩
  have HO := hid ho
  rw [← ho]
  obtain ⟨len, hln⟩ : ∃ n, n = l.length := ⟨_, rfl⟩
  have HLN := hid hln
  rw [← hln] at HC hroom ⊢
  clear hB hr he hc hl ho hln
  go_enter Try.func7, Try.ntmps7
  go_wp2_with fail
  refine HC.out.mono ?_
  rintro _ w1 ⟨rfl, hb1⟩
  have HX1 := hid (HXE.out.later hb1)
  obtain ⟨c0, c1⟩ := HX1.out.cells
  have HB1 := hid (Bn HB.out hb1)
  have HL1 := hid (HL.out w1)
  dsimp only at c0 c1
  clear hb1 HC HXE HB HL
  go_wp2_with fail
  refine HL1.out.mono ?_
  rintro _ w2 ⟨rfl, hb2⟩
  have HX2 := hid (HX1.out.later hb2)
  have HB2 := hid (Bn HB1.out hb2)
  have HR2 := hid (HR.out.later HB2.out)
  clear hb2 HB1 HL1 c0 c1 HX1 HR
  obtain ⟨s, hs⟩ : ∃ s, s = w.heap.size := ⟨_, rfl⟩
  rw [← hs] at HX2 ⊢
  have HHS := hid hs
  clear hs
  go_wp2
  go_loopw [5] (fun x5 wr => ∃ k : Nat, k ≤ len ∧ x5 = .int .i64 (k : Int) ∧ Hid (hldB (l.take k) (e0, e1) = false) ∧ Hid (Below w.heap.size w wr) ∧ Hid (Xb wr s (e0, e1)) ∧ Hid (Rx wr a cap l)) (fun x5 _ => len - (intOf x5).toNat)
  case atStart => exact ⟨0, by omega, rfl, rfl, HB2.out, HX2.out, HR2.out⟩
  case round =>
    clear HB2 HX2 HR2
    obtain ⟨k, hk, rfl, HT, HBr, HXr, HRr⟩ := hrel
    by_cases hlt : k < len
    · have hkz : (k : Int) < (len : Int) := by omega
      have hkl : k < l.length := by rw [← HLN.out]; exact hlt
      obtain ⟨g, off, hag, hgw, hcc⟩ := HRr.out.cells (by omega)
      subst hag
      obtain ⟨c0, c1⟩ := hcc k hkl
      obtain ⟨d0, d1⟩ := HXr.out.cells
      have hmem : l.getD k ex0 ∈ l := by simp only [List.getD, List.getElem?_eq_getElem hkl, Option.getD_some]; exact List.getElem_mem hkl
      have hz1 := HRW.out.nrm.pos _ hmem
      have hz2 := HRW.out.upto _ hmem
      have HSN := hid (hldB_snoc (l.take k) (l.getD k ex0) (e0, e1))
      rw [← ext_take l k hkl, HT.out, Bool.false_or] at HSN
      generalize l.getD k ex0 = x at *
      obtain ⟨y, z⟩ := x
      dsimp only at c0 c1 d0 d1 HSN hz1 hz2
      have HBD := hid (fun m => bel_drewN HBr.out m)
      have HXD : Hid (∀ m, Xb (wr.drewN m) s (e0, e1)) := fun m => HXr.out
      have HRD : Hid (∀ m, Rx (wr.drewN m) (some ⟨g, off, none⟩) cap l) := fun m => HRr.out.later ⟨rfl, rfl, rfl, Nat.le_refl _, fun _ _ => rfl⟩
      clear hcc hmem HBr HXr HRr
      by_cases h1 : y ≤ e0
      · have b1 : decide (y ≤ e0) = true := decide_eq_true h1
        rw [b1, Bool.true_and] at HSN
        by_cases h2 : e0 + e1 ≤ y + z
        · have b2 : decide (e0 + e1 ≤ y + z) = true := decide_eq_true h2
          rw [b2] at HSN
          have ho := HO.out
          rw [hldB_take HSN.out] at ho
          subst ho
          go_wp2_with fail
          go_big_quiet (fail)
          go_wp2
          go_ret
          exact ⟨rfl, HBD.out _⟩
        · have b2 : decide (e0 + e1 ≤ y + z) = false := decide_eq_false h2
          rw [b2] at HSN
          go_wp2_with fail
          go_big_quiet (fail)
          go_wp2
          exact ⟨⟨k + 1, by omega, by go_num, HSN, HBD.out _, HXD.out _, HRD.out _⟩, by simp [intOf]; omega⟩
      · have b1 : decide (y ≤ e0) = false := decide_eq_false h1
        rw [b1, Bool.false_and] at HSN
        go_wp2_with fail
        go_big_quiet (fail)
        go_wp2
        exact ⟨⟨k + 1, by omega, by go_num, HSN, HBD.out _, HXD.out _, HRD.out _⟩, by simp [intOf]; omega⟩
    · obtain rfl : k = len := by omega
      have hkz : ¬ (k : Int) < (k : Int) := by omega
      have HTT : Hid (l.take k = l) := List.take_of_length_le (by rw [← HLN.out]; omega)
      rw [HTT.out] at HT
      have ho := HO.out
      rw [HT.out] at ho
      subst ho
      go_wp2
      go_ret
      exact ⟨rfl, HBr.out⟩

set_option maxHeartbeats 6400000 in
set_option maxRecDepth 100000 in
theorem rhas_word (a : Option Addr) (cap : Nat) (l : List Ext) (e0 e1 : Int) (w : World) (hr : Rx w a cap l) (he : (Lit.int .i64 e0).wf = true) :
    Calls Try.prog 7 #[.slice a l.length cap, .agg #[.int .i64 e0, .int .i64 e1]] w fun e w' => e = .returned (.bool (hasO l (e0, e1))) ∧ Below w.heap.size w w' := by
  unfold hasO
  have hB := bel_alloc w (.cells #[.int .i64 e0, .int .i64 e1] 29)
  have HXE : Hid (Xb (w.alloc (.cells #[.int .i64 e0, .int .i64 e1] 29)) w.heap.size (e0, e1)) := heap_new w _
  have HC := hid (rcheck_any 4096 a cap l (w.alloc (.cells #[.int .i64 e0, .int .i64 e1] 29)) (hr.later hB))
  have HB := hid hB
  have HL : Hid (∀ W, Calls Try.prog 10 #[.int .i64 4096, .agg #[.int .i64 e0, .int .i64 e1]] W fun e w' => e = .returned (.bool (lieB 4096 (e0, e1))) ∧ Below W.heap.size W w') := fun W => lies_ref 4096 (e0, e1) W (by omega) (by omega) he
  by_cases hc : chkO 4096 l = 0
  · by_cases hl : lieB 4096 (e0, e1) = true
    · rw [hc, hl]
      have := rhas_main a cap l e0 e1 w hr he hc hl
      simpa using this
    · have hl' : lieB 4096 (e0, e1) = false := by simpa using hl
      rw [hc] at HC ⊢
      rw [hl'] at HL ⊢
      clear hB hr he hc hl hl'
      generalize hldB l (e0, e1) = o at *
      generalize l.length = n at *
      go_enter Try.func7, Try.ntmps7
      go_wp2_with fail
      refine HC.out.mono ?_
      rintro _ w1 ⟨rfl, hb1⟩
      obtain ⟨c0, c1⟩ := (HXE.out.later hb1).cells
      have HB1 := hid (Bn HB.out hb1)
      have HL1 := hid (HL.out w1)
      dsimp only at c0 c1
      clear hb1 HC HXE HB HL
      go_wp2_with fail
      refine HL1.out.mono ?_
      rintro _ w2 ⟨rfl, hb2⟩
      have HB2 := hid (Bn HB1.out hb2)
      clear hb2 HB1 HL1 c0 c1
      go_wp2
      go_ret
      exact ⟨by simp, HB2.out⟩
  · have hd : decide (chkO 4096 l = 0) = false := decide_eq_false hc
    rw [hd]
    clear HXE HL hB hr he
    generalize chkO 4096 l = c at *
    generalize hldB l (e0, e1) = o at *
    generalize lieB 4096 (e0, e1) = o2 at *
    generalize l.length = n at *
    go_enter Try.func7, Try.ntmps7
    go_wp2_with fail
    refine HC.out.mono ?_
    rintro _ w1 ⟨rfl, hb1⟩
    have HB1 := hid (Bn HB.out hb1)
    clear hb1 HC HB
    go_wp2
    go_ret
    exact ⟨by simp, HB1.out⟩

end Go.Proofs.Ytkfoeijhhfaceab
/-
  Blocks as bits: the document's bits and turn.
-/
namespace Go.Proofs.Ytkfoeijhhfaceab
open Go.RowKit Go.Shelf
attribute [local go_sem] Oper.semAt_some

/-- The row of bools at g. -/
def Bb (w : World) (g n : Nat) (p : Nat → Bool) : Prop := ∃ cs, w.heap[g]? = some (.cells cs 4 (0, 0)) ∧ cs.size = n ∧ ∀ j, j < n → cs[j]? = some (.bool (p j))
theorem Bb.lt {w : World} {g n : Nat} {p : Nat → Bool} (h : Bb w g n p) : g < w.heap.size := by
  obtain ⟨cs, h1, _⟩ := h
  exact (Array.getElem?_eq_some_iff.1 h1).1
theorem Bb.cell {w : World} {g n : Nat} {p : Nat → Bool} (h : Bb w g n p) {j : Nat} (hj : j < n) : w.cell? ⟨g, j, none⟩ = some (.bool (p j)) := by
  obtain ⟨cs, h1, h2, h3⟩ := h
  exact (Joins.cell_of_block h1 j).trans (h3 j hj)
theorem Bb.frozen {w : World} {g n : Nat} {p : Nat → Bool} (h : Bb w g n p) (j : Nat) : w.frozen? ⟨g, j, none⟩ = false := by
  obtain ⟨cs, h1, _⟩ := h
  exact Joins.unfrozen_of_block h1 j
theorem Bb.later {w w' : World} {g n : Nat} {p : Nat → Bool} (h : Bb w g n p) (hb : w'.heap[g]? = w.heap[g]?) : Bb w' g n p := by
  obtain ⟨cs, h1, h2⟩ := h
  exact ⟨cs, hb.trans h1, h2⟩
theorem Bb.below {w w' : World} {g n : Nat} {p : Nat → Bool} (h : Bb w g n p) (hb : Below w.heap.size w w') : Bb w' g n p := h.later (hb.block g h.lt)
theorem Bb.congr {w : World} {g n : Nat} {p q : Nat → Bool} (h : Bb w g n p) (hq : ∀ j, j < n → p j = q j) : Bb w g n q := by
  obtain ⟨cs, h1, h2, h3⟩ := h
  exact ⟨cs, h1, h2, fun j hj => by rw [← hq j hj]; exact h3 j hj⟩
theorem Bb.set {w : World} {g n : Nat} {p : Nat → Bool} (h : Bb w g n p) (k : Nat) (v : Bool) : Bb (w.setCell ⟨g, k, none⟩ (.bool v)) g n (fun j => if j = k then v else p j) := by
  obtain ⟨cs, h1, h2, h3⟩ := h
  refine ⟨cs.setIfInBounds k (.bool v), Joins.block_setCell h1 _, by simpa using h2, fun j hj => ?_⟩
  rw [Array.getElem?_setIfInBounds]
  by_cases e : k = j
  · subst e
    simp [h2, hj]
  · rw [if_neg e]
    have e2 : ¬ j = k := fun h => e h.symm
    simp only [e2, if_false]
    exact h3 j hj
theorem bb_made (w : World) (n : Nat) : Bb (w.alloc (.cells (madeCells #[.bool false] n) 4)) w.heap.size n (fun _ => false) := by
  refine ⟨_, heap_new w _, by simp [madeCells], fun j hj => by simp [madeCells, hj, Nat.mod_one]⟩
/-- Only block g was turned, of what there was. -/
structure But1 (g : Nat) (w w' : World) : Prop where
  bel : Below 0 w w'
  same : ∀ i, i < w.heap.size → i ≠ g → w'.heap[i]? = w.heap[i]?
theorem But1.of_below {g : Nat} {w w' : World} (h : Below w.heap.size w w') : But1 g w w' := ⟨h.mono (Nat.zero_le _), fun i hi _ => h.block i hi⟩
theorem But1.trans {g : Nat} {a b c : World} (h : But1 g a b) (k : But1 g b c) : But1 g a c := ⟨h.bel.trans k.bel, fun i hi hn => (k.same i (Nat.lt_of_lt_of_le hi h.bel.size) hn).trans (h.same i hi hn)⟩
theorem But1.set (g i : Nat) (w : World) (v : Value) : But1 g w (w.setCell ⟨g, i, none⟩ v) := ⟨(Below.refl 0 w).setCell (p := ⟨g, i, none⟩) (Nat.zero_le _) v, fun j _ hn => Below.heap_setCell w ⟨g, i, none⟩ v j hn⟩
theorem But1.below {g n : Nat} {w w' : World} (h : But1 g w w') (hg : n ≤ g) (hn : n ≤ w.heap.size) : Below n w w' := ⟨h.bel.os, h.bel.tape, h.bel.output, h.bel.size, fun i hi => h.same i (by omega) (by omega)⟩
/-- Is a block in a row? -/
def inB (l : List Ext) (k : Nat) : Bool := l.any fun x => decide (x.1 ≤ (k : Int)) && decide ((k : Int) < x.1 + x.2)
theorem inB_iff (l : List Ext) (k : Nat) : inB l k = true ↔ inR l (k : Int) := by
  unfold inB inR inE
  rw [List.any_eq_true]
  constructor
  · rintro ⟨x, hx, h⟩
    exact ⟨x, hx, by simpa using h⟩
  · rintro ⟨x, hx, h⟩
    exact ⟨x, hx, by simpa using h⟩
theorem inB_snoc (l : List Ext) (x : Ext) (k : Nat) : inB (l ++ [x]) k = (inB l k || (decide (x.1 ≤ (k : Int)) && decide ((k : Int) < x.1 + x.2))) := by simp [inB]
theorem Try.info4 : (Try.prog.info? 4).map (fun i => (i.zero, i.size, i.bytes)) = some (some (.bool false), 1, 1) := by kernel_rfl
def BitsPost (n : Nat) (l : List Ext) (w : World) (e : Ending) (w' : World) : Prop := ∃ g, e = .returned (.slice (some ⟨g, 0, none⟩) n n) ∧ w.heap.size ≤ g ∧ Bb w' g n (inB l) ∧ Below w.heap.size w w'

/-- The blocks of an extent are so. -/
def turnP (p : Nat → Bool) (e0 e1 : Int) (v : Bool) : Nat → Bool := fun j => if e0 ≤ (j : Int) ∧ (j : Int) < e0 + e1 then v else p j
end Go.Proofs.Ytkfoeijhhfaceab
/-
  The row of some blocks: the document's row.
-/
namespace Go.Proofs.Ytkfoeijhhfaceab
open Go.RowKit Go.Shelf
attribute [local go_sem] Oper.semAt_some

end Go.Proofs.Ytkfoeijhhfaceab
/-
  The document's Claim, Give and Other.
-/
namespace Go.Proofs.Ytkfoeijhhfaceab
open Go.RowKit Go.Shelf
attribute [local go_sem] Oper.semAt_some

theorem turnP_iff (p : Nat → Bool) (e0 e1 : Int) (k : Nat) : (turnP p e0 e1 false k = true ↔ p k = true ∧ ¬ inE (e0, e1) (k : Int)) ∧ (turnP p e0 e1 true k = true ↔ p k = true ∨ inE (e0, e1) (k : Int)) := by
  unfold turnP inE
  dsimp only
  by_cases h : e0 ≤ (k : Int) ∧ (k : Int) < e0 + e1
  · simp [h]
  · simp [h]
theorem claim_doc {n : Nat} {l : List Ext} {e0 e1 : Int} (hl : Row (n : Int) l) (he : 1 ≤ e1) : docP (turnP (inB l) e0 e1 false) n = wout l (e0, e1) := by
  obtain ⟨h1, h2⟩ := wout_ok (e := (e0, e1)) hl he
  exact doc_eq rfl h1 _ (fun k _ => by rw [(turnP_iff _ e0 e1 k).1, h2, inB_iff])
theorem met_iff {l : List Ext} {e : Ext} (_ : ∀ x, x ∈ l → 1 ≤ x.2) (_ : 1 ≤ e.2) : metB l e = true ↔ meetR l e := by
  unfold metB meetR
  rw [List.any_eq_true]
  constructor
  · rintro ⟨x, hx, h⟩
    exact ⟨x, hx, by simpa using h⟩
  · rintro ⟨x, hx, h⟩
    exact ⟨x, hx, by simpa using h⟩
theorem meet_in {l : List Ext} {e : Ext} (hl : ∀ x, x ∈ l → 1 ≤ x.2) (he : 1 ≤ e.2) : meetR l e ↔ ∃ k, inE e k ∧ inR l k := by
  unfold meetR inR inE
  constructor
  · rintro ⟨x, hx, h1, h2⟩
    have := hl x hx
    exact ⟨max x.1 e.1, by omega, x, hx, by omega⟩
  · rintro ⟨k, h1, x, hx, h2⟩
    exact ⟨x, hx, by omega⟩
theorem give_doc {n : Nat} {l : List Ext} {e0 e1 : Int} (hl : Row (n : Int) l) (h0 : 0 ≤ e0) (h1 : 1 ≤ e1) (h2 : e0 + e1 ≤ (n : Int)) (hm : metB l (e0, e1) = false) : docP (turnP (inB l) e0 e1 true) n = withL l (e0, e1) := by
  have hm' : ¬ meetR l (e0, e1) := fun h => by rw [(met_iff (fun x hx => (hl.nrm.pos x hx).2) h1).2 h] at hm; cases hm
  obtain ⟨k1, k2⟩ := with_ok (e := (e0, e1)) hl ⟨h0, h1, h2⟩ hm'
  exact doc_eq rfl k1 _ (fun k _ => by rw [(turnP_iff _ e0 e1 k).2, k2, inB_iff])
theorem other_doc {n : Nat} {l : List Ext} (hl : Row (n : Int) l) : docP (fun k => !inB l k) n = btw (n : Int) l := by
  obtain ⟨h1, h2⟩ := btw_ok hl
  refine doc_eq rfl h1 _ (fun k hk => ?_)
  rw [h2]
  have e : (!inB l k) = true ↔ ¬ inR l (k : Int) := by rw [← inB_iff]; simp
  rw [e]
  exact ⟨fun h => ⟨by omega, by omega, h⟩, fun h => h.2.2⟩

end Go.Proofs.Ytkfoeijhhfaceab
/-
  The document's Give, Other and Take.
-/
namespace Go.Proofs.Ytkfoeijhhfaceab
open Go.RowKit Go.Shelf
attribute [local go_sem] Oper.semAt_some

theorem results_ctt {fn : Func} {p q r : Tmp} {tp : TypeId} (h : fn.results = #[.cell p tp, .tmp q, .tmp r]) (tmps : Array Value) (W : World) (A : Nat) (x : Value) (hp : tmps.getD p undef = .pointer (some ⟨A, 0, none⟩)) (h1 : (loadVar tp ⟨A, 0, none⟩).run Try.prog W = .ok x W) : (results fn tmps).run Try.prog W = .ok (.tuple #[x, tmps.getD q undef, tmps.getD r undef]) W := by
  have hp' : tmps[p]?.getD undef = .pointer (some ⟨A, 0, none⟩) := by simpa using hp
  simp [results, h, hp', asAddr, h1]
theorem met_no {l : List Ext} {e0 : Int} {m : Nat} {Y Z : Nat} (hp : ∀ x, x ∈ l → 1 ≤ x.2) (hY : e0 = (Y : Int)) (hm : ∀ j, j < Z → inB l (Y + j) = false) (hz : 1 ≤ Z) (_ : m = m) : metB l (e0, (Z : Int)) = false := by
  cases h : metB l (e0, (Z : Int)) with
  | false => rfl
  | true =>
    obtain ⟨k, h1, h2⟩ := (meet_in hp (by dsimp only; omega)).1 ((met_iff hp (by dsimp only; omega)).1 h)
    unfold inE at h1
    dsimp only at h1
    have h3 := hm (k.toNat - Y) (by omega)
    rw [show Y + (k.toNat - Y) = k.toNat from by omega] at h3
    have h4 := (inB_iff l k.toNat).2 (by rw [show ((k.toNat : Nat) : Int) = k from by omega]; exact h2)
    rw [h4] at h3
    cases h3
theorem met_yes {l : List Ext} {Y Z j : Nat} (hp : ∀ x, x ∈ l → 1 ≤ x.2) (hz : 1 ≤ Z) (hj : j < Z) (h : inB l (Y + j) = true) : metB l ((Y : Int), (Z : Int)) = true := by
  refine (met_iff hp (by dsimp only; omega)).2 ((meet_in hp (by dsimp only; omega)).2 ⟨((Y + j : Nat) : Int), ?_, (inB_iff l (Y + j)).1 h⟩)
  unfold inE
  dsimp only
  omega
end Go.Proofs.Ytkfoeijhhfaceab
/-
  The statements' awake.
-/
namespace Go.Proofs.Ytkfoeijhhfaceab
open Go.RowKit Go.Shelf

theorem take_aw : takeO 10 [(0, 3), (5, 5)] 4 = ((5, 4), [(0, 3), (9, 1)], 0) := by decide +kernel
theorem give_aw : giveO 10 [(0, 3), (5, 5)] (3, 2) = ([(0, 10)], 0) := by decide +kernel
theorem two_row (w : World) : Rx (w.alloc (.cells #[.int .i64 0, .int .i64 3, .int .i64 5, .int .i64 5] 29)) (some ⟨w.heap.size, 0, none⟩) 2 [(0, 3), (5, 5)] := by
  have hb := heap_new w (.cells #[.int .i64 0, .int .i64 3, .int .i64 5, .int .i64 5] 29)
  refine ⟨Nat.le_refl _, by unfold maxLen; omega, (fun h => by cases h), fun _ => ⟨w.heap.size, 0, rfl, by rw [World.size_alloc]; omega, fun j hj => ?_⟩, fun j hj => ?_⟩
  · match j, hj with
    | 0, _ => exact ⟨Joins.cell_of_block hb 0, Joins.cell_of_block hb 1⟩
    | 1, _ => exact ⟨Joins.cell_of_block hb 2, Joins.cell_of_block hb 3⟩
  · match j, hj with
    | 0, _ => exact ⟨rfl, rfl⟩
    | 1, _ => exact ⟨rfl, rfl⟩

set_option maxHeartbeats 6400000 in
set_option maxRecDepth 100000 in
theorem awake_any (w : World) : Calls Try.prog 4 #[] w fun e w' => e = .returned (.bool true) ∧ Below w.heap.size w w' := by
  have HB := hid (bel_alloc w (.cells #[.int .i64 0, .int .i64 3, .int .i64 5, .int .i64 5] 29))
  have HR := hid (two_row w)
  have HT := hid (take_word 10 (some ⟨w.heap.size, 0, none⟩) 2 [(0, 3), (5, 5)] 4 (w.alloc (.cells #[.int .i64 0, .int .i64 3, .int .i64 5, .int .i64 5] 29)) (two_row w))
  unfold TakePost at HT
  rw [take_aw] at HT
  have HG : Hid (∀ W, Below w.heap.size w W → Rx W (some ⟨w.heap.size, 0, none⟩) 2 [(0, 3), (5, 5)] → Calls Try.prog 9 #[.int .i64 10, .slice (some ⟨w.heap.size, 0, none⟩) 2 2, .agg #[.int .i64 3, .int .i64 2]] W (RwPost ([(0, 10)], 0) W)) := fun W hW hr => by
    have := give_word 10 (some ⟨w.heap.size, 0, none⟩) 2 [(0, 3), (5, 5)] 3 2 W hr rfl
    rwa [give_aw] at this
  unfold RwPost at HG
  have heq : ∀ W, (binOp .eql 29 (.agg #[.int .i64 5, .int .i64 4]) (.agg #[.int .i64 5, .int .i64 4])).run Try.prog W = .ok (.bool true) W := fun W => by rw [run_eql24]; simp
  dsimp only [extV, List.length_cons, List.length_nil] at HT HG
  go_enter Try.func4, Try.ntmps4
  go_wp2_with fail
  refine HT.out.mono ?_
  rintro _ w1 ⟨v1, rfl, hown1, hb1⟩
  obtain ⟨g1, cap1, rfl⟩ := ownsRow_succ hown1
  have HB1 := hid (Bn (Bn HB.out hb1) (bel_alloc w1 (.cells #[.int .i64 5, .int .i64 4] 29)))
  have HR1 := hid ((HR.out.later hb1).later (bel_alloc w1 (.cells #[.int .i64 5, .int .i64 4] 29)))
  have HX : Hid (Xb (w1.alloc (.cells #[.int .i64 5, .int .i64 4] 29)) w1.heap.size (5, 4)) := heap_new w1 _
  have HG1 := hid (HG.out _ HB1.out HR1.out)
  clear hown1 hb1 HT HG HB HR HR1
  go_wp2_with fail
  refine HG1.out.mono ?_
  rintro _ w2 ⟨v2, rfl, hown2, hb2⟩
  obtain ⟨g2, cap2, rfl⟩ := ownsRow_succ hown2
  obtain ⟨a2, c2, hv2, hr2⟩ := Rx.own hown2 (fun x hx => by rw [List.mem_singleton] at hx; subst hx; exact ⟨rfl, rfl⟩)
  have hroom2 := hr2.room
  injection hv2 with e1 e2 e3
  subst e1 e3
  obtain ⟨b2, off2, ha, _, hc2⟩ := hr2.cells (by simp)
  cases ha
  obtain ⟨q0, q1⟩ := hc2 0 (by simp)
  obtain ⟨p0, p1⟩ := (HX.out.later hb2).cells
  have HB2 := hid (Bn HB1.out hb2)
  simp only [List.getD, List.getElem?_cons_zero, Option.getD_some, Nat.zero_mul, Nat.add_zero, Nat.zero_add] at q0 q1
  dsimp only at p0 p1
  dsimp only [List.length_cons, List.length_nil] at hroom2
  clear hown2 hb2 HG1 HX hr2 hc2 HB1 e2
  go_wp2
  go_ret
  exact ⟨rfl, HB2.out⟩
end Go.Proofs.Ytkfoeijhhfaceab
/-
  What follows of rows: taken and given back, given and claimed, all others; which extent is the first that fits.
-/
namespace Go.Proofs.Ytkfoeijhhfaceab

theorem sep_mem {x y : Ext} : ∀ {l : List Ext}, Nrm l → x ∈ l → y ∈ l → x = y ∨ x.1 + x.2 < y.1 ∨ y.1 + y.2 < x.1
  | [], _, hx, _ => by cases hx
  | z :: l, hn, hx, hy => by
    obtain ⟨_, h2⟩ := nrm_head hn
    rcases List.mem_cons.1 hx with hx1 | hx1
    · rcases List.mem_cons.1 hy with hy1 | hy1
      · exact .inl (hx1.trans hy1.symm)
      · exact .inr (.inl (by rw [hx1]; exact h2 y hy1))
    · rcases List.mem_cons.1 hy with hy1 | hy1
      · exact .inr (.inr (by rw [hy1]; exact h2 x hx1))
      · exact sep_mem (nrm_tail hn) hx1 hy1
theorem hld_all {r : List Ext} {e : Ext} (hr : Nrm r) (he : 1 ≤ e.2) (h : ∀ k, inE e k → inR r k) : hldB r e = true := by
  obtain ⟨x, hx, h1, h2⟩ := h e.1 ⟨Int.le_refl _, by omega⟩
  unfold hldB
  rw [List.any_eq_true]
  refine ⟨x, hx, ?_⟩
  simp only [Bool.and_eq_true, decide_eq_true_eq]
  refine ⟨h1, ?_⟩
  by_cases hc : e.1 + e.2 ≤ x.1 + x.2
  · exact hc
  · obtain ⟨y, hy, h3, h4⟩ := h (x.1 + x.2) ⟨by omega, by omega⟩
    rcases sep_mem hr hx hy with rfl | h5 | h5 <;> omega
theorem hld_in {l : List Ext} {e : Ext} (h : hldB l e = true) : ∃ x, x ∈ l ∧ x.1 ≤ e.1 ∧ e.1 + e.2 ≤ x.1 + x.2 := by
  unfold hldB at h
  rw [List.any_eq_true] at h
  obtain ⟨x, hx, h⟩ := h
  simp only [Bool.and_eq_true, decide_eq_true_eq] at h
  exact ⟨x, hx, h⟩
theorem both_zero {b : Int} {l : List Ext} {e : Ext} (hl : Row b l) (he : 0 ≤ e.1 ∧ 1 ≤ e.2 ∧ e.1 + e.2 ≤ b) : bothO b l e = 0 := by
  unfold bothO
  rw [row_chk hl, if_neg (show ¬ ((0 : Int) ≠ 0) from fun h => h rfl), if_pos ((lieB_iff b e).2 he)]
theorem not_met {l : List Ext} {e : Ext} (hl : Nrm l) (he : 1 ≤ e.2) (h : ∀ k, inE e k → ¬ inR l k) : metB l e = false := by
  cases hm : metB l e with
  | false => rfl
  | true =>
    have hp : ∀ x, x ∈ l → 1 ≤ x.2 := fun x hx => (hl.pos x hx).2
    obtain ⟨k, h1, h2⟩ := (meet_in hp he).1 ((met_iff hp he).1 hm)
    exact absurd h2 (h k h1)
theorem met_apart {l : List Ext} {e : Ext} (hl : Nrm l) (he : 1 ≤ e.2) (hm : metB l e = false) : ¬ meetR l e ∧ ∀ k, inE e k → ¬ inR l k := by
  have hp : ∀ x, x ∈ l → 1 ≤ x.2 := fun x hx => (hl.pos x hx).2
  have h1 : ¬ meetR l e := fun h => by rw [(met_iff hp he).2 h] at hm; cases hm
  exact ⟨h1, fun k h2 h3 => h1 ((meet_in hp he).2 ⟨k, h2, h3⟩)⟩
/-- A Take that tells OK. -/
theorem take_ok {b : Int} {l : List Ext} {n : Int} (h : (takeO b l n).2.2 = 0) : ∃ x, x ∈ l ∧ n ≤ x.2 ∧ 1 ≤ n ∧ Row b l ∧ takeO b l n = ((x.1, n), wout l (x.1, n), 0) ∧ ∀ y, y ∈ l → n ≤ y.2 → x.1 ≤ y.1 := by
  unfold takeO at h ⊢
  by_cases h0 : chkO b l = 0
  · rw [if_neg (by simp [h0])] at h ⊢
    by_cases hn : n < 1
    · rw [if_pos hn] at h; dsimp only at h; omega
    · rw [if_neg hn] at h ⊢
      have hrow := chk_row h0
      cases hf : l.find? (fun x => decide (n ≤ x.2)) with
      | none => rw [hf] at h; dsimp only at h; omega
      | some x =>
        have hx := List.mem_of_find?_eq_some hf
        have hp := List.find?_some hf
        refine ⟨x, hx, by simpa using hp, by omega, hrow, rfl, fun y hy hny => ?_⟩
        obtain ⟨_, us, vs, hl, has⟩ := List.find?_eq_some_iff_append.1 hf
        have hn2 := hrow.nrm
        rw [hl] at hy hn2
        rcases List.mem_append.1 hy with hy | hy
        · have := has y hy; simp at this; omega
        · rcases List.mem_cons.1 hy with rfl | hy
          · exact Int.le_refl _
          · have h1 := (List.pairwise_append.1 hn2.sep).2.1
            have h2 := (List.pairwise_cons.1 h1).1 y hy
            have h3 := hn2.pos x (by simp)
            omega
  · rw [if_pos h0] at h; exact absurd h h0
theorem take_back {b : Int} {l : List Ext} {n : Int} (h : (takeO b l n).2.2 = 0) : giveO b (takeO b l n).2.1 (takeO b l n).1 = (l, 0) := by
  obtain ⟨x, hx, hnx, hn, hrow, ht, _⟩ := take_ok h
  rw [ht]
  dsimp only
  have hxp := hrow.nrm.pos x hx
  have hxu := hrow.upto x hx
  obtain ⟨hw, hin⟩ := wout_ok (e := (x.1, n)) hrow hn
  have hsub : ∀ k, inE (x.1, n) k → inR l k := fun k hk => ⟨x, hx, hk.1, by have := hk.2; dsimp only at this; omega⟩
  have hap : ∀ k, inE (x.1, n) k → ¬ inR (wout l (x.1, n)) k := fun k hk h2 => ((hin k).1 h2).2 hk
  have hm := not_met hw.nrm hn hap
  have he : 0 ≤ (x.1, n).1 ∧ 1 ≤ (x.1, n).2 ∧ (x.1, n).1 + (x.1, n).2 ≤ b := ⟨hxp.1, hn, by dsimp only; omega⟩
  obtain ⟨h3, h4⟩ := with_ok hw he (met_apart hw.nrm hn hm).1
  unfold giveO
  rw [both_zero hw he, if_neg (show ¬ ((0 : Int) ≠ 0) from fun h => h rfl), hm, if_neg (by simp)]
  congr 1
  refine row_ext h3 hrow (fun k => ?_)
  rw [h4, hin]
  constructor
  · rintro (h5 | h5)
    · exact h5.1
    · exact hsub k h5
  · intro h5
    by_cases h6 : inE (x.1, n) k
    · exact .inr h6
    · exact .inl ⟨h5, h6⟩
/-- A Give that tells OK. -/
theorem give_ok {b : Int} {l : List Ext} {e : Ext} (h : (giveO b l e).2 = 0) : Row b l ∧ (0 ≤ e.1 ∧ 1 ≤ e.2 ∧ e.1 + e.2 ≤ b) ∧ metB l e = false ∧ giveO b l e = (withL l e, 0) := by
  unfold giveO at h ⊢
  by_cases h0 : bothO b l e = 0
  · rw [if_neg (by simp [h0])] at h ⊢
    obtain ⟨h1, h2⟩ := both_ok h0
    by_cases hm : metB l e = true
    · rw [if_pos hm] at h; dsimp only at h; omega
    · rw [if_neg hm]
      exact ⟨h1, h2, by simpa using hm, rfl⟩
  · rw [if_pos h0] at h; exact absurd h h0
theorem give_no {b : Int} {l : List Ext} {e : Ext} (h : (giveO b l e).2 ≠ 0) : (giveO b l e).1 = [] := by
  unfold giveO at h ⊢
  by_cases h0 : bothO b l e = 0
  · rw [if_neg (by simp [h0])] at h ⊢
    by_cases hm : metB l e = true
    · rw [if_pos hm]
    · rw [if_neg hm] at h; exact absurd rfl h
  · rw [if_pos h0]
theorem give_claim {b : Int} {l : List Ext} {e : Ext} (h : (giveO b l e).2 = 0) : claimO b (giveO b l e).1 e = (l, 0) := by
  obtain ⟨hrow, he, hm, hg⟩ := give_ok h
  rw [hg]
  dsimp only
  obtain ⟨hap, hno⟩ := met_apart hrow.nrm he.2.1 hm
  obtain ⟨h3, h4⟩ := with_ok hrow he hap
  obtain ⟨h5, h6⟩ := wout_ok (e := e) h3 he.2.1
  unfold claimO
  rw [both_zero h3 he, if_neg (show ¬ ((0 : Int) ≠ 0) from fun h => h rfl), if_pos (hld_all h3.nrm he.2.1 (fun k hk => (h4 k).2 (.inr hk)))]
  congr 1
  refine row_ext h5 hrow (fun k => ?_)
  rw [h6, h4]
  constructor
  · rintro ⟨h7 | h7, h8⟩
    · exact h7
    · exact absurd h7 h8
  · exact fun h7 => ⟨.inl h7, fun h8 => hno k h8 h7⟩
theorem fit_nil : Fit [] := fun x hx => by cases hx
theorem take_fit (b : Int) (l : List Ext) (n : Int) : Fit (takeO b l n).2.1 := by
  by_cases h : (takeO b l n).2.2 = 0
  · obtain ⟨x, hx, hnx, hn, hrow, ht, _⟩ := take_ok h
    rw [ht]
    exact row_fit (wout_ok (e := (x.1, n)) hrow hn).1
  · unfold takeO at h ⊢
    by_cases h0 : chkO b l = 0
    · rw [if_neg (by simp [h0])] at h ⊢
      by_cases hn : n < 1
      · rw [if_pos hn]; exact fit_nil
      · rw [if_neg hn] at h ⊢
        cases hf : l.find? (fun x => decide (n ≤ x.2)) with
        | none => exact fit_nil
        | some x => rw [hf] at h; exact absurd rfl h
    · rw [if_pos h0]; exact fit_nil
theorem give_fit (b : Int) (l : List Ext) (e : Ext) : Fit (giveO b l e).1 := by
  by_cases h : (giveO b l e).2 = 0
  · obtain ⟨hrow, he, hm, hg⟩ := give_ok h
    rw [hg]
    exact row_fit (with_ok hrow he (met_apart hrow.nrm he.2.1 hm).1).1
  · rw [give_no h]; exact fit_nil
theorem claim_fit (b : Int) (l : List Ext) (e : Ext) : Fit (claimO b l e).1 := by
  unfold claimO
  by_cases h0 : bothO b l e = 0
  · rw [if_neg (by simp [h0])]
    obtain ⟨h1, h2⟩ := both_ok h0
    split
    · exact row_fit (wout_ok h1 h2.2.1).1
    · exact fit_nil
  · rw [if_pos h0]; exact fit_nil
theorem other_fit (b : Int) (l : List Ext) : Fit (otherO b l).1 := by
  unfold otherO
  by_cases h : chkO b l ≠ 0
  · rw [if_pos h]; exact fit_nil
  · rw [if_neg h]; exact row_fit (btw_ok (chk_row (Decidable.not_not.1 h))).1
theorem sum_put (l : List Ext) (f t : Int) : sumE (putL l f t) = sumE l + (if t ≤ f then 0 else t - f) := by
  by_cases h : t ≤ f
  · rw [put_no h, if_pos h]; omega
  · rw [if_neg h]
    rcases snoc_or l with rfl | ⟨m, z, rfl⟩
    · rw [put_nil h]; simp [sumE]
    · by_cases hz : z.1 + z.2 = f
      · rw [put_join h hz, sumE_snoc, sumE_snoc]; dsimp only; omega
      · rw [put_more h hz, sumE_snoc (m ++ [z])]
theorem sum_btw (r : List Ext) : ∀ (s : List Ext × Int), (∀ x, x ∈ r → s.2 ≤ x.1) → Nrm r → sumE (r.foldl btwS s).1 + sumE r = sumE s.1 + ((r.foldl btwS s).2 - s.2) := by
  induction r with
  | nil => intro s _ _; simp [sumE]
  | cons x r ih =>
    intro s hs hn
    obtain ⟨h1, h2⟩ := nrm_head hn
    have hx := hs x (by simp)
    have := ih (btwS s x) (fun y hy => by have := h2 y hy; unfold btwS; dsimp only; omega) (nrm_tail hn)
    rw [List.foldl_cons, sumE_cons]
    have e1 : sumE (btwS s x).1 = sumE s.1 + (x.1 - s.2) := by
      unfold btwS
      dsimp only
      rw [sum_put]
      split <;> omega
    have e2 : (btwS s x).2 = x.1 + x.2 := rfl
    rw [e1, e2] at this
    omega
theorem sum_all {b : Int} {l : List Ext} (hl : Row b l) : sumE l + sumE (btw b l) = b := by
  have h1 := sum_btw l ([], 0) (fun x hx => (hl.nrm.pos x hx).1) hl.nrm
  obtain ⟨⟨_, _, _, h2⟩, _⟩ := btw_all b l ([], 0) nrm_nil (upto_nil _) (by simp) hl.lo (fun x hx => (hl.nrm.pos x hx).1) hl.nrm hl.upto
  unfold btw
  rw [sum_put]
  dsimp only at h1
  have e : sumE [] = 0 := rfl
  rw [e] at h1
  split <;> omega
theorem btw_twice {b : Int} {l : List Ext} (hl : Row b l) : btw b (btw b l) = l := by
  obtain ⟨h1, h2⟩ := btw_ok hl
  obtain ⟨h3, h4⟩ := btw_ok h1
  refine row_ext h3 hl (fun k => ?_)
  rw [h4, h2]
  constructor
  · rintro ⟨h5, h6, h7⟩
    by_cases h8 : inR l k
    · exact h8
    · exact absurd ⟨h5, h6, h8⟩ h7
  · rintro ⟨x, hx, h5⟩
    have := hl.nrm.pos x hx
    have := hl.upto x hx
    have h6 := h5.1
    have h7 := h5.2
    exact ⟨by omega, by omega, fun h => h.2.2 ⟨x, hx, h5⟩⟩
end Go.Proofs.Ytkfoeijhhfaceab
