/-
  The document's Check, Sum, Has, Greatest, All and Same.
-/
import Derived.Test.YtkfoeijhhfaceaaPart11
import Derived.Laws.StructEq
import Derived.Deep.OwnRows
namespace Go.Proofs.Ytkfoeijhhfaceaa
open Go.RowKit Go.Shelf
attribute [local go_sem] Oper.semAt_some

theorem eq24 (d n d' n' : Int) (w : World) : (Op.equalIn 10000 24 (.agg #[.int .i64 d, .int .i64 n]) (.agg #[.int .i64 d', .int .i64 n'])).run Try.prog w = .ok (d == d' && n == n') w := by
  have u3 := Try.underlying3
  have a3 := Try.isAgg3
  have z3 := Try.sizeOf3
  have hS : Try.prog.underlying 24 = some (.struct (Try.prog.fieldsOf 24)) := by kernel_rfl
  have hp : Try.prog.stoodInHeld 24 = false := by kernel_rfl
  rw [show (10000 : Nat) = 9999 + 1 from rfl, run_equalIn_agg w 9999 24 _ _ hS hp]
  simp only [Program.fieldsOf, Try.underlying24]
  go_simp
  by_cases h1 : d = d' <;> by_cases h2 : n = n' <;> simp [h1, h2]
theorem run_neq24 (d n d' n' : Int) (w : World) : (binOp .neq 24 (.agg #[.int .i64 d, .int .i64 n]) (.agg #[.int .i64 d', .int .i64 n'])).run Try.prog w = .ok (.bool (!(d == d' && n == n'))) w := by
  rw [run_neq_struct, eq24]; rfl
theorem run_eql24 (d n d' n' : Int) (w : World) : (binOp .eql 24 (.agg #[.int .i64 d, .int .i64 n]) (.agg #[.int .i64 d', .int .i64 n'])).run Try.prog w = .ok (.bool (d == d' && n == n')) w := by
  rw [run_eql_struct, eq24]; rfl

theorem rcheck_any (b : Int) (a : Option Addr) (cap : Nat) (l : List Ext) (w : World) (hr : Rx w a cap l) :
    Calls Try.prog 15 #[.int .i64 b, .slice a l.length cap] w fun e w' => e = .returned (.int .i64 (chkO b l)) ∧ Below w.heap.size w w' := by
  unfold chkO
  by_cases h : b < 0 ∨ 4096 < b
  · rw [if_pos h]
    clear hr
    generalize l.length = n at *
    by_cases h1 : b < 0
    · go_enter Try.func15, Try.ntmps15
      go_wp2
      go_ret
      exact ⟨rfl, Below.refl _ _⟩
    · have h2 : 4096 < b := by omega
      have e1 : decide (b < 0) = false := decide_eq_false h1
      have e2 : decide (4096 < b) = true := decide_eq_true h2
      go_enter Try.func15, Try.ntmps15
      go_wp2
      go_ret
      exact ⟨rfl, Below.refl _ _⟩
  · rw [if_neg h]
    exact rcheck_good b a cap l w hr (by omega) (by omega)

set_option maxHeartbeats 6400000 in
set_option maxRecDepth 100000 in
theorem same_eq (a : Option Addr) (cap : Nat) (l : List Ext) (b : Option Addr) (cap2 : Nat) (w : World) (hr : Rx w a cap l) (hr2 : Rx w b cap2 l) :
    Calls Try.prog 16 #[.slice a l.length cap, .slice b l.length cap2] w fun e w' => e = .returned (.bool true) ∧ Below w.heap.size w w' := by
  have hm := hr.most
  have hm1 := hr.room
  have hm2 := hr2.most
  have hm3 := hr2.room
  unfold maxLen at hm hm2
  have HR := hid hr
  have HR2 := hid hr2
  obtain ⟨len, hle⟩ : ∃ n, n = l.length := ⟨_, rfl⟩
  have HL := hid hle
  rw [← hle] at hm1 hm3 ⊢
  have hb0 : ((len : Int) != (len : Int)) = false := by simp
  clear hr hr2 hle
  go_enter Try.func16, Try.ntmps16
  go_wp2
  go_loopw [5] (fun y wr => ∃ k : Nat, k ≤ len ∧ y = .int .i64 k ∧ Below w.heap.size w wr) (fun y _ => len - (intOf y).toNat)
  case atStart => exact ⟨0, by omega, rfl, Below.refl _ _⟩
  case round =>
    obtain ⟨k, hk, rfl, hbel⟩ := hrel
    by_cases hlt : k < len
    · have hkl : (k : Int) < (len : Int) := by omega
      obtain ⟨g1, o1, rfl, hg1, hc1⟩ := (HR.out).cells (by rw [← HL.out]; omega)
      obtain ⟨g2, o2, rfl, hg2, hc2⟩ := (HR2.out).cells (by rw [← HL.out]; omega)
      obtain ⟨p0, p1⟩ := hc1 k (by rw [← HL.out]; exact hlt)
      obtain ⟨q0, q1⟩ := hc2 k (by rw [← HL.out]; exact hlt)
      have c0 := (hbel.cell (p := ⟨g1, o1 + k * 2, none⟩) hg1).trans p0
      have c1 := (hbel.cell (p := ⟨g1, o1 + k * 2 + 1, none⟩) hg1).trans p1
      have d0 := (hbel.cell (p := ⟨g2, o2 + k * 2, none⟩) hg2).trans q0
      have d1 := (hbel.cell (p := ⟨g2, o2 + k * 2 + 1, none⟩) hg2).trans q1
      generalize l.getD k ex0 = t at *
      obtain ⟨d, n⟩ := t
      dsimp only at *
      have HB := hid (fun m => bel_drewN hbel m)
      have heq : ∀ W, (binOp .neq 24 (.agg #[.int .i64 d, .int .i64 n]) (.agg #[.int .i64 d, .int .i64 n])).run Try.prog W = .ok (.bool false) W := fun W => by
        rw [run_neq24]; simp
      clear hc1 hc2 hbel p0 p1 q0 q1
      go_wp2_with fail
      go_big_quiet (fail)
      go_wp2
      exact ⟨⟨k + 1, by omega, by go_num, HB.out _⟩, by simp [intOf]; omega⟩
    · go_wp2
      go_ret
      exact ⟨rfl, hbel⟩

set_option maxHeartbeats 6400000 in
set_option maxRecDepth 100000 in
theorem rsum_word (a : Option Addr) (cap : Nat) (l : List Ext) (w : World) (hr : Rx w a cap l) :
    Calls Try.prog 13 #[.slice a l.length cap] w fun e w' => e = .returned (.tuple #[.int .i64 (sumO l).1, .int .i64 (sumO l).2]) ∧ Below w.heap.size w w' := by
  have HC := hid (rcheck_any 4096 a cap l w hr)
  rcases chk_wide l with hc | hc
  · have HO : Hid (sumO l = (sumE l, 0)) := by show _ = _; unfold sumO; rw [if_pos hc]
    have hrow := chk_row hc
    have HRW := hid hrow
    have hlen := (row_len hrow).2
    rw [HO.out]
    rw [hc] at HC
    have HR := hid hr
    have hroom := hr.room
    have hmost := hr.most
    unfold maxLen at hmost
    obtain ⟨len, hln⟩ : ∃ n, n = l.length := ⟨_, rfl⟩
    have HL := hid hln
    rw [← hln] at HC hroom hlen ⊢
    clear hr hc hrow hln
    dsimp only
    go_enter Try.func13, Try.ntmps13
    go_wp2_with fail
    refine HC.out.mono ?_
    rintro _ w1 ⟨rfl, hb1⟩
    have HB1 := hid hb1
    have HR1 := hid (HR.out.later hb1)
    clear hb1 HC HR
    go_wp2
    go_loopw [4, 5] (fun x4 x5 wr => ∃ k : Nat, k ≤ len ∧ x5 = .int .i64 (k : Int) ∧ x4 = .int .i64 (sumE (l.take k)) ∧ wr = w1) (fun _ x5 _ => len - (intOf x5).toNat)
    case atStart => exact ⟨0, by omega, rfl, rfl, rfl⟩
    case round =>
      obtain ⟨k, hk, rfl, rfl, rfl⟩ := hrel
      have hsum := sumE_rng (l.take k) (fun x hx => by
        have h1 := HRW.out.nrm.pos x (List.mem_of_mem_take hx)
        have h2 := HRW.out.upto x (List.mem_of_mem_take hx)
        omega)
      have htl : ((l.take k).length : Int) ≤ 4096 := by rw [List.length_take]; omega
      by_cases hlt : k < len
      · have hkz : (k : Int) < (len : Int) := by omega
        have hkl : k < l.length := by rw [← HL.out]; exact hlt
        obtain ⟨g, off, rfl, hgw, hcc⟩ := HR1.out.cells (by omega)
        obtain ⟨c0, c1⟩ := hcc k hkl
        have HSN : Hid (sumE (l.take (k + 1)) = sumE (l.take k) + (l.getD k ex0).2) := by show _ = _; rw [ext_take l k hkl, sumE_snoc]
        have hmem : l.getD k ex0 ∈ l := by simp only [List.getD, List.getElem?_eq_getElem hkl, Option.getD_some]; exact List.getElem_mem hkl
        have hz1 := HRW.out.nrm.pos _ hmem
        have hz2 := HRW.out.upto _ hmem
        generalize l.getD k ex0 = x at *
        obtain ⟨y, z⟩ := x
        dsimp only at c0 c1 HSN hz1 hz2
        generalize sumE (l.take k) = q at *
        clear hcc hmem
        go_wp2
        exact ⟨⟨k + 1, by omega, by go_num, by rw [HSN.out], trivial⟩, by simp [intOf]; omega⟩
      · obtain rfl : k = len := by omega
        have hkz : ¬ (k : Int) < (k : Int) := by omega
        have HT : Hid (l.take k = l) := List.take_of_length_le (by rw [← HL.out]; omega)
        rw [HT.out]
        go_wp2
        go_ret2
        exact ⟨rfl, HB1.out⟩
  · have HO : Hid (sumO l = (0, 100)) := by show _ = _; unfold sumO; rw [if_neg (by omega)]
    rw [HO.out]
    rw [hc] at HC
    clear hr hc
    dsimp only
    generalize l.length = n at *
    go_enter Try.func13, Try.ntmps13
    go_wp2_with fail
    refine HC.out.mono ?_
    rintro _ w1 ⟨rfl, hb1⟩
    have HB := hid hb1
    clear hb1
    go_wp2
    go_ret2
    exact ⟨rfl, HB.out⟩

def allO (b : Int) : List Ext × Int := if b < 0 ∨ 4096 < b then ([], 1) else if b = 0 then ([], 0) else ([(0, b)], 0)
theorem all_eq (b : Int) : allO b = otherO b [] := by
  unfold allO otherO
  by_cases h : b < 0 ∨ 4096 < b
  · have hc : chkO b [] = 1 := by unfold chkO; rw [if_pos h]
    rw [if_pos h, hc, if_pos (by omega)]
  · have hc : chkO b [] = 0 := by unfold chkO; rw [if_neg h, if_pos (show rowB b 0 [] = true from rfl)]
    have e : btw b [] = putL [] 0 b := rfl
    rw [if_neg h, hc, e, if_neg (show ¬ ((0 : Int) ≠ 0) from fun h => h rfl)]
    by_cases h0 : b = 0
    · subst h0; rw [if_pos rfl, put_no (by omega)]
    · rw [if_neg h0, put_nil (by omega)]; simp
theorem one_row (w : World) (b : Int) : (w.alloc (.cells #[.int .i64 0, .int .i64 b] 24)).ownsRow w.heap.size 24 2 (.slice (some ⟨w.heap.size, 0, none⟩) 1 1) 1 ([(0, b)].flatMap extC) :=
  ⟨rfl, .inr ⟨w.heap.size, 1, _, rfl, Nat.le_refl _, heap_new w _, Nat.le_refl _, by unfold maxLen; omega, rfl, rfl⟩⟩
set_option maxHeartbeats 6400000 in
set_option maxRecDepth 100000 in
theorem rall_word (b : Int) (w : World) : Calls Try.prog 11 #[.int .i64 b] w (RwPost (otherO b []) w) := by
  rw [← all_eq]
  unfold RwPost allO
  by_cases h : b < 0 ∨ 4096 < b
  · rw [if_pos h]
    by_cases h1 : b < 0
    · go_enter Try.func11, Try.ntmps11
      go_wp2
      go_ret2
      exact ⟨_, rfl, ⟨rfl, .inl ⟨rfl, rfl⟩⟩, Below.refl _ _⟩
    · have h2 : 4096 < b := by omega
      have e1 : decide (b < 0) = false := decide_eq_false h1
      have e2 : decide (4096 < b) = true := decide_eq_true h2
      go_enter Try.func11, Try.ntmps11
      go_wp2
      go_ret2
      exact ⟨_, rfl, ⟨rfl, .inl ⟨rfl, rfl⟩⟩, Below.refl _ _⟩
  · rw [if_neg h]
    have e1 : decide (b < 0) = false := decide_eq_false (by omega)
    have e2 : decide (4096 < b) = false := decide_eq_false (by omega)
    by_cases h0 : b = 0
    · subst h0
      rw [if_pos rfl]
      clear e1 e2
      go_enter Try.func11, Try.ntmps11
      go_wp2
      go_ret2
      exact ⟨_, rfl, ⟨rfl, .inl ⟨rfl, rfl⟩⟩, Below.refl _ _⟩
    · rw [if_neg h0]
      have e3 : decide (b = 0) = false := decide_eq_false h0
      have HO := hid (one_row w b)
      have HB := hid (bel_alloc w (.cells #[.int .i64 0, .int .i64 b] 24))
      go_enter Try.func11, Try.ntmps11
      go_wp2
      go_ret2
      exact ⟨_, rfl, HO.out, HB.out⟩
end Go.Proofs.Ytkfoeijhhfaceaa
/-
  The document's Has and Greatest.
-/
namespace Go.Proofs.Ytkfoeijhhfaceaa
open Go.RowKit Go.Shelf
attribute [local go_sem] Oper.semAt_some

theorem hldB_take {l : List Ext} {e : Ext} {k : Nat} (h : hldB (l.take k) e = true) : hldB l e = true := by
  have := hldB_pre (l.take k) (l.drop k) e h
  rwa [List.take_append_drop] at this
set_option maxHeartbeats 6400000 in
set_option maxRecDepth 100000 in
theorem rhas_main (a : Option Addr) (cap : Nat) (l : List Ext) (e0 e1 : Int) (w : World) (hr : Rx w a cap l) (he : (Lit.int .i64 e0).wf = true) (hc : chkO 4096 l = 0) (hl : lieB 4096 (e0, e1) = true) :
    Calls Try.prog 18 #[.slice a l.length cap, .agg #[.int .i64 e0, .int .i64 e1]] w fun e w' => e = .returned (.bool (hldB l (e0, e1))) ∧ Below w.heap.size w w' := by
  have hB := bel_alloc w (.cells #[.int .i64 e0, .int .i64 e1] 24)
  have HXE : Hid (Xb (w.alloc (.cells #[.int .i64 e0, .int .i64 e1] 24)) w.heap.size (e0, e1)) := heap_new w _
  have HC := hid (rcheck_any 4096 a cap l (w.alloc (.cells #[.int .i64 e0, .int .i64 e1] 24)) (hr.later hB))
  rw [hc] at HC
  have HB := hid hB
  have HR := hid hr
  have HRW := hid (chk_row hc)
  have HL : Hid (∀ W, Calls Try.prog 33 #[.int .i64 4096, .agg #[.int .i64 e0, .int .i64 e1]] W fun e w' => e = .returned (.bool true) ∧ Below W.heap.size W w') := fun W => by
    have := lies_ref 4096 (e0, e1) W (by omega) (by omega) he
    rw [hl] at this
    exact this
  obtain ⟨k1, k2, k3⟩ := (lieB_iff 4096 (e0, e1)).1 hl
  dsimp only at k1 k2 k3
  have hroom := hr.room
  have hmost := hr.most
  unfold maxLen at hmost
  obtain ⟨o, ho⟩ : ∃ o, o = hldB l (e0, e1) := ⟨_, rfl⟩
  have HO := hid ho
  rw [← ho]
  obtain ⟨len, hln⟩ : ∃ n, n = l.length := ⟨_, rfl⟩
  have HLN := hid hln
  rw [← hln] at HC hroom ⊢
  clear hB hr he hc hl ho hln
  go_enter Try.func18, Try.ntmps18
  go_wp2_with fail
  refine HC.out.mono ?_
  rintro _ w1 ⟨rfl, hb1⟩
  have HX1 := hid (HXE.out.later hb1)
  obtain ⟨c0, c1⟩ := HX1.out.cells
  have HB1 := hid (Bn HB.out hb1)
  have HL1 := hid (HL.out w1)
  dsimp only at c0 c1
  clear hb1 HC HXE HB HL
  go_wp2_with fail
  refine HL1.out.mono ?_
  rintro _ w2 ⟨rfl, hb2⟩
  have HX2 := hid (HX1.out.later hb2)
  have HB2 := hid (Bn HB1.out hb2)
  have HR2 := hid (HR.out.later HB2.out)
  clear hb2 HB1 HL1 c0 c1 HX1 HR
  obtain ⟨s, hs⟩ : ∃ s, s = w.heap.size := ⟨_, rfl⟩
  rw [← hs] at HX2 ⊢
  have HHS := hid hs
  clear hs
  go_wp2
  go_loopw [5] (fun x5 wr => ∃ k : Nat, k ≤ len ∧ x5 = .int .i64 (k : Int) ∧ Hid (hldB (l.take k) (e0, e1) = false) ∧ Hid (Below w.heap.size w wr) ∧ Hid (Xb wr s (e0, e1)) ∧ Hid (Rx wr a cap l)) (fun x5 _ => len - (intOf x5).toNat)
  case atStart => exact ⟨0, by omega, rfl, rfl, HB2.out, HX2.out, HR2.out⟩
  case round =>
    clear HB2 HX2 HR2
    obtain ⟨k, hk, rfl, HT, HBr, HXr, HRr⟩ := hrel
    by_cases hlt : k < len
    · have hkz : (k : Int) < (len : Int) := by omega
      have hkl : k < l.length := by rw [← HLN.out]; exact hlt
      obtain ⟨g, off, hag, hgw, hcc⟩ := HRr.out.cells (by omega)
      subst hag
      obtain ⟨c0, c1⟩ := hcc k hkl
      obtain ⟨d0, d1⟩ := HXr.out.cells
      have hmem : l.getD k ex0 ∈ l := by simp only [List.getD, List.getElem?_eq_getElem hkl, Option.getD_some]; exact List.getElem_mem hkl
      have hz1 := HRW.out.nrm.pos _ hmem
      have hz2 := HRW.out.upto _ hmem
      have HSN := hid (hldB_snoc (l.take k) (l.getD k ex0) (e0, e1))
      rw [← ext_take l k hkl, HT.out, Bool.false_or] at HSN
      generalize l.getD k ex0 = x at *
      obtain ⟨y, z⟩ := x
      dsimp only at c0 c1 d0 d1 HSN hz1 hz2
      have HBD := hid (fun m => bel_drewN HBr.out m)
      have HXD : Hid (∀ m, Xb (wr.drewN m) s (e0, e1)) := fun m => HXr.out
      have HRD : Hid (∀ m, Rx (wr.drewN m) (some ⟨g, off, none⟩) cap l) := fun m => HRr.out.later ⟨rfl, rfl, rfl, Nat.le_refl _, fun _ _ => rfl⟩
      clear hcc hmem HBr HXr HRr
      by_cases h1 : y ≤ e0
      · have b1 : decide (y ≤ e0) = true := decide_eq_true h1
        rw [b1, Bool.true_and] at HSN
        by_cases h2 : e0 + e1 ≤ y + z
        · have b2 : decide (e0 + e1 ≤ y + z) = true := decide_eq_true h2
          rw [b2] at HSN
          have ho := HO.out
          rw [hldB_take HSN.out] at ho
          subst ho
          go_wp2_with fail
          go_big_quiet (fail)
          go_wp2
          go_ret
          exact ⟨rfl, HBD.out _⟩
        · have b2 : decide (e0 + e1 ≤ y + z) = false := decide_eq_false h2
          rw [b2] at HSN
          go_wp2_with fail
          go_big_quiet (fail)
          go_wp2
          exact ⟨⟨k + 1, by omega, by go_num, HSN, HBD.out _, HXD.out _, HRD.out _⟩, by simp [intOf]; omega⟩
      · have b1 : decide (y ≤ e0) = false := decide_eq_false h1
        rw [b1, Bool.false_and] at HSN
        go_wp2_with fail
        go_big_quiet (fail)
        go_wp2
        exact ⟨⟨k + 1, by omega, by go_num, HSN, HBD.out _, HXD.out _, HRD.out _⟩, by simp [intOf]; omega⟩
    · obtain rfl : k = len := by omega
      have hkz : ¬ (k : Int) < (k : Int) := by omega
      have HTT : Hid (l.take k = l) := List.take_of_length_le (by rw [← HLN.out]; omega)
      rw [HTT.out] at HT
      have ho := HO.out
      rw [HT.out] at ho
      subst ho
      go_wp2
      go_ret
      exact ⟨rfl, HBr.out⟩

set_option maxHeartbeats 6400000 in
set_option maxRecDepth 100000 in
theorem rhas_word (a : Option Addr) (cap : Nat) (l : List Ext) (e0 e1 : Int) (w : World) (hr : Rx w a cap l) (he : (Lit.int .i64 e0).wf = true) :
    Calls Try.prog 18 #[.slice a l.length cap, .agg #[.int .i64 e0, .int .i64 e1]] w fun e w' => e = .returned (.bool (hasO l (e0, e1))) ∧ Below w.heap.size w w' := by
  unfold hasO
  have hB := bel_alloc w (.cells #[.int .i64 e0, .int .i64 e1] 24)
  have HXE : Hid (Xb (w.alloc (.cells #[.int .i64 e0, .int .i64 e1] 24)) w.heap.size (e0, e1)) := heap_new w _
  have HC := hid (rcheck_any 4096 a cap l (w.alloc (.cells #[.int .i64 e0, .int .i64 e1] 24)) (hr.later hB))
  have HB := hid hB
  have HL : Hid (∀ W, Calls Try.prog 33 #[.int .i64 4096, .agg #[.int .i64 e0, .int .i64 e1]] W fun e w' => e = .returned (.bool (lieB 4096 (e0, e1))) ∧ Below W.heap.size W w') := fun W => lies_ref 4096 (e0, e1) W (by omega) (by omega) he
  by_cases hc : chkO 4096 l = 0
  · by_cases hl : lieB 4096 (e0, e1) = true
    · rw [hc, hl]
      have := rhas_main a cap l e0 e1 w hr he hc hl
      simpa using this
    · have hl' : lieB 4096 (e0, e1) = false := by simpa using hl
      rw [hc] at HC ⊢
      rw [hl'] at HL ⊢
      clear hB hr he hc hl hl'
      generalize hldB l (e0, e1) = o at *
      generalize l.length = n at *
      go_enter Try.func18, Try.ntmps18
      go_wp2_with fail
      refine HC.out.mono ?_
      rintro _ w1 ⟨rfl, hb1⟩
      obtain ⟨c0, c1⟩ := (HXE.out.later hb1).cells
      have HB1 := hid (Bn HB.out hb1)
      have HL1 := hid (HL.out w1)
      dsimp only at c0 c1
      clear hb1 HC HXE HB HL
      go_wp2_with fail
      refine HL1.out.mono ?_
      rintro _ w2 ⟨rfl, hb2⟩
      have HB2 := hid (Bn HB1.out hb2)
      clear hb2 HB1 HL1 c0 c1
      go_wp2
      go_ret
      exact ⟨by simp, HB2.out⟩
  · have hd : decide (chkO 4096 l = 0) = false := decide_eq_false hc
    rw [hd]
    clear HXE HL hB hr he
    generalize chkO 4096 l = c at *
    generalize hldB l (e0, e1) = o at *
    generalize lieB 4096 (e0, e1) = o2 at *
    generalize l.length = n at *
    go_enter Try.func18, Try.ntmps18
    go_wp2_with fail
    refine HC.out.mono ?_
    rintro _ w1 ⟨rfl, hb1⟩
    have HB1 := hid (Bn HB.out hb1)
    clear hb1 HC HB
    go_wp2
    go_ret
    exact ⟨by simp, HB1.out⟩

set_option maxHeartbeats 6400000 in
set_option maxRecDepth 100000 in
theorem rgreatest_word (a : Option Addr) (cap : Nat) (l : List Ext) (w : World) (hr : Rx w a cap l) :
    Calls Try.prog 20 #[.slice a l.length cap] w fun e w' => e = .returned (.agg (extV (grt l))) ∧ Below w.heap.size w w' := by
  have hB := Bn (bel_alloc w (.cells #[.int .i64 0, .int .i64 0] 24)) (bel_alloc _ (.cells #[.int .i64 0, .int .i64 0] 24))
  have HX0 : Hid (Xb ((w.alloc (.cells #[.int .i64 0, .int .i64 0] 24)).alloc (.cells #[.int .i64 0, .int .i64 0] 24)) w.heap.size (0, 0)) := heap_old _ _ (heap_new w _)
  have HX1 : Hid (Xb ((w.alloc (.cells #[.int .i64 0, .int .i64 0] 24)).alloc (.cells #[.int .i64 0, .int .i64 0] 24)) (w.heap.size + 1) (0, 0)) := by
    have := heap_new (w.alloc (.cells #[.int .i64 0, .int .i64 0] 24)) (.cells #[.int .i64 0, .int .i64 0] 24)
    rw [World.size_alloc] at this
    exact this
  have HB := hid hB
  have HR := hid hr
  have hroom := hr.room
  have hmost := hr.most
  unfold maxLen at hmost
  obtain ⟨len, hln⟩ : ∃ n, n = l.length := ⟨_, rfl⟩
  have HLN := hid hln
  rw [← hln] at hroom ⊢
  clear hB hr hln
  go_enter Try.func20, Try.ntmps20
  go_wp2
  generalize (w.alloc (.cells #[.int .i64 0, .int .i64 0] 24)).alloc (.cells #[.int .i64 0, .int .i64 0] 24) = W2 at *
  obtain ⟨s, hs⟩ : ∃ s, s = w.heap.size := ⟨_, rfl⟩
  have HHS := hid hs
  rw [← hs] at HX0 HX1 ⊢
  clear hs
  go_loopw [4] (fun x4 wr => ∃ k : Nat, k ≤ len ∧ x4 = .int .i64 (k : Int) ∧ Hid (Below w.heap.size w wr) ∧ Hid (Xb wr s (0, 0)) ∧ Hid (Xb wr (s + 1) (grt (l.take k)))) (fun x4 _ => len - (intOf x4).toNat)
  case atStart => exact ⟨0, by omega, rfl, HB.out, HX0.out, HX1.out⟩
  case round =>
    clear HB HX0 HX1
    obtain ⟨k, hk, rfl, HBr, H0, H1⟩ := hrel
    by_cases hlt : k < len
    · have hkz : (k : Int) < (len : Int) := by omega
      have hkl : k < l.length := by rw [← HLN.out]; exact hlt
      obtain ⟨g, off, hag, hgw, hcc⟩ := (HR.out.later HBr.out).cells (by omega)
      subst hag
      obtain ⟨c0, c1⟩ := hcc k hkl
      obtain ⟨d0, d1⟩ := H1.out.cells
      have f0 := H1.out.frozen 0
      have f1 := H1.out.frozen 1
      have HSN := hid (grt_snoc (l.take k) (l.getD k ex0))
      rw [← ext_take l k hkl] at HSN
      unfold grtS at HSN
      generalize grt (l.take k) = q at *
      generalize l.getD k ex0 = x at *
      obtain ⟨q0, q1⟩ := q
      obtain ⟨y, z⟩ := x
      dsimp only at c0 c1 d0 d1 HSN
      have HBD := hid (fun m => bel_drewN HBr.out m)
      clear hcc
      by_cases h1 : q1 < z
      · have b1 : decide (q1 < z) = true := decide_eq_true h1
        rw [if_pos h1] at HSN
        go_wp2_with fail
        go_big_quiet (fail)
        go_wp2
        refine ⟨⟨k + 1, by omega, by go_num, ?_, ?_, ?_⟩, by simp [intOf]; omega⟩
        · exact ((HBD.out _).setCell (p := ⟨s + 1, 0, none⟩) (by show _ ≤ s + 1; rw [HHS.out]; omega) _).setCell (p := ⟨s + 1, 1, none⟩) (by show _ ≤ s + 1; rw [HHS.out]; omega) _
        · exact (Xb.other (show Xb (wr.drewN _) s (0, 0) from H0.out) (by omega) _).other (by omega) _
        · show Xb _ _ _
          rw [HSN.out]
          exact Xb.put (show Xb (wr.drewN _) (s + 1) (q0, q1) from H1.out) (y, z)
      · have b1 : decide (q1 < z) = false := decide_eq_false h1
        rw [if_neg h1] at HSN
        go_wp2_with fail
        go_big_quiet (fail)
        go_wp2
        refine ⟨⟨k + 1, by omega, by go_num, HBD.out _, H0.out, ?_⟩, by simp [intOf]; omega⟩
        show Xb _ _ _
        rw [HSN.out]
        exact H1.out
    · obtain rfl : k = len := by omega
      have hkz : ¬ (k : Int) < (k : Int) := by omega
      have HTT : Hid (l.take k = l) := List.take_of_length_le (by rw [← HLN.out]; omega)
      rw [HTT.out] at H1
      obtain ⟨d0, d1⟩ := H1.out.cells
      have f0 := H0.out.frozen 0
      have f1 := H0.out.frozen 1
      obtain ⟨b0, b1⟩ := H0.out.cells
      obtain ⟨⟨q0, q1⟩, hq⟩ : ∃ q, q = grt l := ⟨_, rfl⟩
      rw [← hq] at d0 d1
      have HQE := hid hq
      clear hq
      dsimp only at d0 d1 b0 b1
      have HQ := hid (H0.out.put (q0, q1))
      have HFB : Hid (Below w.heap.size w ((wr.setCell ⟨s, 0, none⟩ (.int .i64 q0)).setCell ⟨s, 1, none⟩ (.int .i64 q1))) := (HBr.out.setCell (p := ⟨s, 0, none⟩) (by show _ ≤ s; rw [HHS.out]; exact Nat.le_refl _) _).setCell (p := ⟨s, 1, none⟩) (by show _ ≤ s; rw [HHS.out]; exact Nat.le_refl _) _
      go_wp2
      refine bodyPost_ret (results_cell_row (ty := 24) (cs := extV (q0, q1)) rfl _ _ s _ _ _ rfl HQ.out Try.underlying24 rfl (by kernel_rfl)) rfl ?_
      exact ⟨by rw [HQE.out], HFB.out⟩
end Go.Proofs.Ytkfoeijhhfaceaa
/-
  Blocks as bits: the document's bits and turn.
-/
namespace Go.Proofs.Ytkfoeijhhfaceaa
open Go.RowKit Go.Shelf
attribute [local go_sem] Oper.semAt_some

/-- The row of bools at g. -/
def Bb (w : World) (g n : Nat) (p : Nat → Bool) : Prop := ∃ cs, w.heap[g]? = some (.cells cs 4 (0, 0)) ∧ cs.size = n ∧ ∀ j, j < n → cs[j]? = some (.bool (p j))
theorem Bb.lt {w : World} {g n : Nat} {p : Nat → Bool} (h : Bb w g n p) : g < w.heap.size := by
  obtain ⟨cs, h1, _⟩ := h
  exact (Array.getElem?_eq_some_iff.1 h1).1
theorem Bb.cell {w : World} {g n : Nat} {p : Nat → Bool} (h : Bb w g n p) {j : Nat} (hj : j < n) : w.cell? ⟨g, j, none⟩ = some (.bool (p j)) := by
  obtain ⟨cs, h1, h2, h3⟩ := h
  exact (Joins.cell_of_block h1 j).trans (h3 j hj)
theorem Bb.frozen {w : World} {g n : Nat} {p : Nat → Bool} (h : Bb w g n p) (j : Nat) : w.frozen? ⟨g, j, none⟩ = false := by
  obtain ⟨cs, h1, _⟩ := h
  exact Joins.unfrozen_of_block h1 j
theorem Bb.later {w w' : World} {g n : Nat} {p : Nat → Bool} (h : Bb w g n p) (hb : w'.heap[g]? = w.heap[g]?) : Bb w' g n p := by
  obtain ⟨cs, h1, h2⟩ := h
  exact ⟨cs, hb.trans h1, h2⟩
theorem Bb.below {w w' : World} {g n : Nat} {p : Nat → Bool} (h : Bb w g n p) (hb : Below w.heap.size w w') : Bb w' g n p := h.later (hb.block g h.lt)
theorem Bb.congr {w : World} {g n : Nat} {p q : Nat → Bool} (h : Bb w g n p) (hq : ∀ j, j < n → p j = q j) : Bb w g n q := by
  obtain ⟨cs, h1, h2, h3⟩ := h
  exact ⟨cs, h1, h2, fun j hj => by rw [← hq j hj]; exact h3 j hj⟩
theorem Bb.set {w : World} {g n : Nat} {p : Nat → Bool} (h : Bb w g n p) (k : Nat) (v : Bool) : Bb (w.setCell ⟨g, k, none⟩ (.bool v)) g n (fun j => if j = k then v else p j) := by
  obtain ⟨cs, h1, h2, h3⟩ := h
  refine ⟨cs.setIfInBounds k (.bool v), Joins.block_setCell h1 _, by simpa using h2, fun j hj => ?_⟩
  rw [Array.getElem?_setIfInBounds]
  by_cases e : k = j
  · subst e
    simp [h2, hj]
  · rw [if_neg e]
    have e2 : ¬ j = k := fun h => e h.symm
    simp only [e2, if_false]
    exact h3 j hj
theorem bb_made (w : World) (n : Nat) : Bb (w.alloc (.cells (madeCells #[.bool false] n) 4)) w.heap.size n (fun _ => false) := by
  refine ⟨_, heap_new w _, by simp [madeCells], fun j hj => by simp [madeCells, hj, Nat.mod_one]⟩
/-- Only block g was turned, of what there was. -/
structure But1 (g : Nat) (w w' : World) : Prop where
  bel : Below 0 w w'
  same : ∀ i, i < w.heap.size → i ≠ g → w'.heap[i]? = w.heap[i]?
theorem But1.of_below {g : Nat} {w w' : World} (h : Below w.heap.size w w') : But1 g w w' := ⟨h.mono (Nat.zero_le _), fun i hi _ => h.block i hi⟩
theorem But1.trans {g : Nat} {a b c : World} (h : But1 g a b) (k : But1 g b c) : But1 g a c := ⟨h.bel.trans k.bel, fun i hi hn => (k.same i (Nat.lt_of_lt_of_le hi h.bel.size) hn).trans (h.same i hi hn)⟩
theorem But1.set (g i : Nat) (w : World) (v : Value) : But1 g w (w.setCell ⟨g, i, none⟩ v) := ⟨(Below.refl 0 w).setCell (p := ⟨g, i, none⟩) (Nat.zero_le _) v, fun j _ hn => Below.heap_setCell w ⟨g, i, none⟩ v j hn⟩
theorem But1.below {g n : Nat} {w w' : World} (h : But1 g w w') (hg : n ≤ g) (hn : n ≤ w.heap.size) : Below n w w' := ⟨h.bel.os, h.bel.tape, h.bel.output, h.bel.size, fun i hi => h.same i (by omega) (by omega)⟩
/-- Is a block in a row? -/
def inB (l : List Ext) (k : Nat) : Bool := l.any fun x => decide (x.1 ≤ (k : Int)) && decide ((k : Int) < x.1 + x.2)
theorem inB_iff (l : List Ext) (k : Nat) : inB l k = true ↔ inR l (k : Int) := by
  unfold inB inR inE
  rw [List.any_eq_true]
  constructor
  · rintro ⟨x, hx, h⟩
    exact ⟨x, hx, by simpa using h⟩
  · rintro ⟨x, hx, h⟩
    exact ⟨x, hx, by simpa using h⟩
theorem inB_snoc (l : List Ext) (x : Ext) (k : Nat) : inB (l ++ [x]) k = (inB l k || (decide (x.1 ≤ (k : Int)) && decide ((k : Int) < x.1 + x.2))) := by simp [inB]
theorem Try.info4 : (Try.prog.info? 4).map (fun i => (i.zero, i.size, i.bytes)) = some (some (.bool false), 1, 1) := by kernel_rfl
def BitsPost (n : Nat) (l : List Ext) (w : World) (e : Ending) (w' : World) : Prop := ∃ g, e = .returned (.slice (some ⟨g, 0, none⟩) n n) ∧ w.heap.size ≤ g ∧ Bb w' g n (inB l) ∧ Below w.heap.size w w'

set_option maxHeartbeats 6400000 in
set_option maxRecDepth 100000 in
theorem bits_ref (n : Nat) (a : Option Addr) (cap : Nat) (l : List Ext) (w : World) (hr : Rx w a cap l) (hrow : Row (n : Int) l) :
    Calls Try.prog 39 #[.int .i64 (n : Int), .slice a l.length cap] w (BitsPost n l w) := by
  unfold BitsPost
  have hn4 := hrow.hi
  have hmk : ∀ w : World, (Instr.makeSlice 54 (.int .i64 (n : Int)) (.int .i64 (n : Int))).run Try.prog w = .ok (.slice (some ⟨w.heap.size, 0, none⟩) n n) (w.alloc (.cells (madeCells #[.bool false] n) 4)) := run_make_row' 54 4 (.bool false) 1 Try.underlying54 Try.info4 rfl .i64 .i64 n (by omega) (by omega)
  have HM := hid (bb_made w n)
  have HB := hid (bel_alloc w (.cells (madeCells #[.bool false] n) 4))
  have HR := hid hr
  have HRW := hid hrow
  have hroom := hr.room
  have hmost := hr.most
  have hlen := (row_len hrow).2
  unfold maxLen at hmost
  obtain ⟨len, hln⟩ : ∃ m, m = l.length := ⟨_, rfl⟩
  have HL := hid hln
  rw [← hln] at hroom hlen ⊢
  clear hr hrow hln
  go_enter Try.func39, Try.ntmps39
  go_wp2
  generalize w.alloc (.cells (madeCells #[.bool false] n) 4) = W1 at *
  obtain ⟨g, hg⟩ : ∃ g, g = w.heap.size := ⟨_, rfl⟩
  have HG := hid hg
  rw [← hg] at HM ⊢
  clear hg hmk
  go_loopw [6] (fun x6 wr => ∃ k : Nat, k ≤ len ∧ x6 = .int .i64 (k : Int) ∧ Hid (Below w.heap.size w wr) ∧ Hid (Bb wr g n (inB (l.take k)))) (fun x6 _ => len - (intOf x6).toNat)
  case atStart => exact ⟨0, by omega, rfl, HB.out, HM.out⟩
  case round =>
    clear HM HB
    obtain ⟨k, hk, rfl, HBr, HBB⟩ := hrel
    by_cases hlt : k < len
    · have hkz : (k : Int) < (len : Int) := by omega
      have hkl : k < l.length := by rw [← HL.out]; exact hlt
      obtain ⟨b, off, hag, hbw, hcc⟩ := HR.out.cells (by omega)
      subst hag
      obtain ⟨c0, c1⟩ := hcc k hkl
      have hmem : l.getD k ex0 ∈ l := by simp only [List.getD, List.getElem?_eq_getElem hkl, Option.getD_some]; exact List.getElem_mem hkl
      have hz1 := HRW.out.nrm.pos _ hmem
      have hz2 := HRW.out.upto _ hmem
      have HSN : Hid (∀ j, inB (l.take (k + 1)) j = (inB (l.take k) j || (decide ((l.getD k ex0).1 ≤ (j : Int)) && decide ((j : Int) < (l.getD k ex0).1 + (l.getD k ex0).2)))) := fun j => by rw [ext_take l k hkl, inB_snoc]
      generalize l.getD k ex0 = x at *
      obtain ⟨y, z⟩ := x
      dsimp only at c0 c1 HSN hz1 hz2
      obtain ⟨Y, hY⟩ : ∃ Y : Nat, y = (Y : Int) := ⟨y.toNat, by omega⟩
      obtain ⟨Z, hZ⟩ : ∃ Z : Nat, z = (Z : Int) := ⟨z.toNat, by omega⟩
      subst hY hZ
      have HC0 : Hid (∀ V, Below w.heap.size w V → V.cell? ⟨b, off + k * 2, none⟩ = some (.int .i64 (Y : Int)) ∧ V.cell? ⟨b, off + k * 2 + 1, none⟩ = some (.int .i64 (Z : Int))) := fun V hV => ⟨(hV.cell (p := ⟨b, off + k * 2, none⟩) hbw).trans c0, (hV.cell (p := ⟨b, off + k * 2 + 1, none⟩) hbw).trans c1⟩
      have hYZ : Y + Z ≤ n := by omega
      clear hcc hmem hz1 hz2 c0 c1
      go_wp2
      obtain ⟨wo, hwo⟩ : ∃ wo : World, wo = wr := ⟨_, rfl⟩
      go_loopw [7] (fun x7 wr => ∃ m : Nat, m ≤ Z ∧ x7 = .int .i64 (m : Int) ∧ Hid (Below w.heap.size w wr) ∧ Hid (Bb wr g n (fun j => inB (l.take k) j || (decide (Y ≤ j) && decide (j < Y + m))))) (fun x7 _ => Z - (intOf x7).toNat)
      case atStart => exact ⟨0, by omega, rfl, HBr.out, HBB.out.congr (fun j hj => by rw [show (decide (Y ≤ j) && decide (j < Y + 0)) = false from by rw [Bool.and_eq_false_iff]; by_cases h : Y ≤ j; exact .inr (decide_eq_false (by omega)); exact .inl (decide_eq_false h), Bool.or_false])⟩
      case round =>
        clear HBr HBB
        obtain ⟨m, hm, rfl, HBr, HBB⟩ := hrel
        obtain ⟨d0, d1⟩ := HC0.out wr HBr.out
        by_cases hmz : m < Z
        · have hmZ : (m : Int) < (Z : Int) := by omega
          obtain ⟨q, hq⟩ : ∃ q, q = Y + m := ⟨_, rfl⟩
          have HQ := hid hq
          have hqz : (Y : Int) + (m : Int) = (q : Int) := by omega
          have hqn : (q : Int) < (n : Int) := by omega
          have hq0 : (0 : Int) ≤ (q : Int) := by omega
          have e0 := HBB.out.cell (j := q) (by omega)
          have f0 := HBB.out.frozen q
          have HS := hid (HBB.out.set q true)
          have HBS : Hid (Below w.heap.size w (wr.setCell ⟨g, q, none⟩ (.bool true))) := HBr.out.setCell (p := ⟨g, q, none⟩) (by show _ ≤ g; rw [HG.out]; exact Nat.le_refl _) _
          clear hq
          go_wp2
          refine ⟨⟨m + 1, by omega, by go_num, HBS.out, HS.out.congr (fun j hj => ?_)⟩, by simp [intOf]; omega⟩
          have hq := HQ.out
          by_cases ej : j = q
          · rw [if_pos ej, decide_eq_true (show Y ≤ j by omega), decide_eq_true (show j < Y + (m + 1) by omega)]
            simp
          · rw [if_neg ej]
            congr 2
            apply decide_eq_decide.2
            omega
        · obtain rfl : m = Z := by omega
          have hmZ : ¬ (m : Int) < (m : Int) := by omega
          go_wp2
          refine ⟨⟨k + 1, by omega, by go_num, HBr.out, HBB.out.congr (fun j hj => ?_)⟩, by simp [intOf]; omega⟩
          rw [HSN.out j]
          congr 2
          · apply decide_eq_decide.2; omega
          · apply decide_eq_decide.2; omega
    · obtain rfl : k = len := by omega
      have hkz : ¬ (k : Int) < (k : Int) := by omega
      have HTT : Hid (l.take k = l) := List.take_of_length_le (by rw [← HL.out]; omega)
      rw [HTT.out] at HBB
      go_wp2
      go_ret
      exact ⟨g, rfl, by rw [HG.out]; exact Nat.le_refl _, HBB.out, HBr.out⟩

/-- The blocks of an extent are so. -/
def turnP (p : Nat → Bool) (e0 e1 : Int) (v : Bool) : Nat → Bool := fun j => if e0 ≤ (j : Int) ∧ (j : Int) < e0 + e1 then v else p j
set_option maxHeartbeats 6400000 in
set_option maxRecDepth 100000 in
theorem turn_ref (g n : Nat) (p : Nat → Bool) (e0 e1 : Int) (v : Bool) (w : World) (hb : Bb w g n p) (h0 : 0 ≤ e0) (h1 : 1 ≤ e1) (h2 : e0 + e1 ≤ (n : Int)) (hn : n ≤ 4096) :
    Calls Try.prog 38 #[.slice (some ⟨g, 0, none⟩) n n, .agg #[.int .i64 e0, .int .i64 e1], .bool v] w fun e w' => e = .returned (.slice (some ⟨g, 0, none⟩) n n) ∧ Bb w' g n (turnP p e0 e1 v) ∧ But1 g w w' := by
  have HB := hid (But1.of_below (g := g) (bel_alloc w (.cells #[.int .i64 e0, .int .i64 e1] 24)))
  have HXE : Hid (Xb (w.alloc (.cells #[.int .i64 e0, .int .i64 e1] 24)) w.heap.size (e0, e1)) := heap_new w _
  have HBB := hid (hb.below (bel_alloc w (.cells #[.int .i64 e0, .int .i64 e1] 24)))
  have hgw := hb.lt
  obtain ⟨Y, hY⟩ : ∃ Y : Nat, e0 = (Y : Int) := ⟨e0.toNat, by omega⟩
  obtain ⟨Z, hZ⟩ : ∃ Z : Nat, e1 = (Z : Int) := ⟨e1.toNat, by omega⟩
  subst hY hZ
  have hYZ : Y + Z ≤ n := by omega
  clear hb
  go_enter Try.func38, Try.ntmps38
  go_wp2
  generalize w.alloc (.cells #[.int .i64 (Y : Int), .int .i64 (Z : Int)] 24) = W1 at *
  obtain ⟨s, hs⟩ : ∃ s, s = w.heap.size := ⟨_, rfl⟩
  have HHS := hid hs
  rw [← hs] at HXE hgw ⊢
  clear hs
  go_loopw [7] (fun x7 wr => ∃ m : Nat, m ≤ Z ∧ x7 = .int .i64 (m : Int) ∧ Hid (But1 g w wr) ∧ Hid (Xb wr s ((Y : Int), (Z : Int))) ∧ Hid (Bb wr g n (turnP p (Y : Int) (m : Int) v))) (fun x7 _ => Z - (intOf x7).toNat)
  case atStart => exact ⟨0, by omega, rfl, HB.out, HXE.out, HBB.out.congr (fun j hj => by unfold turnP; rw [if_neg (by omega)])⟩
  case round =>
    clear HB HXE HBB
    obtain ⟨m, hm, rfl, HBr, HXr, HBB⟩ := hrel
    obtain ⟨d0, d1⟩ := HXr.out.cells
    dsimp only at d0 d1
    by_cases hmz : m < Z
    · have hmZ : (m : Int) < (Z : Int) := by omega
      obtain ⟨q, hq⟩ : ∃ q, q = Y + m := ⟨_, rfl⟩
      have HQ := hid hq
      have hqz : (Y : Int) + (m : Int) = (q : Int) := by omega
      have hqn : (q : Int) < (n : Int) := by omega
      have hq0 : (0 : Int) ≤ (q : Int) := by omega
      have e0' := HBB.out.cell (j := q) (by omega)
      have f0 := HBB.out.frozen q
      have HS := hid (HBB.out.set q v)
      have HBS := hid (HBr.out.trans (But1.set g q wr (.bool v)))
      have HXS := hid (HXr.out.other (i := q) (show s ≠ g by omega) (.bool v))
      clear hq
      go_wp2
      refine ⟨⟨m + 1, by omega, by go_num, HBS.out, HXS.out, HS.out.congr (fun j hj => ?_)⟩, by simp [intOf]; omega⟩
      have hq := HQ.out
      unfold turnP
      by_cases ej : j = q
      · rw [if_pos ej, if_pos (by omega)]
      · rw [if_neg ej]
        by_cases ek : (Y : Int) ≤ (j : Int) ∧ (j : Int) < (Y : Int) + (m : Int)
        · rw [if_pos ek, if_pos (by omega)]
        · rw [if_neg ek, if_neg (by omega)]
    · obtain rfl : m = Z := by omega
      have hmZ : ¬ (m : Int) < (m : Int) := by omega
      go_wp2
      go_ret
      exact ⟨rfl, HBB.out, HBr.out⟩
end Go.Proofs.Ytkfoeijhhfaceaa
