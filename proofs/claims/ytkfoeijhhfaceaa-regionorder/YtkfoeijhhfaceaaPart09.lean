/-
  The contracts of region's Has, checkBoth, Claim, Give, Other and All.
-/
import Derived.Test.YtkfoeijhhfaceaaPart06
import Derived.Test.YtkfoeijhhfaceaaPart07
import Derived.Test.YtkfoeijhhfaceaaPart08
namespace Go.Proofs.Ytkfoeijhhfaceaa
open Go.RowKit Go.Shelf
attribute [local go_sem] Oper.semAt_some

def hasO (l : List Ext) (e : Ext) : Bool := decide (chkO 4096 l = 0) && lieB 4096 e && hldB l e
def bothO (b : Int) (l : List Ext) (e : Ext) : Int := if chkO b l ≠ 0 then chkO b l else if lieB b e = true then 0 else 100
def claimO (b : Int) (l : List Ext) (e : Ext) : List Ext × Int := if bothO b l e ≠ 0 then ([], bothO b l e) else if hldB l e = true then (wout l e, 0) else ([], 102)
def giveO (b : Int) (l : List Ext) (e : Ext) : List Ext × Int := if bothO b l e ≠ 0 then ([], bothO b l e) else if metB l e = true then ([], 102) else (withL l e, 0)
def otherO (b : Int) (l : List Ext) : List Ext × Int := if chkO b l ≠ 0 then ([], chkO b l) else (btw b l, 0)
/-- A row and an error are handed back. -/
def RwPost (o : List Ext × Int) (w : World) (e : Ending) (w' : World) : Prop := ∃ v, e = .returned (.tuple #[v, .int .i64 o.2]) ∧ w'.ownsRow w.heap.size 24 2 v o.1.length (o.1.flatMap extC) ∧ Below w.heap.size w w'
theorem both_ok {b : Int} {l : List Ext} {e : Ext} (h : bothO b l e = 0) : Row b l ∧ 0 ≤ e.1 ∧ 1 ≤ e.2 ∧ e.1 + e.2 ≤ b := by
  unfold bothO at h
  by_cases h1 : chkO b l ≠ 0
  · rw [if_pos h1] at h; exact absurd h h1
  · rw [if_neg h1] at h
    by_cases h2 : lieB b e = true
    · exact ⟨chk_row (Decidable.not_not.1 h1), (lieB_iff b e).1 h2⟩
    · rw [if_neg h2] at h; omega
set_option maxHeartbeats 6400000 in
set_option maxRecDepth 100000 in
theorem both_word (b : Int) (a : Option Addr) (cap : Nat) (l : List Ext) (e0 e1 : Int) (w : World) (hr : Rx w a cap l) (he : (Lit.int .i64 e0).wf = true) :
    Calls Try.prog 36 #[.int .i64 b, .slice a l.length cap, .agg #[.int .i64 e0, .int .i64 e1]] w fun e w' => e = .returned (.int .i64 (bothO b l (e0, e1))) ∧ Below w.heap.size w w' := by
  have hB := bel_alloc w (.cells #[.int .i64 e0, .int .i64 e1] 24)
  have HXE : Hid (Xb (w.alloc (.cells #[.int .i64 e0, .int .i64 e1] 24)) w.heap.size (e0, e1)) := heap_new w _
  have HC := hid (check_any b a cap l (w.alloc (.cells #[.int .i64 e0, .int .i64 e1] 24)) (hr.later hB))
  have HB := hid hB
  unfold bothO
  clear hB hr
  by_cases h0 : chkO b l = 0
  · have hrow := chk_row h0
    have HL : Hid (∀ W, Calls Try.prog 31 #[.int .i64 b, .agg #[.int .i64 e0, .int .i64 e1]] W fun e w' => e = .returned (.bool (lieB b (e0, e1))) ∧ Below W.heap.size W w') := fun W => lies_word b (e0, e1) W hrow.lo hrow.hi he
    rw [h0] at HC ⊢
    rw [if_neg (by simp)]
    clear h0 hrow he
    generalize l.length = n at *
    by_cases hl : lieB b (e0, e1) = true
    · rw [if_pos hl]
      rw [hl] at HL
      go_enter Try.func36, Try.ntmps36
      go_wp2_with fail
      refine HC.out.mono ?_
      rintro _ w1 ⟨rfl, hb1⟩
      obtain ⟨c0, c1⟩ := (HXE.out.later hb1).cells
      have HB1 := hid (Bn HB.out hb1)
      have HL1 := hid (HL.out w1)
      dsimp only at c0 c1
      clear hb1 HC HXE HB HL
      go_wp2_with fail
      refine HL1.out.mono ?_
      rintro _ w2 ⟨rfl, hb2⟩
      have HB2 := hid (Bn HB1.out hb2)
      clear hb2 HB1 HL1 c0 c1
      go_wp2
      go_ret
      exact ⟨rfl, HB2.out⟩
    · rw [if_neg hl]
      rw [show lieB b (e0, e1) = false from by simpa using hl] at HL
      go_enter Try.func36, Try.ntmps36
      go_wp2_with fail
      refine HC.out.mono ?_
      rintro _ w1 ⟨rfl, hb1⟩
      obtain ⟨c0, c1⟩ := (HXE.out.later hb1).cells
      have HB1 := hid (Bn HB.out hb1)
      have HL1 := hid (HL.out w1)
      dsimp only at c0 c1
      clear hb1 HC HXE HB HL
      go_wp2_with fail
      refine HL1.out.mono ?_
      rintro _ w2 ⟨rfl, hb2⟩
      have HB2 := hid (Bn HB1.out hb2)
      clear hb2 HB1 HL1 c0 c1
      go_wp2
      go_ret
      exact ⟨rfl, HB2.out⟩
  · rw [if_pos h0]
    generalize chkO b l = c at *
    have hd : decide (c = 0) = false := decide_eq_false h0
    generalize l.length = n at *
    clear HXE he
    go_enter Try.func36, Try.ntmps36
    go_wp2_with fail
    refine HC.out.mono ?_
    rintro _ w1 ⟨rfl, hb1⟩
    have HB1 := hid (Bn HB.out hb1)
    clear hb1 HC HB
    go_wp2
    go_ret
    exact ⟨rfl, HB1.out⟩

set_option maxHeartbeats 6400000 in
set_option maxRecDepth 100000 in
theorem has_word (a : Option Addr) (cap : Nat) (l : List Ext) (e0 e1 : Int) (w : World) (hr : Rx w a cap l) (he : (Lit.int .i64 e0).wf = true) :
    Calls Try.prog 17 #[.slice a l.length cap, .agg #[.int .i64 e0, .int .i64 e1]] w fun e w' => e = .returned (.bool (hasO l (e0, e1))) ∧ Below w.heap.size w w' := by
  have hB := bel_alloc w (.cells #[.int .i64 e0, .int .i64 e1] 24)
  have HXE : Hid (Xb (w.alloc (.cells #[.int .i64 e0, .int .i64 e1] 24)) w.heap.size (e0, e1)) := heap_new w _
  have HC := hid (check_any 4096 a cap l (w.alloc (.cells #[.int .i64 e0, .int .i64 e1] 24)) (hr.later hB))
  have HB := hid hB
  have HR := hid hr
  have HL : Hid (∀ W, Calls Try.prog 31 #[.int .i64 4096, .agg #[.int .i64 e0, .int .i64 e1]] W fun e w' => e = .returned (.bool (lieB 4096 (e0, e1))) ∧ Below W.heap.size W w') := fun W => lies_word 4096 (e0, e1) W (by omega) (by omega) he
  unfold hasO
  clear hB hr he
  by_cases h0 : chkO 4096 l = 0
  · have HRW := hid (chk_row h0)
    rw [h0] at HC ⊢
    clear h0
    by_cases hl : lieB 4096 (e0, e1) = true
    · obtain ⟨k1, k2, k3⟩ := (lieB_iff 4096 (e0, e1)).1 hl
      have HH : Hid (∀ W, Below w.heap.size w W → Calls Try.prog 34 #[.slice a l.length cap, .agg #[.int .i64 e0, .int .i64 e1]] W fun e w' => e = .returned (.bool (hldB l (e0, e1))) ∧ Below W.heap.size W w') := fun W hW => holds_word e0 e1 a cap l W (HR.out.later hW) HRW.out k1 k2 k3
      rw [hl] at HL ⊢
      clear k1 k2 k3 hl HR HRW
      generalize hldB l (e0, e1) = o at *
      generalize l.length = n at *
      go_enter Try.func17, Try.ntmps17
      go_wp2_with fail
      refine HC.out.mono ?_
      rintro _ w1 ⟨rfl, hb1⟩
      have HX1 := hid (HXE.out.later hb1)
      obtain ⟨c0, c1⟩ := HX1.out.cells
      have HB1 := hid (Bn HB.out hb1)
      have HL1 := hid (HL.out w1)
      dsimp only at c0 c1
      clear hb1 HC HXE HB HL
      go_wp2_with fail
      refine HL1.out.mono ?_
      rintro _ w2 ⟨rfl, hb2⟩
      have HX2 := hid (HX1.out.later hb2)
      obtain ⟨d0, d1⟩ := HX2.out.cells
      have HB2 := hid (Bn HB1.out hb2)
      dsimp only at d0 d1
      clear hb2 HB1 HL1 c0 c1 HX1
      have HH2 := hid (HH.out w2 HB2.out)
      go_wp2_with fail
      refine HH2.out.mono ?_
      rintro _ w3 ⟨rfl, hb3⟩
      have HB3 := hid (Bn HB2.out hb3)
      clear hb3 HH HB2 HH2
      go_wp2
      go_ret
      exact ⟨by simp, HB3.out⟩
    · rw [show lieB 4096 (e0, e1) = false from by simpa using hl] at HL ⊢
      clear HR HRW
      generalize hldB l (e0, e1) = o at *
      generalize l.length = n at *
      go_enter Try.func17, Try.ntmps17
      go_wp2_with fail
      refine HC.out.mono ?_
      rintro _ w1 ⟨rfl, hb1⟩
      have HX1 := hid (HXE.out.later hb1)
      obtain ⟨c0, c1⟩ := HX1.out.cells
      have HB1 := hid (Bn HB.out hb1)
      have HL1 := hid (HL.out w1)
      dsimp only at c0 c1
      clear hb1 HC HXE HB HL
      go_wp2_with fail
      refine HL1.out.mono ?_
      rintro _ w2 ⟨rfl, hb2⟩
      have HX2 := hid (HX1.out.later hb2)
      obtain ⟨d0, d1⟩ := HX2.out.cells
      have HB2 := hid (Bn HB1.out hb2)
      dsimp only at d0 d1
      clear hb2 HB1 HL1 c0 c1 HX1
      go_wp2
      go_ret
      exact ⟨by simp, HB2.out⟩
  · have hd : decide (chkO 4096 l = 0) = false := decide_eq_false h0
    rw [hd]
    clear HXE HR
    generalize chkO 4096 l = c at *
    generalize hldB l (e0, e1) = o at *
    generalize l.length = n at *
    clear HL
    generalize lieB 4096 (e0, e1) = o2 at *
    go_enter Try.func17, Try.ntmps17
    go_wp2_with fail
    refine HC.out.mono ?_
    rintro _ w1 ⟨rfl, hb1⟩
    have HB1 := hid (Bn HB.out hb1)
    clear hb1 HC HB
    go_wp2
    go_ret
    exact ⟨by simp, HB1.out⟩

set_option maxHeartbeats 6400000 in
set_option maxRecDepth 100000 in
theorem claim_word (b : Int) (a : Option Addr) (cap : Nat) (l : List Ext) (e0 e1 : Int) (w : World) (hr : Rx w a cap l) (he : (Lit.int .i64 e0).wf = true) :
    Calls Try.prog 24 #[.int .i64 b, .slice a l.length cap, .agg #[.int .i64 e0, .int .i64 e1]] w (RwPost (claimO b l (e0, e1)) w) := by
  have hB := bel_alloc w (.cells #[.int .i64 e0, .int .i64 e1] 24)
  have HXE : Hid (Xb (w.alloc (.cells #[.int .i64 e0, .int .i64 e1] 24)) w.heap.size (e0, e1)) := heap_new w _
  have HC := hid (both_word b a cap l e0 e1 (w.alloc (.cells #[.int .i64 e0, .int .i64 e1] 24)) (hr.later hB) he)
  have HB := hid hB
  have HR := hid hr
  unfold RwPost claimO
  clear hB hr he
  obtain ⟨c, hc⟩ : ∃ c, c = bothO b l (e0, e1) := ⟨_, rfl⟩
  rw [← hc] at HC ⊢
  by_cases h0 : c = 0
  · subst h0
    obtain ⟨hrow, k1, k2, k3⟩ := both_ok hc.symm
    have HRW := hid hrow
    have hhi := hrow.hi
    dsimp only at k1 k2 k3
    have HT : Hid (∀ W, Below w.heap.size w W → Calls Try.prog 34 #[.slice a l.length cap, .agg #[.int .i64 e0, .int .i64 e1]] W fun e w' => e = .returned (.bool (hldB l (e0, e1))) ∧ Below W.heap.size W w') := fun W hW => holds_word e0 e1 a cap l W (HR.out.later hW) (row_wide HRW.out) k1 k2 (by omega)
    have HM : Hid (∀ W, Below w.heap.size w W → Calls Try.prog 35 #[.slice a l.length cap, .agg #[.int .i64 e0, .int .i64 e1]] W (RowPost (wout l (e0, e1)) W)) := fun W hW => without_word e0 e1 a cap l W (HR.out.later hW) (row_wide HRW.out) k1 k2 (by omega)
    unfold RowPost at HM
    rw [if_neg (by simp)]
    clear hc hrow HRW HR k1 k2 k3 hhi
    generalize l.length = n at *
    by_cases ht : hldB l (e0, e1) = true
    · rw [if_pos ht]
      rw [ht] at HT
      clear ht
      go_enter Try.func24, Try.ntmps24
      go_wp2_with fail
      refine HC.out.mono ?_
      rintro _ w1 ⟨rfl, hb1⟩
      have HX1 := hid (HXE.out.later hb1)
      obtain ⟨c0, c1⟩ := HX1.out.cells
      have HB1 := hid (Bn HB.out hb1)
      have HT1 := hid (HT.out w1 HB1.out)
      dsimp only at c0 c1
      clear hb1 HC HXE HB HT
      go_wp2_with fail
      refine HT1.out.mono ?_
      rintro _ w2 ⟨rfl, hb2⟩
      obtain ⟨d0, d1⟩ := (HX1.out.later hb2).cells
      have HB2 := hid (Bn HB1.out hb2)
      have HM2 := hid (HM.out w2 HB2.out)
      dsimp only at d0 d1
      clear hb2 HB1 HT1 HX1 c0 c1 HM
      go_wp2_with fail
      refine HM2.out.mono ?_
      rintro _ w3 ⟨v, rfl, hown, hb3⟩
      have HB3 := hid (Bn HB2.out hb3)
      have HO := hid (own_base hown HB2.out.size)
      clear hb3 hown HM2
      go_wp2
      go_ret2
      exact ⟨v, rfl, HO.out, HB3.out⟩
    · rw [if_neg ht]
      rw [show hldB l (e0, e1) = false from by simpa using ht] at HT
      clear ht
      go_enter Try.func24, Try.ntmps24
      go_wp2_with fail
      refine HC.out.mono ?_
      rintro _ w1 ⟨rfl, hb1⟩
      have HX1 := hid (HXE.out.later hb1)
      obtain ⟨c0, c1⟩ := HX1.out.cells
      have HB1 := hid (Bn HB.out hb1)
      have HT1 := hid (HT.out w1 HB1.out)
      dsimp only at c0 c1
      clear hb1 HC HXE HB HT
      go_wp2_with fail
      refine HT1.out.mono ?_
      rintro _ w2 ⟨rfl, hb2⟩
      obtain ⟨d0, d1⟩ := (HX1.out.later hb2).cells
      have HB2 := hid (Bn HB1.out hb2)
      have HM2 := hid (HM.out w2 HB2.out)
      dsimp only at d0 d1
      clear hb2 HB1 HT1 HX1 c0 c1 HM
      go_wp2
      go_ret2
      exact ⟨_, rfl, ⟨rfl, .inl ⟨rfl, rfl⟩⟩, HB2.out⟩
  · rw [if_pos h0]
    have hd : decide (c = 0) = false := decide_eq_false h0
    clear hc HXE HR
    generalize l.length = n at *
    go_enter Try.func24, Try.ntmps24
    go_wp2_with fail
    refine HC.out.mono ?_
    rintro _ w1 ⟨rfl, hb1⟩
    have HB1 := hid (Bn HB.out hb1)
    clear hb1 HC HB
    go_wp2
    go_ret2
    exact ⟨_, rfl, ⟨rfl, .inl ⟨rfl, rfl⟩⟩, HB1.out⟩

set_option maxHeartbeats 6400000 in
set_option maxRecDepth 100000 in
theorem give_word (b : Int) (a : Option Addr) (cap : Nat) (l : List Ext) (e0 e1 : Int) (w : World) (hr : Rx w a cap l) (he : (Lit.int .i64 e0).wf = true) :
    Calls Try.prog 26 #[.int .i64 b, .slice a l.length cap, .agg #[.int .i64 e0, .int .i64 e1]] w (RwPost (giveO b l (e0, e1)) w) := by
  have hB := bel_alloc w (.cells #[.int .i64 e0, .int .i64 e1] 24)
  have HXE : Hid (Xb (w.alloc (.cells #[.int .i64 e0, .int .i64 e1] 24)) w.heap.size (e0, e1)) := heap_new w _
  have HC := hid (both_word b a cap l e0 e1 (w.alloc (.cells #[.int .i64 e0, .int .i64 e1] 24)) (hr.later hB) he)
  have HB := hid hB
  have HR := hid hr
  unfold RwPost giveO
  clear hB hr he
  obtain ⟨c, hc⟩ : ∃ c, c = bothO b l (e0, e1) := ⟨_, rfl⟩
  rw [← hc] at HC ⊢
  by_cases h0 : c = 0
  · subst h0
    obtain ⟨hrow, k1, k2, k3⟩ := both_ok hc.symm
    have HRW := hid hrow
    have hhi := hrow.hi
    dsimp only at k1 k2 k3
    have HT : Hid (∀ W, Below w.heap.size w W → Calls Try.prog 40 #[.slice a l.length cap, .agg #[.int .i64 e0, .int .i64 e1]] W fun e w' => e = .returned (.bool (metB l (e0, e1))) ∧ Below W.heap.size W w') := fun W hW => meets_word e0 e1 a cap l W (HR.out.later hW) (row_wide HRW.out) k1 k2 (by omega)
    have HM : Hid (∀ W, Below w.heap.size w W → Calls Try.prog 41 #[.slice a l.length cap, .agg #[.int .i64 e0, .int .i64 e1]] W (RowPost (withL l (e0, e1)) W)) := fun W hW => with_word e0 e1 a cap l W (HR.out.later hW) (row_wide HRW.out) k1 k2 (by omega)
    unfold RowPost at HM
    rw [if_neg (by simp)]
    clear hc hrow HRW HR k1 k2 k3 hhi
    generalize l.length = n at *
    by_cases ht : metB l (e0, e1) = true
    · rw [if_pos ht]
      rw [ht] at HT
      clear ht
      go_enter Try.func26, Try.ntmps26
      go_wp2_with fail
      refine HC.out.mono ?_
      rintro _ w1 ⟨rfl, hb1⟩
      have HX1 := hid (HXE.out.later hb1)
      obtain ⟨c0, c1⟩ := HX1.out.cells
      have HB1 := hid (Bn HB.out hb1)
      have HT1 := hid (HT.out w1 HB1.out)
      dsimp only at c0 c1
      clear hb1 HC HXE HB HT
      go_wp2_with fail
      refine HT1.out.mono ?_
      rintro _ w2 ⟨rfl, hb2⟩
      obtain ⟨d0, d1⟩ := (HX1.out.later hb2).cells
      have HB2 := hid (Bn HB1.out hb2)
      have HM2 := hid (HM.out w2 HB2.out)
      dsimp only at d0 d1
      clear hb2 HB1 HT1 HX1 c0 c1 HM
      go_wp2
      go_ret2
      exact ⟨_, rfl, ⟨rfl, .inl ⟨rfl, rfl⟩⟩, HB2.out⟩
    · rw [if_neg ht]
      rw [show metB l (e0, e1) = false from by simpa using ht] at HT
      clear ht
      go_enter Try.func26, Try.ntmps26
      go_wp2_with fail
      refine HC.out.mono ?_
      rintro _ w1 ⟨rfl, hb1⟩
      have HX1 := hid (HXE.out.later hb1)
      obtain ⟨c0, c1⟩ := HX1.out.cells
      have HB1 := hid (Bn HB.out hb1)
      have HT1 := hid (HT.out w1 HB1.out)
      dsimp only at c0 c1
      clear hb1 HC HXE HB HT
      go_wp2_with fail
      refine HT1.out.mono ?_
      rintro _ w2 ⟨rfl, hb2⟩
      obtain ⟨d0, d1⟩ := (HX1.out.later hb2).cells
      have HB2 := hid (Bn HB1.out hb2)
      have HM2 := hid (HM.out w2 HB2.out)
      dsimp only at d0 d1
      clear hb2 HB1 HT1 HX1 c0 c1 HM
      go_wp2_with fail
      refine HM2.out.mono ?_
      rintro _ w3 ⟨v, rfl, hown, hb3⟩
      have HB3 := hid (Bn HB2.out hb3)
      have HO := hid (own_base hown HB2.out.size)
      clear hb3 hown HM2
      go_wp2
      go_ret2
      exact ⟨v, rfl, HO.out, HB3.out⟩
  · rw [if_pos h0]
    have hd : decide (c = 0) = false := decide_eq_false h0
    clear hc HXE HR
    generalize l.length = n at *
    go_enter Try.func26, Try.ntmps26
    go_wp2_with fail
    refine HC.out.mono ?_
    rintro _ w1 ⟨rfl, hb1⟩
    have HB1 := hid (Bn HB.out hb1)
    clear hb1 HC HB
    go_wp2
    go_ret2
    exact ⟨_, rfl, ⟨rfl, .inl ⟨rfl, rfl⟩⟩, HB1.out⟩

set_option maxHeartbeats 6400000 in
set_option maxRecDepth 100000 in
theorem other_word (b : Int) (a : Option Addr) (cap : Nat) (l : List Ext) (w : World) (hr : Rx w a cap l) :
    Calls Try.prog 28 #[.int .i64 b, .slice a l.length cap] w (RwPost (otherO b l) w) := by
  have HC := hid (check_any b a cap l w hr)
  have HR := hid hr
  unfold RwPost otherO
  clear hr
  by_cases h0 : chkO b l = 0
  · have HM : Hid (∀ W, Below w.heap.size w W → Calls Try.prog 42 #[.int .i64 b, .slice a l.length cap] W (RowPost (btw b l) W)) := fun W hW => between_word b a cap l W (HR.out.later hW) (chk_row h0)
    unfold RowPost at HM
    rw [h0] at HC ⊢
    rw [if_neg (by simp)]
    clear h0 HR
    generalize l.length = n at *
    go_enter Try.func28, Try.ntmps28
    go_wp2_with fail
    refine HC.out.mono ?_
    rintro _ w1 ⟨rfl, hb1⟩
    have HB1 := hid hb1
    have HM1 := hid (HM.out w1 hb1)
    clear hb1 HC HM
    go_wp2_with fail
    refine HM1.out.mono ?_
    rintro _ w2 ⟨v, rfl, hown, hb2⟩
    have HB2 := hid (Bn HB1.out hb2)
    have HO := hid (own_base hown HB1.out.size)
    clear hb2 hown HM1
    go_wp2
    go_ret2
    exact ⟨v, rfl, HO.out, HB2.out⟩
  · rw [if_pos h0]
    generalize chkO b l = c at *
    have hd : decide (c = 0) = false := decide_eq_false h0
    generalize l.length = n at *
    clear HR
    go_enter Try.func28, Try.ntmps28
    go_wp2_with fail
    refine HC.out.mono ?_
    rintro _ w1 ⟨rfl, hb1⟩
    have HB1 := hid hb1
    clear hb1 HC
    go_wp2
    go_ret2
    exact ⟨_, rfl, ⟨rfl, .inl ⟨rfl, rfl⟩⟩, HB1.out⟩
theorem rx_nil (w : World) : Rx w none 0 [] := ⟨Nat.le_refl _, by unfold maxLen; omega, fun _ => rfl, fun h => by simp at h, fun j hj => by simp at hj⟩
set_option maxHeartbeats 6400000 in
set_option maxRecDepth 100000 in
theorem all_word (b : Int) (w : World) : Calls Try.prog 10 #[.int .i64 b] w (RwPost (otherO b []) w) := by
  have HC := hid (other_word b none 0 [] w (rx_nil w))
  unfold RwPost at *
  generalize otherO b [] = o at *
  go_enter Try.func10, Try.ntmps10
  go_wp2_with fail
  refine HC.out.mono ?_
  rintro _ w1 ⟨v, rfl, hown, hb1⟩
  have HB1 := hid hb1
  have HO := hid hown
  clear hb1 hown HC
  go_wp2
  go_ret2
  exact ⟨v, rfl, HO.out, HB1.out⟩
end Go.Proofs.Ytkfoeijhhfaceaa
