/-
  RollAlike is proved for every input: behind a place where a chunk begins in two rows that go on alike the chunks are alike; no condition.
-/
import Derived.Test.YtcapkkldjgmhfaaPart03
import Derived.Test.YtcapkkldjgmhfaaPart07
namespace Go.Proofs.Ytcapkkldjgmhfaa.rollAlike
open Go.ChangeShapes Go.WideShapes Go.ChangeAt Go.RowKit

theorem own : ownKnob Try.prog.godebug = none := by kernel_rfl

set_option maxHeartbeats 6400000 in
set_option maxRecDepth 100000 in
theorem walk (l m b : Int) (a1 : Option Addr) (cap1 : Nat) (zs1 : List Int) (a2 : Option Addr) (cap2 : Nat) (zs2 : List Int) (a3 : Option Addr) (cap3 : Nat) (zs3 : List Int) (w : World) (hr1 : Ri w .u8 a1 cap1 zs1) (hr2 : Ri w .u8 a2 cap2 zs2) (hr3 : Ri w .u8 a3 cap3 zs3) :
    Calls Try.prog 8 #[.agg #[.int .i64 l, .int .i64 m, .int .i64 b], .slice a1 zs1.length cap1, .slice a2 zs2.length cap2, .slice a3 zs3.length cap3] w fun e w' => e = .returned (.bool true) ∧ Below w.heap.size w w' := by
  have C1 : Hid (∀ W, Below w.heap.size w W → Calls Try.prog 9 #[.slice a1 zs1.length cap1] W fun e w' => e = .returned (.slice a1 (zs1.take 8192).length cap1) ∧ w' = W) := fun W hW => cut_any a1 cap1 zs1 W (hr1.later hW)
  have r1 := hr1.take 8192
  have l1 : (zs1.take 8192).length ≤ 8192 := List.length_take_le _ _
  clear hr1
  generalize zs1.take 8192 = X1 at *
  generalize zs1.length = n1 at *
  have HL1 : Hid (X1.length ≤ 1048576) := by show _ ≤ _; omega
  have HF1 : Hid (∀ z ∈ X1, 0 ≤ z ∧ z ≤ 255) := fits_mem.1 (fun j => wf_u8 (r1.fits j))
  have HR1 := hid r1
  clear r1 l1
  have C2 : Hid (∀ W, Below w.heap.size w W → Calls Try.prog 9 #[.slice a2 zs2.length cap2] W fun e w' => e = .returned (.slice a2 (zs2.take 8192).length cap2) ∧ w' = W) := fun W hW => cut_any a2 cap2 zs2 W (hr2.later hW)
  have r2 := hr2.take 8192
  have l2 : (zs2.take 8192).length ≤ 8192 := List.length_take_le _ _
  clear hr2
  generalize zs2.take 8192 = X2 at *
  generalize zs2.length = n2 at *
  have HL2 : Hid (X2.length ≤ 1048576) := by show _ ≤ _; omega
  have HF2 : Hid (∀ z ∈ X2, 0 ≤ z ∧ z ≤ 255) := fits_mem.1 (fun j => wf_u8 (r2.fits j))
  have HR2 := hid r2
  clear r2 l2
  have C3 : Hid (∀ W, Below w.heap.size w W → Calls Try.prog 9 #[.slice a3 zs3.length cap3] W fun e w' => e = .returned (.slice a3 (zs3.take 8192).length cap3) ∧ w' = W) := fun W hW => cut_any a3 cap3 zs3 W (hr3.later hW)
  have r3 := hr3.take 8192
  have l3 : (zs3.take 8192).length ≤ 8192 := List.length_take_le _ _
  clear hr3
  generalize zs3.take 8192 = X3 at *
  generalize zs3.length = n3 at *
  have HL3 : Hid (X3.length ≤ 1048576) := by show _ ≤ _; omega
  have HF3 : Hid (∀ z ∈ X3, 0 ≤ z ∧ z ≤ 255) := fits_mem.1 (fun j => wf_u8 (r3.fits j))
  have HR3 := hid r3
  clear r3 l3
  have HE0 := hid (heap_new w (.cells #[.int .i64 l, .int .i64 m, .int .i64 b] 23))
  have HB0 := hid (bel_alloc w (.cells #[.int .i64 l, .int .i64 m, .int .i64 b] 23))
  have HCR := hid (fun W => check_ref l m b W)
  go_enter Try.func8, Try.ntmps8
  go_wp2_with fail
  refine (awake_any _).mono ?_
  rintro _ w1 ⟨rfl, hb1⟩
  have HB1 := hid (Bn HB0.out hb1)
  have HE1 := hid ((hb1.block w.heap.size (Array.getElem?_eq_some_iff.1 HE0.out).1).trans HE0.out)
  clear hb1 HE0 HB0
  have cb0 := Joins.cell_of_block HE1.out 0
  have cb1 := Joins.cell_of_block HE1.out 1
  have cb2 := Joins.cell_of_block HE1.out 2
  simp only [List.getElem?_toArray, List.getElem?_cons_zero, List.getElem?_cons_succ] at cb0 cb1 cb2
  go_wp2_with fail
  refine (HCR.out w1).mono ?_
  rintro _ w2 ⟨rfl, hb2⟩
  have HB2 := hid (Bn HB1.out hb2)
  have HE2 := hid ((hb2.block w.heap.size (Array.getElem?_eq_some_iff.1 HE1.out).1).trans HE1.out)
  clear hb2 HE1 HB1 cb0 cb1 cb2 HCR
  by_cases hc : chkC l m b = 0
  case neg =>
    generalize chkC l m b = c at *
    go_wp2_with fail
    go_ret
    exact ⟨rfl, HB2.out⟩
  rw [hc]
  have HC := hid hc
  clear hc
  go_wp2_with fail
  refine (C1.out _ HB2.out).mono ?_
  rintro _ w0 ⟨rfl, hw⟩
  obtain rfl := hw.symm
  clear hw C1
  go_wp2_with fail
  refine (C2.out _ HB2.out).mono ?_
  rintro _ w0 ⟨rfl, hw⟩
  obtain rfl := hw.symm
  clear hw C2
  go_wp2_with fail
  refine (C3.out _ HB2.out).mono ?_
  rintro _ w0 ⟨rfl, hw⟩
  obtain rfl := hw.symm
  clear hw C3
  have cb0 := Joins.cell_of_block HE2.out 0
  have cb1 := Joins.cell_of_block HE2.out 1
  have cb2 := Joins.cell_of_block HE2.out 2
  simp only [List.getElem?_toArray, List.getElem?_cons_zero, List.getElem?_cons_succ] at cb0 cb1 cb2
  go_wp2_with fail
  refine (new_ok l m b w2 HC.out).mono ?_
  rintro _ w3 ⟨g1, hg1, rfl, hk1, hb3⟩
  have HB3 := hid (Bn HB2.out hb3)
  have HE3 := hid ((hb3.block w.heap.size (Array.getElem?_eq_some_iff.1 HE2.out).1).trans HE2.out)
  have HG1 : Hid (w.heap.size ≤ g1) := Nat.le_trans HB2.out.size hg1
  have HK1 := hid hk1
  clear hk1 hb3 hg1 cb0 cb1 cb2 HE2 HB2
  have cb0 := Joins.cell_of_block HE3.out 0
  have cb1 := Joins.cell_of_block HE3.out 1
  have cb2 := Joins.cell_of_block HE3.out 2
  simp only [List.getElem?_toArray, List.getElem?_cons_zero, List.getElem?_cons_succ] at cb0 cb1 cb2
  go_wp2_with fail
  refine (new_ok l m b w3 HC.out).mono ?_
  rintro _ w4 ⟨g2, hg2, rfl, hk2, hb4⟩
  have HB := hid (Bn HB3.out hb4)
  have HG2 : Hid (w.heap.size ≤ g2) := Nat.le_trans HB3.out.size hg2
  have HNE : Hid (g1 ≠ g2) := by show _ ≠ _; have := HK1.out.lt; omega
  replace HK1 := hid (HK1.out.later (hb4.block g1 HK1.out.lt))
  have HK2 := hid hk2
  clear hk2 hb4 hg2 cb0 cb1 cb2 HE3 HB3
  obtain ⟨k1, k2, k3, k4, k5⟩ := chkC_ok HC.out
  have HM0 : Hid (0 < m) := by show _ < _; omega
  clear k1 k2 k3 k4 k5
  go_wp2_with fail
  refine (write_ok g1 l m b 0 0 z4 a1 cap1 X1 w4 HC.out HK1.out (HR1.out.later HB.out) (fun b' off h0 e => by obtain ⟨b9, o9, e9, hb9, _⟩ := HR1.out.cells h0; rw [e9] at e; cases e; have := HG1.out; omega) (Wg.zero HM0.out z4_len z4_fits).s0 (Wg.zero HM0.out z4_len z4_fits).s1 (Wg.zero HM0.out z4_len z4_fits).h0 (Wg.zero HM0.out z4_len z4_fits).h1 HL1.out).mono ?_
  rintro _ w5 ⟨v1, rfl, hch, hcu, hbt⟩
  have HWA := hid (wr_good (bs := X1) HC.out HF1.out (Wg.zero HM0.out z4_len z4_fits))
  have HNA := hid (Nat.le_trans (wr_len l m b 0 0 z4 X1) HL1.out)
  obtain ⟨A, hA⟩ : ∃ S, S = wrO l m b 0 0 z4 X1 := ⟨_, rfl⟩
  rw [← hA] at hch hcu HWA HNA 
  obtain ⟨RA, sA, hA', LA⟩ := A
  dsimp only at hch hcu HWA HNA
  obtain ⟨nA, rfl⟩ : ∃ n : Nat, sA = (n : Int) := ⟨sA.toNat, by have := HWA.out.s0; dsimp only at this; omega⟩
  replace HK2 := hid (HK2.out.but hbt (by have := HNE.out; omega))
  replace HB := hid (HB.out.trans (hbt.below HB.out.size HG1.out))
  replace HK1 := hid hcu
  clear hbt hcu
  clear hch hA
  go_wp2_with fail
  refine (write_ok g2 l m b 0 0 z4 a2 cap2 X2 w5 HC.out HK2.out (HR2.out.later HB.out) (fun b' off h0 e => by obtain ⟨b9, o9, e9, hb9, _⟩ := HR2.out.cells h0; rw [e9] at e; cases e; have := HG2.out; omega) (Wg.zero HM0.out z4_len z4_fits).s0 (Wg.zero HM0.out z4_len z4_fits).s1 (Wg.zero HM0.out z4_len z4_fits).h0 (Wg.zero HM0.out z4_len z4_fits).h1 HL2.out).mono ?_
  rintro _ w6 ⟨v2, rfl, hch, hcu, hbt⟩
  have HWB := hid (wr_good (bs := X2) HC.out HF2.out (Wg.zero HM0.out z4_len z4_fits))
  have HNB := hid (Nat.le_trans (wr_len l m b 0 0 z4 X2) HL2.out)
  obtain ⟨B, hB⟩ : ∃ S, S = wrO l m b 0 0 z4 X2 := ⟨_, rfl⟩
  rw [← hB] at hch hcu HWB HNB 
  obtain ⟨RB, sB, hB', LB⟩ := B
  dsimp only at hch hcu HWB HNB
  obtain ⟨nB, rfl⟩ : ∃ n : Nat, sB = (n : Int) := ⟨sB.toNat, by have := HWB.out.s0; dsimp only at this; omega⟩
  replace HK1 := hid (HK1.out.but hbt (by have := HNE.out; omega))
  replace HB := hid (HB.out.trans (hbt.below HB.out.size HG2.out))
  replace HK2 := hid hcu
  clear hbt hcu
  clear hch hB
  have HLE1 : Hid (nA ≤ 4096) := by show _ ≤ _; have h1 := HWA.out.s1; obtain ⟨k1, k2, k3, k4, k5⟩ := chkC_ok HC.out; dsimp only at h1; omega
  have HLE2 : Hid (nB ≤ 4096) := by show _ ≤ _; have h1 := HWB.out.s1; obtain ⟨k1, k2, k3, k4, k5⟩ := chkC_ok HC.out; dsimp only at h1; omega
  go_wp2_with fail
  refine (left_ok g1 l m b nA hA' RA w6 HK1.out HC.out).mono ?_
  rintro _ w7 ⟨rfl, hb7⟩
  replace HK1 := hid (HK1.out.later (hb7.block g1 HK1.out.lt))
  replace HK2 := hid (HK2.out.later (hb7.block g2 HK2.out.lt))
  replace HB := hid (Bn HB.out hb7)
  clear hb7
  by_cases hzA : nA = 0
  · subst hzA
    go_wp2_with fail
    refine (left_ok g2 l m b nB hB' RB w7 HK2.out HC.out).mono ?_
    rintro _ w8 ⟨rfl, hb8⟩
    replace HK1 := hid (HK1.out.later (hb8.block g1 HK1.out.lt))
    replace HK2 := hid (HK2.out.later (hb8.block g2 HK2.out.lt))
    replace HB := hid (Bn HB.out hb8)
    clear hb8
    by_cases hzB : nB = 0
    · subst hzB
      have z1 := HWA.out.hz rfl
      have z2 := HWB.out.hz rfl
      dsimp only at z1 z2
      subst z1 z2
      rw [show ((0 : Nat) : Int) = 0 from rfl] at *
      go_wp2_with fail
      refine (write_ok g1 l m b 0 0 RA a3 cap3 X3 w8 HC.out HK1.out (HR3.out.later HB.out) (fun b' off h0 e => by obtain ⟨b9, o9, e9, hb9, _⟩ := HR3.out.cells h0; rw [e9] at e; cases e; have := HG1.out; omega) (Wg.zero HM0.out HK1.out.len HK1.out.fits).s0 (Wg.zero HM0.out HK1.out.len HK1.out.fits).s1 (Wg.zero HM0.out HK1.out.len HK1.out.fits).h0 (Wg.zero HM0.out HK1.out.len HK1.out.fits).h1 HL3.out).mono ?_
      rintro _ v5 ⟨x1, rfl, hch, hcu, hbt⟩
      have HWX := hid (wr_good (bs := X3) HC.out HF3.out (Wg.zero HM0.out HK1.out.len HK1.out.fits))
      have HNX := hid (Nat.le_trans (wr_len l m b 0 0 RA X3) HL3.out)
      have hqv := wr_same (bs := X3) HC.out HF3.out (Wg.zero HM0.out HK1.out.len HK1.out.fits) (Wg.zero HM0.out HK2.out.len HK2.out.fits) rfl
      obtain ⟨X, hX⟩ : ∃ S, S = wrO l m b 0 0 RA X3 := ⟨_, rfl⟩
      rw [← hX] at hch hcu HWX HNX hqv
      obtain ⟨RX, sX, hX', LX⟩ := X
      dsimp only at hch hcu HWX HNX
      obtain ⟨nX, rfl⟩ : ∃ n : Nat, sX = (n : Int) := ⟨sX.toNat, by have := HWX.out.s0; dsimp only at this; omega⟩
      replace HK2 := hid (HK2.out.but hbt (by have := HNE.out; omega))
      replace HB := hid (HB.out.trans (hbt.below HB.out.size HG1.out))
      replace HK1 := hid hcu
      clear hbt hcu
      have HCX := hid hch
      have HQV := hid hqv
      clear hch hX hqv
      go_wp2_with fail
      refine (write_ok g2 l m b 0 0 RB a3 cap3 X3 v5 HC.out HK2.out (HR3.out.later HB.out) (fun b' off h0 e => by obtain ⟨b9, o9, e9, hb9, _⟩ := HR3.out.cells h0; rw [e9] at e; cases e; have := HG2.out; omega) (Wg.zero HM0.out HK2.out.len HK2.out.fits).s0 (Wg.zero HM0.out HK2.out.len HK2.out.fits).s1 (Wg.zero HM0.out HK2.out.len HK2.out.fits).h0 (Wg.zero HM0.out HK2.out.len HK2.out.fits).h1 HL3.out).mono ?_
      rintro _ v6 ⟨x2, rfl, hch, hcu, hbt⟩
      have HWY := hid (wr_good (bs := X3) HC.out HF3.out (Wg.zero HM0.out HK2.out.len HK2.out.fits))
      have HNY := hid (Nat.le_trans (wr_len l m b 0 0 RB X3) HL3.out)
      have hqv := HQV.out
      obtain ⟨Y, hY⟩ : ∃ S, S = wrO l m b 0 0 RB X3 := ⟨_, rfl⟩
      rw [← hY] at hch hcu HWY HNY hqv
      obtain ⟨RY, sY, hY', LY⟩ := Y
      dsimp only at hch hcu HWY HNY
      obtain ⟨nY, rfl⟩ : ∃ n : Nat, sY = (n : Int) := ⟨sY.toNat, by have := HWY.out.s0; dsimp only at this; omega⟩
      replace HCX := hid (HCX.out.but HK2.out hbt)
      replace HK1 := hid (HK1.out.but hbt (by have := HNE.out; omega))
      replace HB := hid (HB.out.trans (hbt.below HB.out.size HG2.out))
      replace HK2 := hid hcu
      clear hbt hcu
      have HCY := hid hch
      replace HQV := hid hqv
      clear hch hY hqv
      obtain ⟨q1, q2, q3, q4⟩ := HQV.out
      dsimp only at q1 q2 q3 q4
      have q5 : nX = nY := by omega
      subst q5 q3 q2
      have HTK := hid q4
      clear q1 q4 HQV
      have HLX : Hid (nX ≤ 4096) := by show _ ≤ _; have h1 := HWX.out.s1; obtain ⟨k1, k2, k3, k4, k5⟩ := chkC_ok HC.out; dsimp only at h1; omega
      go_wp2_with fail
      refine (close_ok g1 l m b hX' nX RX v6 HK1.out HLX.out HC.out).mono ?_
      rintro _ v7 ⟨p, rfl, hown, hcu, hbt⟩
      replace HCX := hid (HCX.out.but HK1.out hbt)
      replace HCY := hid (HCY.out.but HK1.out hbt)
      replace HK2 := hid (HK2.out.but hbt (by have := HNE.out; omega))
      replace HB := hid (HB.out.trans (hbt.below HB.out.size HG1.out))
      replace HK1 := hid hcu
      clear hbt hcu
      have HP := hid hown
      clear hown
      go_wp2_with fail
      refine (close_ok g2 l m b hX' nX RY v7 HK2.out HLX.out HC.out).mono ?_
      rintro _ v8 ⟨q, rfl, hown, hcu, hbt⟩
      replace HCX := hid (HCX.out.but HK2.out hbt)
      replace HCY := hid (HCY.out.but HK2.out hbt)
      replace HP := hid (own_typ HP.out (fun i cs => But1.typ HK2.out hbt i cs 5 (by decide)))
      replace HK1 := hid (HK1.out.but hbt (by have := HNE.out; omega))
      replace HB := hid (HB.out.trans (hbt.below HB.out.size HG2.out))
      replace HK2 := hid hcu
      clear hbt hcu
      have HQ := hid hown
      clear hown
      obtain ⟨ax, cx, rfl, hcx⟩ := HCX.out.cs HNX.out HWX.out.fL
      obtain ⟨ay, cy, rfl, hcy⟩ := HCY.out.cs HNX.out HWX.out.fL
      have hpl : (RX.take nX).length = nX := by rw [List.length_take, HWX.out.len]; exact Nat.min_eq_left HLX.out
      have htk : RX.take nX = RY.take nX := HTK.out
      have hfp : ∀ j, (Lit.int .u8 ((RX.take nX).getD j 0)).wf = true := fun j => by
        have := (fits_mem (L := RX.take nX)).2 (fun z hz => HWX.out.fR z (List.mem_of_mem_take hz)) j
        exact wf_mk_u8 this.1 this.2
      have hp := HP.out
      have hq := HQ.out
      rw [← htk] at hq
      generalize RX.take nX = zp at *
      rw [← hpl] at hp hq
      obtain ⟨ap, cp, rfl, rp⟩ := Ri.own hp hfp
      obtain ⟨aq, cq, rfl, rq⟩ := Ri.own hq hfp
      have HSM := hid (same_eq ax ay cx cy LX v8 hcx hcy)
      have HRP := hid rp
      have HRQ := hid rq
      clear hcx hcy hpl htk hfp hp hq rp rq HP HQ HTK HCX HCY HK1 HK2
      generalize LX.length = nl at *
      go_wp2_with fail
      refine HSM.out.mono ?_
      rintro _ v9 ⟨rfl, hb9⟩
      have t1 := HRP.out.str v9 hb9
      have t2 := HRQ.out.str v9 hb9
      have HB9 := hid (Bn HB.out hb9)
      clear hb9 HSM HB
      go_wp2_with fail
      go_ret
      exact ⟨rfl, HB9.out⟩
    · have hznB : ¬ (nB : Int) = 0 := by omega
      go_wp2_with fail
      refine (close_ok g1 l m b hA' 0 RA w8 HK1.out HLE1.out HC.out).mono ?_
      rintro _ u8 ⟨p1, rfl, hown, hcu, hbt⟩
      replace HK2 := hid (HK2.out.but hbt (by have := HNE.out; omega))
      replace HB := hid (HB.out.trans (hbt.below HB.out.size HG1.out))
      replace HK1 := hid hcu
      clear hbt hcu
      clear hown
      go_wp2_with fail
      refine (close_ok g2 l m b hB' nB RB u8 HK2.out HLE2.out HC.out).mono ?_
      rintro _ u9 ⟨p2, rfl, hown, hcu, hbt⟩
      replace HK1 := hid (HK1.out.but hbt (by have := HNE.out; omega))
      replace HB := hid (HB.out.trans (hbt.below HB.out.size HG2.out))
      replace HK2 := hid hcu
      clear hbt hcu
      clear hown
      go_wp2_with fail
      refine (write_ok g1 l m b 0 0 RA a3 cap3 X3 u9 HC.out HK1.out (HR3.out.later HB.out) (fun b' off h0 e => by obtain ⟨b9, o9, e9, hb9, _⟩ := HR3.out.cells h0; rw [e9] at e; cases e; have := HG1.out; omega) (Wg.zero HM0.out HK1.out.len HK1.out.fits).s0 (Wg.zero HM0.out HK1.out.len HK1.out.fits).s1 (Wg.zero HM0.out HK1.out.len HK1.out.fits).h0 (Wg.zero HM0.out HK1.out.len HK1.out.fits).h1 HL3.out).mono ?_
      rintro _ v5 ⟨x1, rfl, hch, hcu, hbt⟩
      have HWX := hid (wr_good (bs := X3) HC.out HF3.out (Wg.zero HM0.out HK1.out.len HK1.out.fits))
      have HNX := hid (Nat.le_trans (wr_len l m b 0 0 RA X3) HL3.out)
      have hqv := wr_same (bs := X3) HC.out HF3.out (Wg.zero HM0.out HK1.out.len HK1.out.fits) (Wg.zero HM0.out HK2.out.len HK2.out.fits) rfl
      obtain ⟨X, hX⟩ : ∃ S, S = wrO l m b 0 0 RA X3 := ⟨_, rfl⟩
      rw [← hX] at hch hcu HWX HNX hqv
      obtain ⟨RX, sX, hX', LX⟩ := X
      dsimp only at hch hcu HWX HNX
      obtain ⟨nX, rfl⟩ : ∃ n : Nat, sX = (n : Int) := ⟨sX.toNat, by have := HWX.out.s0; dsimp only at this; omega⟩
      replace HK2 := hid (HK2.out.but hbt (by have := HNE.out; omega))
      replace HB := hid (HB.out.trans (hbt.below HB.out.size HG1.out))
      replace HK1 := hid hcu
      clear hbt hcu
      have HCX := hid hch
      have HQV := hid hqv
      clear hch hX hqv
      go_wp2_with fail
      refine (write_ok g2 l m b 0 0 RB a3 cap3 X3 v5 HC.out HK2.out (HR3.out.later HB.out) (fun b' off h0 e => by obtain ⟨b9, o9, e9, hb9, _⟩ := HR3.out.cells h0; rw [e9] at e; cases e; have := HG2.out; omega) (Wg.zero HM0.out HK2.out.len HK2.out.fits).s0 (Wg.zero HM0.out HK2.out.len HK2.out.fits).s1 (Wg.zero HM0.out HK2.out.len HK2.out.fits).h0 (Wg.zero HM0.out HK2.out.len HK2.out.fits).h1 HL3.out).mono ?_
      rintro _ v6 ⟨x2, rfl, hch, hcu, hbt⟩
      have HWY := hid (wr_good (bs := X3) HC.out HF3.out (Wg.zero HM0.out HK2.out.len HK2.out.fits))
      have HNY := hid (Nat.le_trans (wr_len l m b 0 0 RB X3) HL3.out)
      have hqv := HQV.out
      obtain ⟨Y, hY⟩ : ∃ S, S = wrO l m b 0 0 RB X3 := ⟨_, rfl⟩
      rw [← hY] at hch hcu HWY HNY hqv
      obtain ⟨RY, sY, hY', LY⟩ := Y
      dsimp only at hch hcu HWY HNY
      obtain ⟨nY, rfl⟩ : ∃ n : Nat, sY = (n : Int) := ⟨sY.toNat, by have := HWY.out.s0; dsimp only at this; omega⟩
      replace HCX := hid (HCX.out.but HK2.out hbt)
      replace HK1 := hid (HK1.out.but hbt (by have := HNE.out; omega))
      replace HB := hid (HB.out.trans (hbt.below HB.out.size HG2.out))
      replace HK2 := hid hcu
      clear hbt hcu
      have HCY := hid hch
      replace HQV := hid hqv
      clear hch hY hqv
      obtain ⟨q1, q2, q3, q4⟩ := HQV.out
      dsimp only at q1 q2 q3 q4
      have q5 : nX = nY := by omega
      subst q5 q3 q2
      have HTK := hid q4
      clear q1 q4 HQV
      have HLX : Hid (nX ≤ 4096) := by show _ ≤ _; have h1 := HWX.out.s1; obtain ⟨k1, k2, k3, k4, k5⟩ := chkC_ok HC.out; dsimp only at h1; omega
      go_wp2_with fail
      refine (close_ok g1 l m b hX' nX RX v6 HK1.out HLX.out HC.out).mono ?_
      rintro _ v7 ⟨p, rfl, hown, hcu, hbt⟩
      replace HCX := hid (HCX.out.but HK1.out hbt)
      replace HCY := hid (HCY.out.but HK1.out hbt)
      replace HK2 := hid (HK2.out.but hbt (by have := HNE.out; omega))
      replace HB := hid (HB.out.trans (hbt.below HB.out.size HG1.out))
      replace HK1 := hid hcu
      clear hbt hcu
      have HP := hid hown
      clear hown
      go_wp2_with fail
      refine (close_ok g2 l m b hX' nX RY v7 HK2.out HLX.out HC.out).mono ?_
      rintro _ v8 ⟨q, rfl, hown, hcu, hbt⟩
      replace HCX := hid (HCX.out.but HK2.out hbt)
      replace HCY := hid (HCY.out.but HK2.out hbt)
      replace HP := hid (own_typ HP.out (fun i cs => But1.typ HK2.out hbt i cs 5 (by decide)))
      replace HK1 := hid (HK1.out.but hbt (by have := HNE.out; omega))
      replace HB := hid (HB.out.trans (hbt.below HB.out.size HG2.out))
      replace HK2 := hid hcu
      clear hbt hcu
      have HQ := hid hown
      clear hown
      obtain ⟨ax, cx, rfl, hcx⟩ := HCX.out.cs HNX.out HWX.out.fL
      obtain ⟨ay, cy, rfl, hcy⟩ := HCY.out.cs HNX.out HWX.out.fL
      have hpl : (RX.take nX).length = nX := by rw [List.length_take, HWX.out.len]; exact Nat.min_eq_left HLX.out
      have htk : RX.take nX = RY.take nX := HTK.out
      have hfp : ∀ j, (Lit.int .u8 ((RX.take nX).getD j 0)).wf = true := fun j => by
        have := (fits_mem (L := RX.take nX)).2 (fun z hz => HWX.out.fR z (List.mem_of_mem_take hz)) j
        exact wf_mk_u8 this.1 this.2
      have hp := HP.out
      have hq := HQ.out
      rw [← htk] at hq
      generalize RX.take nX = zp at *
      rw [← hpl] at hp hq
      obtain ⟨ap, cp, rfl, rp⟩ := Ri.own hp hfp
      obtain ⟨aq, cq, rfl, rq⟩ := Ri.own hq hfp
      have HSM := hid (same_eq ax ay cx cy LX v8 hcx hcy)
      have HRP := hid rp
      have HRQ := hid rq
      clear hcx hcy hpl htk hfp hp hq rp rq HP HQ HTK HCX HCY HK1 HK2
      generalize LX.length = nl at *
      go_wp2_with fail
      refine HSM.out.mono ?_
      rintro _ v9 ⟨rfl, hb9⟩
      have t1 := HRP.out.str v9 hb9
      have t2 := HRQ.out.str v9 hb9
      have HB9 := hid (Bn HB.out hb9)
      clear hb9 HSM HB
      go_wp2_with fail
      go_ret
      exact ⟨rfl, HB9.out⟩
  · have hznA : ¬ (nA : Int) = 0 := by omega
    go_wp2_with fail
    refine (close_ok g1 l m b hA' nA RA w7 HK1.out HLE1.out HC.out).mono ?_
    rintro _ u8 ⟨p1, rfl, hown, hcu, hbt⟩
    replace HK2 := hid (HK2.out.but hbt (by have := HNE.out; omega))
    replace HB := hid (HB.out.trans (hbt.below HB.out.size HG1.out))
    replace HK1 := hid hcu
    clear hbt hcu
    clear hown
    go_wp2_with fail
    refine (close_ok g2 l m b hB' nB RB u8 HK2.out HLE2.out HC.out).mono ?_
    rintro _ u9 ⟨p2, rfl, hown, hcu, hbt⟩
    replace HK1 := hid (HK1.out.but hbt (by have := HNE.out; omega))
    replace HB := hid (HB.out.trans (hbt.below HB.out.size HG2.out))
    replace HK2 := hid hcu
    clear hbt hcu
    clear hown
    go_wp2_with fail
    refine (write_ok g1 l m b 0 0 RA a3 cap3 X3 u9 HC.out HK1.out (HR3.out.later HB.out) (fun b' off h0 e => by obtain ⟨b9, o9, e9, hb9, _⟩ := HR3.out.cells h0; rw [e9] at e; cases e; have := HG1.out; omega) (Wg.zero HM0.out HK1.out.len HK1.out.fits).s0 (Wg.zero HM0.out HK1.out.len HK1.out.fits).s1 (Wg.zero HM0.out HK1.out.len HK1.out.fits).h0 (Wg.zero HM0.out HK1.out.len HK1.out.fits).h1 HL3.out).mono ?_
    rintro _ v5 ⟨x1, rfl, hch, hcu, hbt⟩
    have HWX := hid (wr_good (bs := X3) HC.out HF3.out (Wg.zero HM0.out HK1.out.len HK1.out.fits))
    have HNX := hid (Nat.le_trans (wr_len l m b 0 0 RA X3) HL3.out)
    have hqv := wr_same (bs := X3) HC.out HF3.out (Wg.zero HM0.out HK1.out.len HK1.out.fits) (Wg.zero HM0.out HK2.out.len HK2.out.fits) rfl
    obtain ⟨X, hX⟩ : ∃ S, S = wrO l m b 0 0 RA X3 := ⟨_, rfl⟩
    rw [← hX] at hch hcu HWX HNX hqv
    obtain ⟨RX, sX, hX', LX⟩ := X
    dsimp only at hch hcu HWX HNX
    obtain ⟨nX, rfl⟩ : ∃ n : Nat, sX = (n : Int) := ⟨sX.toNat, by have := HWX.out.s0; dsimp only at this; omega⟩
    replace HK2 := hid (HK2.out.but hbt (by have := HNE.out; omega))
    replace HB := hid (HB.out.trans (hbt.below HB.out.size HG1.out))
    replace HK1 := hid hcu
    clear hbt hcu
    have HCX := hid hch
    have HQV := hid hqv
    clear hch hX hqv
    go_wp2_with fail
    refine (write_ok g2 l m b 0 0 RB a3 cap3 X3 v5 HC.out HK2.out (HR3.out.later HB.out) (fun b' off h0 e => by obtain ⟨b9, o9, e9, hb9, _⟩ := HR3.out.cells h0; rw [e9] at e; cases e; have := HG2.out; omega) (Wg.zero HM0.out HK2.out.len HK2.out.fits).s0 (Wg.zero HM0.out HK2.out.len HK2.out.fits).s1 (Wg.zero HM0.out HK2.out.len HK2.out.fits).h0 (Wg.zero HM0.out HK2.out.len HK2.out.fits).h1 HL3.out).mono ?_
    rintro _ v6 ⟨x2, rfl, hch, hcu, hbt⟩
    have HWY := hid (wr_good (bs := X3) HC.out HF3.out (Wg.zero HM0.out HK2.out.len HK2.out.fits))
    have HNY := hid (Nat.le_trans (wr_len l m b 0 0 RB X3) HL3.out)
    have hqv := HQV.out
    obtain ⟨Y, hY⟩ : ∃ S, S = wrO l m b 0 0 RB X3 := ⟨_, rfl⟩
    rw [← hY] at hch hcu HWY HNY hqv
    obtain ⟨RY, sY, hY', LY⟩ := Y
    dsimp only at hch hcu HWY HNY
    obtain ⟨nY, rfl⟩ : ∃ n : Nat, sY = (n : Int) := ⟨sY.toNat, by have := HWY.out.s0; dsimp only at this; omega⟩
    replace HCX := hid (HCX.out.but HK2.out hbt)
    replace HK1 := hid (HK1.out.but hbt (by have := HNE.out; omega))
    replace HB := hid (HB.out.trans (hbt.below HB.out.size HG2.out))
    replace HK2 := hid hcu
    clear hbt hcu
    have HCY := hid hch
    replace HQV := hid hqv
    clear hch hY hqv
    obtain ⟨q1, q2, q3, q4⟩ := HQV.out
    dsimp only at q1 q2 q3 q4
    have q5 : nX = nY := by omega
    subst q5 q3 q2
    have HTK := hid q4
    clear q1 q4 HQV
    have HLX : Hid (nX ≤ 4096) := by show _ ≤ _; have h1 := HWX.out.s1; obtain ⟨k1, k2, k3, k4, k5⟩ := chkC_ok HC.out; dsimp only at h1; omega
    go_wp2_with fail
    refine (close_ok g1 l m b hX' nX RX v6 HK1.out HLX.out HC.out).mono ?_
    rintro _ v7 ⟨p, rfl, hown, hcu, hbt⟩
    replace HCX := hid (HCX.out.but HK1.out hbt)
    replace HCY := hid (HCY.out.but HK1.out hbt)
    replace HK2 := hid (HK2.out.but hbt (by have := HNE.out; omega))
    replace HB := hid (HB.out.trans (hbt.below HB.out.size HG1.out))
    replace HK1 := hid hcu
    clear hbt hcu
    have HP := hid hown
    clear hown
    go_wp2_with fail
    refine (close_ok g2 l m b hX' nX RY v7 HK2.out HLX.out HC.out).mono ?_
    rintro _ v8 ⟨q, rfl, hown, hcu, hbt⟩
    replace HCX := hid (HCX.out.but HK2.out hbt)
    replace HCY := hid (HCY.out.but HK2.out hbt)
    replace HP := hid (own_typ HP.out (fun i cs => But1.typ HK2.out hbt i cs 5 (by decide)))
    replace HK1 := hid (HK1.out.but hbt (by have := HNE.out; omega))
    replace HB := hid (HB.out.trans (hbt.below HB.out.size HG2.out))
    replace HK2 := hid hcu
    clear hbt hcu
    have HQ := hid hown
    clear hown
    obtain ⟨ax, cx, rfl, hcx⟩ := HCX.out.cs HNX.out HWX.out.fL
    obtain ⟨ay, cy, rfl, hcy⟩ := HCY.out.cs HNX.out HWX.out.fL
    have hpl : (RX.take nX).length = nX := by rw [List.length_take, HWX.out.len]; exact Nat.min_eq_left HLX.out
    have htk : RX.take nX = RY.take nX := HTK.out
    have hfp : ∀ j, (Lit.int .u8 ((RX.take nX).getD j 0)).wf = true := fun j => by
      have := (fits_mem (L := RX.take nX)).2 (fun z hz => HWX.out.fR z (List.mem_of_mem_take hz)) j
      exact wf_mk_u8 this.1 this.2
    have hp := HP.out
    have hq := HQ.out
    rw [← htk] at hq
    generalize RX.take nX = zp at *
    rw [← hpl] at hp hq
    obtain ⟨ap, cp, rfl, rp⟩ := Ri.own hp hfp
    obtain ⟨aq, cq, rfl, rq⟩ := Ri.own hq hfp
    have HSM := hid (same_eq ax ay cx cy LX v8 hcx hcy)
    have HRP := hid rp
    have HRQ := hid rq
    clear hcx hcy hpl htk hfp hp hq rp rq HP HQ HTK HCX HCY HK1 HK2
    generalize LX.length = nl at *
    go_wp2_with fail
    refine HSM.out.mono ?_
    rintro _ v9 ⟨rfl, hb9⟩
    have t1 := HRP.out.str v9 hb9
    have t2 := HRQ.out.str v9 hb9
    have HB9 := hid (Bn HB.out hb9)
    clear hb9 HSM HB
    go_wp2_with fail
    go_ret
    exact ⟨rfl, HB9.out⟩

set_option maxRecDepth 100000 in
theorem lifted (os : Os) (started : os.Started) (H : Type) (enc : TypeId × Value → H) :
    ReturnsInHanded {} Try.checked os 8 .any (Rows.rollAlikeSpec.pre6 enc Try.prog Try.f8 Rows.rollAlikeRow.domain false) (Rows.rollAlikeSpec.post enc Try.prog Try.f8 false true false false) := by
  refine returnsInHanded_of_change (C := Try.checked) own started (by kernel_rfl) Try.func8
    (ChangeSpec.witness6 (enc := enc) (C := Try.checked) false ⟨#[], #[.agg #[.int .i64 0, .int .i64 0, .int .i64 0], .slice none 0 0, .slice none 0 0, .slice none 0 0], []⟩ 8 (by kernel_rfl) (by kernel_rfl) (by kernel_rfl) (by kernel_rfl)) ?_
  intro W base args ds gs before hval0 hW _ _
  have hval : ∀ (j : Nat) t v, Try.f8.params[j]? = some t → args[j]? = some v → Value.okWide Try.prog W .any base t v := hval0
  have hW' := hW
  obtain ⟨p, q, hA0, hV, rfl, _, _⟩ := hW
  have hA : DataW.TrodAll enc Try.prog W 0 (fun _ => true) true Try.f8.params.toList args.toList ds p := hA0
  rw [Try.params8] at hA hval
  obtain ⟨v0, vs0, d0, ds0, p0, q0, hargs, rfl, rfl, h0, r0⟩ := trodAll_cons hA
  obtain ⟨v1, vs1, d1, ds1, p1, q1, rfl, rfl, rfl, h1, r1⟩ := trodAll_cons r0
  obtain ⟨v2, vs2, d2, ds2, p2, q2, rfl, rfl, rfl, h2, r2⟩ := trodAll_cons r1
  obtain ⟨v3, vs3, d3, ds3, p3, q3, rfl, rfl, rfl, h3, r3⟩ := trodAll_cons r2
  obtain ⟨rfl, rfl, rfl⟩ := trodAll_nil r3
  obtain rfl : args = #[v0, v1, v2, v3] := by cases args; simp_all
  obtain ⟨rfl, rfl⟩ := trodVars_none hV
  clear hA0
  simp only [List.append_nil] at hW'
  have hlt0 : ∀ x ∈ p0, x.block < W.heap.size := fun x hx => hW'.lt x (by simp [hx])
  have hk0 := h0
  obtain ⟨l0, m0, b0, rfl⟩ := open_conf (hval 0 23 v0 rfl rfl) h0
  have hlt1 : ∀ x ∈ p1, x.block < W.heap.size := fun x hx => hW'.lt x (by simp [hx])
  have hk1 := h1
  obtain ⟨a1, cap1, zs1, rfl, hr1⟩ := open_ri Try.underlying25 Try.underlying5 Try.cells5 (hval 1 25 v1 rfl rfl) h1 hlt1
  have hlt2 : ∀ x ∈ p2, x.block < W.heap.size := fun x hx => hW'.lt x (by simp [hx])
  have hk2 := h2
  obtain ⟨a2, cap2, zs2, rfl, hr2⟩ := open_ri Try.underlying25 Try.underlying5 Try.cells5 (hval 2 25 v2 rfl rfl) h2 hlt2
  have hlt3 : ∀ x ∈ p3, x.block < W.heap.size := fun x hx => hW'.lt x (by simp [hx])
  have hk3 := h3
  obtain ⟨a3, cap3, zs3, rfl, hr3⟩ := open_ri Try.underlying25 Try.underlying5 Try.cells5 (hval 3 25 v3 rfl rfl) h3 hlt3
  clear hval0
  refine (walk l0 m0 b0 a1 cap1 zs1 a2 cap2 zs2 a3 cap3 zs3 W hr1 hr2 hr3).mono fun e W' ⟨he, hb⟩ => ?_
  subst he
  exact ⟨_, rfl, _, _, _, [] ++ [], _, [], hW', trodAll_cons_mk (shut_bool Try.underlying4 _) trodAll_mk0, (trodAll_cons_mk (Below.trod Try.laidOut (by kernel_rfl) (of_decide_eq_true (by kernel_rfl)) hk0 hb hlt0) (trodAll_cons_mk (Below.trod Try.laidOut (by kernel_rfl) (of_decide_eq_true (by kernel_rfl)) hk1 hb hlt1) (trodAll_cons_mk (Below.trod Try.laidOut (by kernel_rfl) (of_decide_eq_true (by kernel_rfl)) hk2 hb hlt2) (trodAll_cons_mk (Below.trod Try.laidOut (by kernel_rfl) (of_decide_eq_true (by kernel_rfl)) hk3 hb hlt3) trodAll_mk0)))), rfl, hb.frame _, fun h => by cases h⟩

theorem over : Rows.rollAlikeRow.holds Try.pinned (OpenSpec.ofChange Rows.rollAlikeSpec) :=
  OpenClaim.holds_of_wide 8 Try.f8 rfl rfl rfl rfl rfl rfl rfl ⟨rfl, rfl, rfl, rfl, rfl⟩ rfl rfl rfl rfl rfl (by kernel_rfl) Try.func8 (by kernel_rfl)
    (of_decide_eq_true (by kernel_rfl)) (by unfold Func.isWrapper; first | (rw [if_pos (by decide +kernel)]; kernel_rfl) | (rw [if_neg (by decide +kernel)]; exact ⟨rfl, rfl⟩))
    (fun os started H enc _ => lifted os started H enc)

end Go.Proofs.Ytcapkkldjgmhfaa.rollAlike
namespace Go.Proofs.Ytcapkkldjgmhfaa
theorem rollAlike_holds : Rows.RollAlikeSaid := rollAlike.over
#print axioms rollAlike_holds
end Go.Proofs.Ytcapkkldjgmhfaa
