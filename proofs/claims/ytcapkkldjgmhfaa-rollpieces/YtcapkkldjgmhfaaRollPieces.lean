/-
  RollPieces is proved for every input: however bytes are cut when they come, the chunks are those of all of them; no condition.
-/
import Derived.Test.YtcapkkldjgmhfaaPart03
import Derived.Test.YtcapkkldjgmhfaaPart09
namespace Go.Proofs.Ytcapkkldjgmhfaa.rollPieces
open Go.ChangeShapes Go.WideShapes Go.ChangeAt Go.RowKit

theorem own : ownKnob Try.prog.godebug = none := by kernel_rfl

def PcI (l m b : Int) (g : Nat) (a : Option Addr) (cap len : Nat) (bs : List Int) (w3 : World) (p v i : Value) (wr : World) : Prop :=
  ∃ (k st : Nat) (aa : Option Addr) (R : List Int) (s h : Int), i = .int .i64 (k : Int) ∧ k ≤ 300 ∧ st ≤ len ∧ p = .slice aa (len - st) (cap - st) ∧ (st < len → ∃ gb off, a = some ⟨gb, off, none⟩ ∧ aa = some ⟨gb, off + st, none⟩) ∧ Cu wr g l m b s h R ∧ Wg m (R, s, h, []) ∧
    Has l m b (R, s, h, []) (docW l m b len (bs.take st)).2 [] ∧ Chs wr w3.heap.size v (docW l m b len (bs.take st)).1 ∧ But1 g w3 wr
set_option maxHeartbeats 6400000 in
set_option maxRecDepth 100000 in
theorem walk (l m b : Int) (a1 : Option Addr) (cap1 : Nat) (zs1 : List Int) (a2 : Option Addr) (cap2 : Nat) (zs2 : List Int) (w : World) (hr1 : Ri w .u8 a1 cap1 zs1) (hr2 : Ri w .u8 a2 cap2 zs2) :
    Calls Try.prog 6 #[.agg #[.int .i64 l, .int .i64 m, .int .i64 b], .slice a1 zs1.length cap1, .slice a2 zs2.length cap2] w fun e w' => e = .returned (.bool true) ∧ Below w.heap.size w w' := by
  have C1 : Hid (∀ W, Below w.heap.size w W → Calls Try.prog 9 #[.slice a1 zs1.length cap1] W fun e w' => e = .returned (.slice a1 (zs1.take 8192).length cap1) ∧ w' = W) := fun W hW => cut_any a1 cap1 zs1 W (hr1.later hW)
  have r1 := hr1.take 8192
  have l1 : (zs1.take 8192).length ≤ 8192 := List.length_take_le _ _
  clear hr1
  generalize zs1.take 8192 = X1 at *
  generalize zs1.length = n1 at *
  have hroom := r1.room
  have hmost := r1.most
  unfold maxLen at hmost
  have HF1 : Hid (∀ z ∈ X1, 0 ≤ z ∧ z ≤ 255) := fits_mem.1 (fun j => wf_u8 (r1.fits j))
  have HR1 := hid r1
  have HR2 := hid hr2
  have hmost2 : zs2.length ≤ 9223372036854775807 := by have h1 := hr2.room; have h2 := hr2.most; unfold maxLen at h2; omega
  clear r1 hr2
  obtain ⟨len, hln⟩ : ∃ n, n = X1.length := ⟨_, rfl⟩
  have HL := hid hln
  rw [← hln] at C1 l1 hroom
  clear hln
  obtain ⟨n2, hn2⟩ : ∃ n, n = zs2.length := ⟨_, rfl⟩
  have HN2 := hid hn2
  rw [← hn2] at hmost2 ⊢
  clear hn2
  have HE0 := hid (heap_new w (.cells #[.int .i64 l, .int .i64 m, .int .i64 b] 23))
  have HB0 := hid (bel_alloc w (.cells #[.int .i64 l, .int .i64 m, .int .i64 b] 23))
  have HCR := hid (fun W => check_ref l m b W)
  go_enter Try.func6, Try.ntmps6
  go_wp2_with fail
  refine (awake_any _).mono ?_
  rintro _ w1 ⟨rfl, hb1⟩
  have HB1 := hid (Bn HB0.out hb1)
  have HE1 := hid ((hb1.block w.heap.size (Array.getElem?_eq_some_iff.1 HE0.out).1).trans HE0.out)
  clear hb1 HE0 HB0
  have cb0 := Joins.cell_of_block HE1.out 0
  have cb1 := Joins.cell_of_block HE1.out 1
  have cb2 := Joins.cell_of_block HE1.out 2
  simp only [List.getElem?_toArray, List.getElem?_cons_zero, List.getElem?_cons_succ] at cb0 cb1 cb2
  by_cases hc : chkC l m b = 0
  case neg =>
    have HNN := hid (new_no l m b w1 hc)
    have HCC := hid (fun W => check_ref l m b W)
    generalize chkC l m b = c at *
    go_wp2_with fail
    refine HNN.out.mono ?_
    rintro _ w2 ⟨rfl, hb2⟩
    have HB2 := hid (Bn HB1.out hb2)
    have HE2 := hid ((hb2.block w.heap.size (Array.getElem?_eq_some_iff.1 HE1.out).1).trans HE1.out)
    clear hb2 cb0 cb1 cb2
    have cb0 := Joins.cell_of_block HE2.out 0
    have cb1 := Joins.cell_of_block HE2.out 1
    have cb2 := Joins.cell_of_block HE2.out 2
    simp only [List.getElem?_toArray, List.getElem?_cons_zero, List.getElem?_cons_succ] at cb0 cb1 cb2
    go_wp2_with fail
    refine (HCC.out w2).mono ?_
    rintro _ w3 ⟨rfl, hb3⟩
    have HB3 := hid (Bn HB2.out hb3)
    clear hb3 cb0 cb1 cb2
    have hcb : (c != 0) = true := by simpa using hc
    go_wp2_with fail
    go_ret
    refine ⟨?_, HB3.out⟩
    first
      | rfl
      | (show Ending.returned (Value.bool (c != 0)) = _; rw [hcb])
  have HC := hid hc
  have HNW := hid (new_ok l m b w1 hc)
  unfold NewPost at HNW
  clear hc HCR
  go_wp2_with fail
  refine HNW.out.mono ?_
  rintro _ w2 ⟨g, hg, rfl, hk, hb2⟩
  have HB2 := hid (Bn HB1.out hb2)
  have HE2 := hid ((hb2.block w.heap.size (Array.getElem?_eq_some_iff.1 HE1.out).1).trans HE1.out)
  have HG : Hid (w.heap.size ≤ g) := Nat.le_trans HB1.out.size hg
  have HK := hid hk
  clear hk hb2 hg cb0 cb1 cb2 HE1 HB1 HNW
  go_wp2_with fail
  refine (C1.out _ HB2.out).mono ?_
  rintro _ w0 ⟨rfl, hw⟩
  obtain rfl := hw.symm
  clear hw C1
  have cb0 := Joins.cell_of_block HE2.out 0
  have cb1 := Joins.cell_of_block HE2.out 1
  have cb2 := Joins.cell_of_block HE2.out 2
  simp only [List.getElem?_toArray, List.getElem?_cons_zero, List.getElem?_cons_succ] at cb0 cb1 cb2
  have HSP := hid (split_ref l m b a1 cap1 X1 w2 (HR1.out.later HB2.out) HC.out (by rw [← HL.out]; omega))
  rw [← HL.out] at HSP
  unfold SplPost at HSP
  rw [← HL.out] at HSP
  go_wp2_with fail
  refine HSP.out.mono ?_
  rintro _ w3 ⟨vW, rfl, hcw, hb3⟩
  have HB3 := hid (Bn HB2.out hb3)
  have HCW := hid (hcw.mono HB2.out.size)
  replace HK := hid (HK.out.later (hb3.block g HK.out.lt))
  clear hcw hb3 HB2 HE2 HSP cb0 cb1 cb2
  obtain ⟨k1, k2, k3, k4, k5⟩ := chkC_ok HC.out
  have HM0 : Hid (0 < m) := by show _ < _; omega
  clear k1 k2 k3 k4 k5
  go_wp2_with fail
  go_loopw [1, 10, 11] (fun p v i wr => PcI l m b g a1 cap1 len X1 w3 p v i wr) (fun _ _ i _ => 300 - (intOf i).toNat)
  case atStart =>
    have hd : docW l m b len (X1.take 0) = ([], []) := by rw [List.take_zero, docW_no (next_nil HC.out)]
    refine ⟨0, 0, a1, z4, 0, 0, rfl, by omega, Nat.zero_le _, rfl, fun h => ?_, HK.out, Wg.zero HM0.out z4_len z4_fits, ?_, ?_, But1.of_below (Below.refl _ _)⟩
    · obtain ⟨gb, off, e, _⟩ := HR1.out.cells (by rw [← HL.out]; exact h)
      exact ⟨gb, off, e, e⟩
    · rw [hd]; exact ⟨rfl, trivial, rfl, rfl⟩
    · rw [hd]; exact ⟨[], nil_own _ _ _, fun i hi => absurd hi (Nat.not_lt_zero _)⟩
  case round =>
    obtain ⟨k, st, aa, R, s, h, rfl, hk, hst, rfl, haa, hcu, hwg, hhas, hcv, hbt0⟩ := hrel
    have HAA := hid haa
    have HCU := hid hcu
    have HWG := hid hwg
    have HHS := hid hhas
    have HCV := hid hcv
    have HBT := hid hbt0
    have HBE := hid (HB3.out.trans (hbt0.below HB3.out.size HG.out))
    have HLT := hid HK.out.lt
    have HRI : Hid (∀ n, n ≤ len - st → Ri wr .u8 aa (cap1 - st) ((X1.drop st).take n)) := fun n hn => by
      by_cases h0 : st < len
      · obtain ⟨gb, off, e1, e2⟩ := haa h0
        rw [e2]
        exact ((HR1.out.later HBE.out).dropR st gb off (by rw [← HL.out]; exact h0) e1).take n
      · rw [List.drop_eq_nil_of_le (by rw [← HL.out]; omega), List.take_nil]
        exact Ri.none _ _ _ (by unfold maxLen; omega)
    have HGA : Hid (∀ n b' off, 0 < ((X1.drop st).take n).length → aa = some ⟨b', off, none⟩ → b' ≠ g) := fun n b' off h0 e => by
      have h1 : st < len := by rw [List.length_take, List.length_drop, ← HL.out] at h0; omega
      obtain ⟨gb, of2, e1, e2⟩ := haa h1
      rw [e2] at e
      cases e
      obtain ⟨b9, o9, e9, hb9, _⟩ := HR1.out.cells (by rw [← HL.out]; omega)
      rw [e1] at e9
      cases e9
      have := HG.out
      omega
    have HYL : Hid (∀ n, n ≤ len - st → ((X1.drop st).take n).length = n) := fun n hn => by rw [List.length_take, List.length_drop, ← HL.out]; omega
    have HWR : Hid (∀ n, n ≤ len - st → Calls Try.prog 25 #[.pointer (some ⟨g, 0, none⟩), .slice aa n (cap1 - st)] wr (WriPost g l m b s h R ((X1.drop st).take n) wr)) := fun n hn => by
      have h1 := write_ok g l m b s h R aa (cap1 - st) ((X1.drop st).take n) wr HC.out HCU.out (HRI.out n hn) (HGA.out n) HWG.out.s0 HWG.out.s1 HWG.out.h0 HWG.out.h1 (by rw [HYL.out n hn]; omega)
      rw [HYL.out n hn] at h1
      exact h1
    have HPC : Hid (∀ n, n ≤ len - st → _) := fun n (hn : n ≤ len - st) => has_piece HC.out (R := R) (bs := X1) (s := s) (h := h) st n HF1.out (by rw [← HL.out]; omega) HWG.out (by rw [← HL.out]; exact HHS.out)
    rw [← HL.out] at HPC
    have HGD : Hid (∀ n, n ≤ len - st → _) := fun n (_ : n ≤ len - st) => wr_good (l := l) (b := b) (bs := (X1.drop st).take n) HC.out (fun z hz => HF1.out z (List.mem_of_mem_drop (List.mem_of_mem_take hz))) HWG.out
    have HLN : Hid (∀ n, n ≤ len - st → (docW l m b len (X1.take st)).1.length + (wrO l m b s h R ((X1.drop st).take n)).2.2.2.length ≤ 1048576) := fun n hn => by
      have h1 := wr_len l m b s h R ((X1.drop st).take n)
      rw [HYL.out n hn] at h1
      have h2 := doc_len (l := l) (m := m) (b := b) HC.out len (X1.take st) (by rw [List.length_take, ← HL.out]; omega)
      rw [List.length_take, ← HL.out] at h2
      omega
    clear haa hcu hwg hhas hcv hbt0 HRI HGA HYL
    by_cases hlt : k < n2 ∧ k < 300
    · obtain ⟨hlt1, hlt2⟩ := hlt
      have hz1 : (k : Int) < (n2 : Int) := by omega
      have hz2 : (k : Int) < 300 := by omega
      have hz3 : (0 : Int) ≤ (k : Int) := by omega
      obtain ⟨gc, oc, rfl, hgc, hcc⟩ := (HR2.out.later HBE.out).cells (by rw [← HN2.out]; omega)
      have x1 := hcc k (by rw [← HN2.out]; exact hlt1)
      have hcz := wf_u8 (HR2.out.fits k)
      generalize zs2.getD k 0 = c at *
      obtain ⟨hc1, hc2⟩ := hcz
      obtain ⟨cn, rfl⟩ : ∃ cn : Nat, c = (cn : Int) := ⟨c.toNat, by omega⟩
      clear hcc
      by_cases hmin : cn ≤ len - st
      · have hmz : (cn : Int) ≤ ((len - st : Nat) : Int) := by omega
        have hcs : (cn : Int) ≤ ((cap1 - st : Nat) : Int) := by omega
        have hcs2 : cn ≤ cap1 - st := by omega
        go_wp2_with fail
        refine (HWR.out (cn) hmin).mono ?_
        rintro _ w4 ⟨x, rfl, hch, hcu4, hbt⟩
        obtain ⟨p1, p2, p3⟩ := HPC.out (cn) hmin
        have hgd := HGD.out (cn) hmin
        have hln := HLN.out (cn) hmin
        obtain ⟨S, hS⟩ : ∃ S, S = wrO l m b s h R ((X1.drop st).take (cn)) := ⟨_, rfl⟩
        rw [← hS] at hch hcu4 p1 p2 p3 hgd hln
        clear hS
        obtain ⟨R4, s4, h4, L4⟩ := S
        dsimp only at hch hcu4 p1 p2 p3 hln
        have HW4 : Hid (Wg m (R4, s4, h4, [])) := ⟨hgd.s0, hgd.s1, hgd.h0, hgd.h1, hgd.hz, hgd.len, hgd.fR, fun _ h => by cases h⟩
        have hv4 := HCV.out.but HCU.out hbt
        have hx4 := hch.mono HBT.out.bel.size
        have hbt4 := HBT.out.trans hbt
        have hsz4 := hbt4.bel.size
        have HCU4 := hid hcu4
        have HBT4 := hid hbt4
        have HP2 := hid p2
        have HP3 := hid p3
        generalize (docW l m b len (X1.take st)).1 = G at *
        clear hch hbt hgd p1 p2 p3 hcu4 hbt4 HWR HPC HGD HLN HCU HCV x1
        go_wp2_with (at_builtin; refine chs_app _ rfl _ _ rfl w3.heap.size _ x G L4 rfl hv4 rfl hx4 hln hsz4 ?_)
        intro v5 w5 hc5 ht5 hb5
        have HCU5 : Hid (Cu w5 g l m b s4 h4 R4) := ⟨ht5 g _ 71 _ _ (by decide) HCU4.out.blk, HCU4.out.len, HCU4.out.fits⟩
        have HBT5 : Hid (But1 g w3 w5) := ⟨HBT4.out.bel.trans (hb5.mono (Nat.zero_le _)), fun i hi hne => (hb5.block i hi).trans (HBT4.out.same i hi hne)⟩
        have HC5 := hid hc5
        clear hc5 ht5 hb5 hv4 hx4 HCU4 HBT4
        go_wp2_with fail
        refine ⟨⟨k + 1, st + cn, (if cap1 - st = cn then aa else Option.map (fun x => x.add (cn)) aa), R4, s4, h4, rfl, by omega, by omega, ?ppA, fun h9 => ?qqA, HCU5.out, HW4.out, HP2.out, by rw [HP3.out]; exact HC5.out, HBT5.out⟩, by simp only [intOf]; omega⟩
        case ppA => rw [Nat.sub_sub, Nat.sub_sub]
        case qqA =>
          obtain ⟨gb, off, e1, e2⟩ := HAA.out (by omega)
          refine ⟨gb, off, e1, ?_⟩
          rw [if_neg (by omega), e2]
          simp [Go.WideShapes.add_plain, Nat.add_assoc]
      · have hmz : ¬ (cn : Int) ≤ ((len - st : Nat) : Int) := by omega
        have hcs : ((len - st) : Int) ≤ ((cap1 - st : Nat) : Int) := by omega
        have hcs2 : (len - st) ≤ cap1 - st := by omega
        go_wp2_with fail
        refine (HWR.out ((len - st)) (Nat.le_refl _)).mono ?_
        rintro _ w4 ⟨x, rfl, hch, hcu4, hbt⟩
        obtain ⟨p1, p2, p3⟩ := HPC.out ((len - st)) (Nat.le_refl _)
        have hgd := HGD.out ((len - st)) (Nat.le_refl _)
        have hln := HLN.out ((len - st)) (Nat.le_refl _)
        obtain ⟨S, hS⟩ : ∃ S, S = wrO l m b s h R ((X1.drop st).take ((len - st))) := ⟨_, rfl⟩
        rw [← hS] at hch hcu4 p1 p2 p3 hgd hln
        clear hS
        obtain ⟨R4, s4, h4, L4⟩ := S
        dsimp only at hch hcu4 p1 p2 p3 hln
        have HW4 : Hid (Wg m (R4, s4, h4, [])) := ⟨hgd.s0, hgd.s1, hgd.h0, hgd.h1, hgd.hz, hgd.len, hgd.fR, fun _ h => by cases h⟩
        have hv4 := HCV.out.but HCU.out hbt
        have hx4 := hch.mono HBT.out.bel.size
        have hbt4 := HBT.out.trans hbt
        have hsz4 := hbt4.bel.size
        have HCU4 := hid hcu4
        have HBT4 := hid hbt4
        have HP2 := hid p2
        have HP3 := hid p3
        generalize (docW l m b len (X1.take st)).1 = G at *
        clear hch hbt hgd p1 p2 p3 hcu4 hbt4 HWR HPC HGD HLN HCU HCV x1
        go_wp2_with (at_builtin; refine chs_app _ rfl _ _ rfl w3.heap.size _ x G L4 rfl hv4 rfl hx4 hln hsz4 ?_)
        intro v5 w5 hc5 ht5 hb5
        have HCU5 : Hid (Cu w5 g l m b s4 h4 R4) := ⟨ht5 g _ 71 _ _ (by decide) HCU4.out.blk, HCU4.out.len, HCU4.out.fits⟩
        have HBT5 : Hid (But1 g w3 w5) := ⟨HBT4.out.bel.trans (hb5.mono (Nat.zero_le _)), fun i hi hne => (hb5.block i hi).trans (HBT4.out.same i hi hne)⟩
        have HC5 := hid hc5
        clear hc5 ht5 hb5 hv4 hx4 HCU4 HBT4
        go_wp2_with fail
        refine ⟨⟨k + 1, st + (len - st), (if cap1 - st = (len - st) then aa else Option.map (fun x => x.add ((len - st))) aa), R4, s4, h4, rfl, by omega, by omega, ?ppB, fun h9 => ?qqB, HCU5.out, HW4.out, HP2.out, by rw [HP3.out]; exact HC5.out, HBT5.out⟩, by simp only [intOf]; omega⟩
        case ppB => rw [show len - (st + (len - st)) = 0 from by omega, Nat.sub_sub]
        case qqB =>
          obtain ⟨gb, off, e1, e2⟩ := HAA.out (by omega)
          refine ⟨gb, off, e1, ?_⟩
          rw [if_neg (by omega), e2]
          simp [Go.WideShapes.add_plain, Nat.add_assoc]
    · by_cases hkn : k < n2
      · have hzy : (k : Int) < (n2 : Int) := by omega
        have hzz : ¬ (k : Int) < 300 := by omega
        go_wp2_with fail
        refine (HWR.out (len - st) (Nat.le_refl _)).mono ?_
        rintro _ w4 ⟨x, rfl, hch, hcu4, hbt⟩
        obtain ⟨p1, p2, p3⟩ := HPC.out (len - st) (Nat.le_refl _)
        have hgd := HGD.out (len - st) (Nat.le_refl _)
        have hln := HLN.out (len - st) (Nat.le_refl _)
        obtain ⟨S, hS⟩ : ∃ S, S = wrO l m b s h R ((X1.drop st).take (len - st)) := ⟨_, rfl⟩
        rw [← hS] at hch hcu4 p1 p2 p3 hgd hln
        clear hS
        obtain ⟨R4, s4, h4, L4⟩ := S
        dsimp only at hch hcu4 p1 p2 p3 hln
        have hall : X1.take (st + (len - st)) = X1 := List.take_of_length_le (by rw [← HL.out]; omega)
        rw [hall] at p1 p3
        obtain ⟨n4, rfl⟩ : ∃ n : Nat, s4 = (n : Int) := ⟨s4.toNat, by have := hgd.s0; dsimp only at this; omega⟩
        have hn4 : n4 ≤ 4096 := by have h9 := hgd.s1; obtain ⟨k1, k2, k3, k4, k5⟩ := chkC_ok HC.out; dsimp only at h9; omega
        have HSPL : Hid (splF l m b len X1 = ((docW l m b len (X1.take st)).1 ++ L4) ++ (if R4.take n4 = [] then [] else [R4.take n4])) := by
          show _ = _
          rw [spl_doc HC.out len X1 (by rw [← HL.out]; exact Nat.le_refl _), p3, ← p1]
          rfl
        have hv4 := HCV.out.but HCU.out hbt
        have hx4 := hch.mono HBT.out.bel.size
        have HBT4 := hid (HBT.out.trans hbt)
        have HV4 := hid hv4
        have HX4 := hid hx4
        have HCU4 := hid hcu4
        have HFR := hid hgd.fR
        have HRL := hid hgd.len
        clear hch hbt hgd p1 p2 p3 hall hv4 hx4 hcu4 HWR HPC HGD HLN HCU HCV
        go_wp2_with fail
        refine (close_ok g l m b h4 n4 R4 w4 HCU4.out hn4 HC.out).mono ?_
        rintro _ w5 ⟨last, rfl, hown, hcu5, hbt5⟩
        have hv5 := HV4.out.but HCU4.out hbt5
        have hx5 := HX4.out.but HCU4.out hbt5
        have HBT5 := hid (HBT4.out.trans hbt5)
        have hsz5 := HBT5.out.bel.size
        have hl5 := own_mono hown HBT4.out.bel.size
        have hzl : (R4.take n4).length = n4 := by rw [List.length_take, HRL.out]; omega
        rw [show n4 = (R4.take n4).length from hzl.symm] at hl5
        rw [hzl] at hl5
        generalize hG : (docW l m b len (X1.take st)).1 = G at *
        clear hown hcu5 hbt5 HV4 HX4 HCU4 HBT4 hG
        obtain ⟨aL, cL, rfl⟩ : ∃ aL cL, last = Value.slice aL n4 cL := by
          rcases hl5.2 with ⟨rfl, h0⟩ | ⟨gg, cp, cur9, rfl, _⟩
          · exact ⟨_, _, by rw [h0]⟩
          · exact ⟨_, _, rfl⟩
        have HL5 := hid hl5
        go_wp2_with (at_builtin; refine chs_app _ rfl _ _ rfl w3.heap.size _ x G L4 rfl hv5 rfl hx5 hln hsz5 ?_)
        intro v6 w6 hc6 ht6 hb6
        have HBT6 : Hid (But1 g w3 w6) := ⟨HBT5.out.bel.trans (hb6.mono (Nat.zero_le _)), fun i hi hne => (hb6.block i hi).trans (HBT5.out.same i hi hne)⟩
        have HC6 := hid hc6
        have HL6 := hid (own_typ HL5.out (fun i cs hi => ht6 i cs 5 0 0 (by decide) hi))
        clear hc6 ht6 hb6 hv5 hx5 HL5 hl5
        by_cases hz : n4 = 0
        · subst hz
          have HGOT : Hid (Chs w6 w3.heap.size v6 (splF l m b len X1)) := by
            show Chs _ _ _ _
            rw [HSPL.out, List.take_zero, if_pos rfl, List.append_nil]
            exact HC6.out
          have HBTF := HBT6
          have HSM : Hid (∃ ag cg aw cw, v6 = .slice ag (splF l m b len X1).length cg ∧ vW = .slice aw (splF l m b len X1).length cw ∧ Calls Try.prog 26 #[.slice ag (splF l m b len X1).length cg, .slice aw (splF l m b len X1).length cw] w6 fun e w' => e = .returned (.bool true) ∧ Below w6.heap.size w6 w') := by
            have hsl : (splF l m b len X1).length ≤ 1048576 := by have h1 := spl_len (l := l) (m := m) (b := b) len X1; rw [← HL.out] at h1; omega
            have hsf : ∀ c ∈ splF l m b len X1, ∀ z ∈ c, 0 ≤ z ∧ z ≤ 255 := fun c hc z hz => HF1.out z (spl_mem len X1 c hc z hz)
            obtain ⟨ag, cg, e1, c1⟩ := HGOT.out.cs hsl hsf
            obtain ⟨aw, cw, e2, c2⟩ := (HCW.out.but HK.out HBTF.out).cs hsl hsf
            exact ⟨ag, cg, aw, cw, e1, e2, same_eq ag aw cg cw _ w6 c1 c2⟩
          obtain ⟨ag, cg, aw, cw, e1, e2, hsm⟩ := HSM.out
          subst e1 e2
          have HBF := hid (HB3.out.trans (HBTF.out.below HB3.out.size HG.out))
          have HSF := hid hsm
          clear hsm HSM HGOT HCW
          generalize (splF l m b len X1).length = nl at *
          go_wp2_with fail
          refine HSF.out.mono ?_
          rintro _ w9 ⟨rfl, hb9⟩
          have HB9 := hid (Bn HBF.out hb9)
          clear hb9 HSF HBF
          go_wp2_with fail
          go_ret
          exact ⟨rfl, HB9.out⟩
        · have hzp : (0 : Int) < (n4 : Int) := by omega
          obtain ⟨xs9, hrow, hch9⟩ := HC6.out
          obtain ⟨i0, hi, hz0, hz1, hz2⟩ := info_parts Try.info25c
          have hL1 : (G ++ L4).length + 1 ≤ maxLen := by rw [List.length_append]; unfold maxLen; omega
          have hL2 : ((G ++ L4).length + 1) * 24 ≤ 140737488355328 := by rw [List.length_append]; omega
          have hsz6 := HBT6.out.bel.size
          have HLZ := hid hzl
          clear hzl
          generalize G ++ L4 = GL at *
          go_wp2_with (at_builtin; refine wpList_append_own _ rfl _ _ 39 rfl w3.heap.size 25 i0 (.slice none 0 0) 1 24 Try.underlying39 hi hz0 hz1 hz2 rfl (by decide) _ GL.length xs9 rfl (hrow.alloc _) ⟨w6.heap.size, 0, none⟩ 1 1 [.slice aL n4 cL] rfl rfl (cell_one_new _ _ _) (by simp [Value.oneCell']) hL1 hL2 (by simp; omega) ?_)
          intro v7 w7 hown' hgrow _
          obtain ⟨hc7, _, hb7⟩ := Chs.push (z := R4.take n4) hsz6 hrow hch9 (by rw [HLZ.out]; exact HL6.out) hown' hgrow
          have HGOT : Hid (Chs w7 w3.heap.size v7 (splF l m b len X1)) := by
            show Chs _ _ _ _
            rw [HSPL.out, if_neg (by intro e; have h9 := HLZ.out; rw [e] at h9; simp at h9; omega)]
            exact hc7
          have HBTF : Hid (But1 g w3 w7) := ⟨HBT6.out.bel.trans (hb7.mono (Nat.zero_le _)), fun i hi hne => (hb7.block i hi).trans (HBT6.out.same i hi hne)⟩
          clear hown' hgrow hc7 hb7 hrow hch9 hi hz0 hz1 hz2
          have HSM : Hid (∃ ag cg aw cw, v7 = .slice ag (splF l m b len X1).length cg ∧ vW = .slice aw (splF l m b len X1).length cw ∧ Calls Try.prog 26 #[.slice ag (splF l m b len X1).length cg, .slice aw (splF l m b len X1).length cw] w7 fun e w' => e = .returned (.bool true) ∧ Below w7.heap.size w7 w') := by
            have hsl : (splF l m b len X1).length ≤ 1048576 := by have h1 := spl_len (l := l) (m := m) (b := b) len X1; rw [← HL.out] at h1; omega
            have hsf : ∀ c ∈ splF l m b len X1, ∀ z ∈ c, 0 ≤ z ∧ z ≤ 255 := fun c hc z hz => HF1.out z (spl_mem len X1 c hc z hz)
            obtain ⟨ag, cg, e1, c1⟩ := HGOT.out.cs hsl hsf
            obtain ⟨aw, cw, e2, c2⟩ := (HCW.out.but HK.out HBTF.out).cs hsl hsf
            exact ⟨ag, cg, aw, cw, e1, e2, same_eq ag aw cg cw _ w7 c1 c2⟩
          obtain ⟨ag, cg, aw, cw, e1, e2, hsm⟩ := HSM.out
          subst e1 e2
          have HBF := hid (HB3.out.trans (HBTF.out.below HB3.out.size HG.out))
          have HSF := hid hsm
          clear hsm HSM HGOT HCW
          generalize (splF l m b len X1).length = nl at *
          go_wp2_with fail
          refine HSF.out.mono ?_
          rintro _ w9 ⟨rfl, hb9⟩
          have HB9 := hid (Bn HBF.out hb9)
          clear hb9 HSF HBF
          go_wp2_with fail
          go_ret
          exact ⟨rfl, HB9.out⟩
      · have hzz : ¬ (k : Int) < (n2 : Int) := by omega
        go_wp2_with fail
        refine (HWR.out (len - st) (Nat.le_refl _)).mono ?_
        rintro _ w4 ⟨x, rfl, hch, hcu4, hbt⟩
        obtain ⟨p1, p2, p3⟩ := HPC.out (len - st) (Nat.le_refl _)
        have hgd := HGD.out (len - st) (Nat.le_refl _)
        have hln := HLN.out (len - st) (Nat.le_refl _)
        obtain ⟨S, hS⟩ : ∃ S, S = wrO l m b s h R ((X1.drop st).take (len - st)) := ⟨_, rfl⟩
        rw [← hS] at hch hcu4 p1 p2 p3 hgd hln
        clear hS
        obtain ⟨R4, s4, h4, L4⟩ := S
        dsimp only at hch hcu4 p1 p2 p3 hln
        have hall : X1.take (st + (len - st)) = X1 := List.take_of_length_le (by rw [← HL.out]; omega)
        rw [hall] at p1 p3
        obtain ⟨n4, rfl⟩ : ∃ n : Nat, s4 = (n : Int) := ⟨s4.toNat, by have := hgd.s0; dsimp only at this; omega⟩
        have hn4 : n4 ≤ 4096 := by have h9 := hgd.s1; obtain ⟨k1, k2, k3, k4, k5⟩ := chkC_ok HC.out; dsimp only at h9; omega
        have HSPL : Hid (splF l m b len X1 = ((docW l m b len (X1.take st)).1 ++ L4) ++ (if R4.take n4 = [] then [] else [R4.take n4])) := by
          show _ = _
          rw [spl_doc HC.out len X1 (by rw [← HL.out]; exact Nat.le_refl _), p3, ← p1]
          rfl
        have hv4 := HCV.out.but HCU.out hbt
        have hx4 := hch.mono HBT.out.bel.size
        have HBT4 := hid (HBT.out.trans hbt)
        have HV4 := hid hv4
        have HX4 := hid hx4
        have HCU4 := hid hcu4
        have HFR := hid hgd.fR
        have HRL := hid hgd.len
        clear hch hbt hgd p1 p2 p3 hall hv4 hx4 hcu4 HWR HPC HGD HLN HCU HCV
        go_wp2_with fail
        refine (close_ok g l m b h4 n4 R4 w4 HCU4.out hn4 HC.out).mono ?_
        rintro _ w5 ⟨last, rfl, hown, hcu5, hbt5⟩
        have hv5 := HV4.out.but HCU4.out hbt5
        have hx5 := HX4.out.but HCU4.out hbt5
        have HBT5 := hid (HBT4.out.trans hbt5)
        have hsz5 := HBT5.out.bel.size
        have hl5 := own_mono hown HBT4.out.bel.size
        have hzl : (R4.take n4).length = n4 := by rw [List.length_take, HRL.out]; omega
        rw [show n4 = (R4.take n4).length from hzl.symm] at hl5
        rw [hzl] at hl5
        generalize hG : (docW l m b len (X1.take st)).1 = G at *
        clear hown hcu5 hbt5 HV4 HX4 HCU4 HBT4 hG
        obtain ⟨aL, cL, rfl⟩ : ∃ aL cL, last = Value.slice aL n4 cL := by
          rcases hl5.2 with ⟨rfl, h0⟩ | ⟨gg, cp, cur9, rfl, _⟩
          · exact ⟨_, _, by rw [h0]⟩
          · exact ⟨_, _, rfl⟩
        have HL5 := hid hl5
        go_wp2_with (at_builtin; refine chs_app _ rfl _ _ rfl w3.heap.size _ x G L4 rfl hv5 rfl hx5 hln hsz5 ?_)
        intro v6 w6 hc6 ht6 hb6
        have HBT6 : Hid (But1 g w3 w6) := ⟨HBT5.out.bel.trans (hb6.mono (Nat.zero_le _)), fun i hi hne => (hb6.block i hi).trans (HBT5.out.same i hi hne)⟩
        have HC6 := hid hc6
        have HL6 := hid (own_typ HL5.out (fun i cs hi => ht6 i cs 5 0 0 (by decide) hi))
        clear hc6 ht6 hb6 hv5 hx5 HL5 hl5
        by_cases hz : n4 = 0
        · subst hz
          have HGOT : Hid (Chs w6 w3.heap.size v6 (splF l m b len X1)) := by
            show Chs _ _ _ _
            rw [HSPL.out, List.take_zero, if_pos rfl, List.append_nil]
            exact HC6.out
          have HBTF := HBT6
          have HSM : Hid (∃ ag cg aw cw, v6 = .slice ag (splF l m b len X1).length cg ∧ vW = .slice aw (splF l m b len X1).length cw ∧ Calls Try.prog 26 #[.slice ag (splF l m b len X1).length cg, .slice aw (splF l m b len X1).length cw] w6 fun e w' => e = .returned (.bool true) ∧ Below w6.heap.size w6 w') := by
            have hsl : (splF l m b len X1).length ≤ 1048576 := by have h1 := spl_len (l := l) (m := m) (b := b) len X1; rw [← HL.out] at h1; omega
            have hsf : ∀ c ∈ splF l m b len X1, ∀ z ∈ c, 0 ≤ z ∧ z ≤ 255 := fun c hc z hz => HF1.out z (spl_mem len X1 c hc z hz)
            obtain ⟨ag, cg, e1, c1⟩ := HGOT.out.cs hsl hsf
            obtain ⟨aw, cw, e2, c2⟩ := (HCW.out.but HK.out HBTF.out).cs hsl hsf
            exact ⟨ag, cg, aw, cw, e1, e2, same_eq ag aw cg cw _ w6 c1 c2⟩
          obtain ⟨ag, cg, aw, cw, e1, e2, hsm⟩ := HSM.out
          subst e1 e2
          have HBF := hid (HB3.out.trans (HBTF.out.below HB3.out.size HG.out))
          have HSF := hid hsm
          clear hsm HSM HGOT HCW
          generalize (splF l m b len X1).length = nl at *
          go_wp2_with fail
          refine HSF.out.mono ?_
          rintro _ w9 ⟨rfl, hb9⟩
          have HB9 := hid (Bn HBF.out hb9)
          clear hb9 HSF HBF
          go_wp2_with fail
          go_ret
          exact ⟨rfl, HB9.out⟩
        · have hzp : (0 : Int) < (n4 : Int) := by omega
          obtain ⟨xs9, hrow, hch9⟩ := HC6.out
          obtain ⟨i0, hi, hz0, hz1, hz2⟩ := info_parts Try.info25c
          have hL1 : (G ++ L4).length + 1 ≤ maxLen := by rw [List.length_append]; unfold maxLen; omega
          have hL2 : ((G ++ L4).length + 1) * 24 ≤ 140737488355328 := by rw [List.length_append]; omega
          have hsz6 := HBT6.out.bel.size
          have HLZ := hid hzl
          clear hzl
          generalize G ++ L4 = GL at *
          go_wp2_with (at_builtin; refine wpList_append_own _ rfl _ _ 39 rfl w3.heap.size 25 i0 (.slice none 0 0) 1 24 Try.underlying39 hi hz0 hz1 hz2 rfl (by decide) _ GL.length xs9 rfl (hrow.alloc _) ⟨w6.heap.size, 0, none⟩ 1 1 [.slice aL n4 cL] rfl rfl (cell_one_new _ _ _) (by simp [Value.oneCell']) hL1 hL2 (by simp; omega) ?_)
          intro v7 w7 hown' hgrow _
          obtain ⟨hc7, _, hb7⟩ := Chs.push (z := R4.take n4) hsz6 hrow hch9 (by rw [HLZ.out]; exact HL6.out) hown' hgrow
          have HGOT : Hid (Chs w7 w3.heap.size v7 (splF l m b len X1)) := by
            show Chs _ _ _ _
            rw [HSPL.out, if_neg (by intro e; have h9 := HLZ.out; rw [e] at h9; simp at h9; omega)]
            exact hc7
          have HBTF : Hid (But1 g w3 w7) := ⟨HBT6.out.bel.trans (hb7.mono (Nat.zero_le _)), fun i hi hne => (hb7.block i hi).trans (HBT6.out.same i hi hne)⟩
          clear hown' hgrow hc7 hb7 hrow hch9 hi hz0 hz1 hz2
          have HSM : Hid (∃ ag cg aw cw, v7 = .slice ag (splF l m b len X1).length cg ∧ vW = .slice aw (splF l m b len X1).length cw ∧ Calls Try.prog 26 #[.slice ag (splF l m b len X1).length cg, .slice aw (splF l m b len X1).length cw] w7 fun e w' => e = .returned (.bool true) ∧ Below w7.heap.size w7 w') := by
            have hsl : (splF l m b len X1).length ≤ 1048576 := by have h1 := spl_len (l := l) (m := m) (b := b) len X1; rw [← HL.out] at h1; omega
            have hsf : ∀ c ∈ splF l m b len X1, ∀ z ∈ c, 0 ≤ z ∧ z ≤ 255 := fun c hc z hz => HF1.out z (spl_mem len X1 c hc z hz)
            obtain ⟨ag, cg, e1, c1⟩ := HGOT.out.cs hsl hsf
            obtain ⟨aw, cw, e2, c2⟩ := (HCW.out.but HK.out HBTF.out).cs hsl hsf
            exact ⟨ag, cg, aw, cw, e1, e2, same_eq ag aw cg cw _ w7 c1 c2⟩
          obtain ⟨ag, cg, aw, cw, e1, e2, hsm⟩ := HSM.out
          subst e1 e2
          have HBF := hid (HB3.out.trans (HBTF.out.below HB3.out.size HG.out))
          have HSF := hid hsm
          clear hsm HSM HGOT HCW
          generalize (splF l m b len X1).length = nl at *
          go_wp2_with fail
          refine HSF.out.mono ?_
          rintro _ w9 ⟨rfl, hb9⟩
          have HB9 := hid (Bn HBF.out hb9)
          clear hb9 HSF HBF
          go_wp2_with fail
          go_ret
          exact ⟨rfl, HB9.out⟩

set_option maxRecDepth 100000 in
theorem lifted (os : Os) (started : os.Started) (H : Type) (enc : TypeId × Value → H) :
    ReturnsInHanded {} Try.checked os 6 .any (Rows.rollPiecesSpec.pre6 enc Try.prog Try.f6 Rows.rollPiecesRow.domain false) (Rows.rollPiecesSpec.post enc Try.prog Try.f6 false true false false) := by
  refine returnsInHanded_of_change (C := Try.checked) own started (by kernel_rfl) Try.func6
    (ChangeSpec.witness6 (enc := enc) (C := Try.checked) false ⟨#[], #[.agg #[.int .i64 0, .int .i64 0, .int .i64 0], .slice none 0 0, .slice none 0 0], []⟩ 8 (by kernel_rfl) (by kernel_rfl) (by kernel_rfl) (by kernel_rfl)) ?_
  intro W base args ds gs before hval0 hW _ _
  have hval : ∀ (j : Nat) t v, Try.f6.params[j]? = some t → args[j]? = some v → Value.okWide Try.prog W .any base t v := hval0
  have hW' := hW
  obtain ⟨p, q, hA0, hV, rfl, _, _⟩ := hW
  have hA : DataW.TrodAll enc Try.prog W 0 (fun _ => true) true Try.f6.params.toList args.toList ds p := hA0
  rw [Try.params6] at hA hval
  obtain ⟨v0, vs0, d0, ds0, p0, q0, hargs, rfl, rfl, h0, r0⟩ := trodAll_cons hA
  obtain ⟨v1, vs1, d1, ds1, p1, q1, rfl, rfl, rfl, h1, r1⟩ := trodAll_cons r0
  obtain ⟨v2, vs2, d2, ds2, p2, q2, rfl, rfl, rfl, h2, r2⟩ := trodAll_cons r1
  obtain ⟨rfl, rfl, rfl⟩ := trodAll_nil r2
  obtain rfl : args = #[v0, v1, v2] := by cases args; simp_all
  obtain ⟨rfl, rfl⟩ := trodVars_none hV
  clear hA0
  simp only [List.append_nil] at hW'
  have hlt0 : ∀ x ∈ p0, x.block < W.heap.size := fun x hx => hW'.lt x (by simp [hx])
  have hk0 := h0
  obtain ⟨l0, m0, b0, rfl⟩ := open_conf (hval 0 23 v0 rfl rfl) h0
  have hlt1 : ∀ x ∈ p1, x.block < W.heap.size := fun x hx => hW'.lt x (by simp [hx])
  have hk1 := h1
  obtain ⟨a1, cap1, zs1, rfl, hr1⟩ := open_ri Try.underlying25 Try.underlying5 Try.cells5 (hval 1 25 v1 rfl rfl) h1 hlt1
  have hlt2 : ∀ x ∈ p2, x.block < W.heap.size := fun x hx => hW'.lt x (by simp [hx])
  have hk2 := h2
  obtain ⟨a2, cap2, zs2, rfl, hr2⟩ := open_ri Try.underlying25 Try.underlying5 Try.cells5 (hval 2 25 v2 rfl rfl) h2 hlt2
  clear hval0
  refine (walk l0 m0 b0 a1 cap1 zs1 a2 cap2 zs2 W hr1 hr2).mono fun e W' ⟨he, hb⟩ => ?_
  subst he
  exact ⟨_, rfl, _, _, _, [] ++ [], _, [], hW', trodAll_cons_mk (shut_bool Try.underlying4 _) trodAll_mk0, (trodAll_cons_mk (Below.trod Try.laidOut (by kernel_rfl) (of_decide_eq_true (by kernel_rfl)) hk0 hb hlt0) (trodAll_cons_mk (Below.trod Try.laidOut (by kernel_rfl) (of_decide_eq_true (by kernel_rfl)) hk1 hb hlt1) (trodAll_cons_mk (Below.trod Try.laidOut (by kernel_rfl) (of_decide_eq_true (by kernel_rfl)) hk2 hb hlt2) trodAll_mk0))), rfl, hb.frame _, fun h => by cases h⟩

theorem over : Rows.rollPiecesRow.holds Try.pinned (OpenSpec.ofChange Rows.rollPiecesSpec) :=
  OpenClaim.holds_of_wide 6 Try.f6 rfl rfl rfl rfl rfl rfl rfl ⟨rfl, rfl, rfl, rfl, rfl⟩ rfl rfl rfl rfl rfl (by kernel_rfl) Try.func6 (by kernel_rfl)
    (of_decide_eq_true (by kernel_rfl)) (by unfold Func.isWrapper; first | (rw [if_pos (by decide +kernel)]; kernel_rfl) | (rw [if_neg (by decide +kernel)]; exact ⟨rfl, rfl⟩))
    (fun os started H enc _ => lifted os started H enc)

end Go.Proofs.Ytcapkkldjgmhfaa.rollPieces
namespace Go.Proofs.Ytcapkkldjgmhfaa
theorem rollPieces_holds : Rows.RollPiecesSaid := rollPieces.over
#print axioms rollPieces_holds
end Go.Proofs.Ytcapkkldjgmhfaa
