/-
  An act of the law's script: kind 2.
-/
import Derived.Test.YtldgiimkkgmgaaaPart11
namespace Go.Proofs.Ytldgiimkkgmgaaa
open Go.RowKit

set_option maxHeartbeats 6400000 in
set_option maxRecDepth 100000 in
theorem ac2 (W0 w : World) (base gd gv gl gn N : Nat) (v : Value) (n : Nat) (L1 : Int → List Int) (O1 : List (Int × List Int)) (f : Int) (gr : Nat) (vL vW : Value) (L2 : Int → List Int) (O2 : List (Int × List Int)) (x : OpZ) (ab : Option Addr) (cb : Nat) (ak : Option Addr) (ck : Nat) (h0 : W0.heap.size = base) (hb : Below base W0 w) (hx : OpR W0 x ab cb ak ck) (kd : Dv w base gd gv gl gn v N (n : Int) L1 O1 f) (kr : Rv w base gr vL vW n L2 O2 f) (hN : N + O1.length + 1 ≤ 1000000) (h1 : O1.length ≤ 60000) (h2 : O2.length ≤ 60000) (hk : x.kind = 2) :
    Calls Try.prog 11 #[.pointer (some ⟨gd, 0, none⟩), .pointer (some ⟨gr, 0, none⟩), .agg (opV x ab cb ak ck).toArray] w (AcPost base N n L1 O1 L2 O2 f x w) := by
  have HO : Hid (N + O1.length + 1 ≤ 1000000 ∧ O1.length ≤ 60000 ∧ O2.length ≤ 60000) := ⟨hN, h1, h2⟩
  clear hN h1 h2
  obtain ⟨kind, i, at_, torn, mask, b, keep⟩ := x
  obtain ⟨⟨ok1, ok2, ok3, ok4, ok5⟩, hB, hKp⟩ := hx
  simp only [] at hk ok1 ok2 ok3 ok4 ok5 hB hKp
  unfold opV
  simp only []
  subst hk
  have HX : Hid (W0.heap.size = base) := h0
  have HD := hid kd
  have HR := hid kr
  have HBB := hid hB
  have HKP := hid hKp
  have HBW := hid hb
  have hbz := kd.size
  have HOK : Hid (okI i ∧ okI at_ ∧ okI torn ∧ (0 ≤ mask ∧ mask ≤ 255)) := ⟨ok2, ok3, ok4, ok5⟩
  clear h0 kd kr hB hKp hb ok2 ok3 ok4 ok5
  obtain ⟨nb, hnb⟩ : ∃ m, m = b.length := ⟨_, rfl⟩
  obtain ⟨nk, hnk⟩ : ∃ m, m = keep.length := ⟨_, rfl⟩
  have HNB := hid hnb
  have HNK := hid hnk
  rw [← hnb, ← hnk]
  clear hnb hnk
  have HCUT : Hid (∀ W, Below base W0 W → Calls Try.prog 16 #[.slice ab nb cb] W (fun e w' => e = .returned (.slice ab (b.take 600).length cb) ∧ w' = W)) := fun W hW => by
    have h9 := cut_any ab cb b W (HBB.out.later (by rw [HX.out]; exact hW))
    rw [← HNB.out] at h9
    exact h9
  have HTK : Hid (Ri W0 .u8 ab cb (b.take 600)) := HBB.out.take 600
  obtain ⟨bt, hbt⟩ : ∃ l, l = b.take 600 := ⟨_, rfl⟩
  have HBT := hid hbt
  rw [← hbt] at HCUT HTK
  clear hbt
  obtain ⟨nt, hnt⟩ : ∃ m, m = bt.length := ⟨_, rfl⟩
  have HNT := hid hnt
  rw [← hnt] at HCUT
  clear hnt
  go_enter Try.func11, Try.ntmps11
  go_wp2_with fail
  have HA : Hid (Below w.heap.size w (w.alloc (.cells #[.int .i64 2, .int .i64 i, .int .i64 at_, .int .i64 torn, .int .u8 mask, .slice ab nb cb, .slice ak nk ck] 36))) := bel_alloc w _
  have HG : Hid ((w.alloc (.cells #[.int .i64 2, .int .i64 i, .int .i64 at_, .int .i64 torn, .int .u8 mask, .slice ab nb cb, .slice ak nk ck] 36)).heap[w.heap.size]? = some (.cells #[.int .i64 2, .int .i64 i, .int .i64 at_, .int .i64 torn, .int .u8 mask, .slice ab nb cb, .slice ak nk ck] 36 (0, 0))) := heap_new w _
  refine (HCUT.out _ (HBW.out.trans (HA.out.mono hbz))).mono ?_
  rintro _ w1 ⟨rfl, hw⟩
  obtain rfl := hw
  have hg := HG.out
  have HA1 : Hid (Below w.heap.size w ((w.alloc (.cells #[.int .i64 2, .int .i64 i, .int .i64 at_, .int .i64 torn, .int .u8 mask, .slice ab nb cb, .slice ak nk ck] 36)).setCell ⟨w.heap.size, 5, none⟩ (.slice ab nt cb))) := HA.out.setCell (Nat.le_refl _) _
  have hset : ((w.alloc (.cells #[.int .i64 2, .int .i64 i, .int .i64 at_, .int .i64 torn, .int .u8 mask, .slice ab nb cb, .slice ak nk ck] 36)).setCell ⟨w.heap.size, 5, none⟩ (.slice ab nt cb)).heap[w.heap.size]? = some (.cells #[.int .i64 2, .int .i64 i, .int .i64 at_, .int .i64 torn, .int .u8 mask, .slice ab nt cb, .slice ak nk ck] 36 (0, 0)) := by
    rw [Joins.block_setCell HG.out _]
    simp
  have HFB := hid (Fb.below HA1.out hbz)
  have HD1 := hid (HD.out.below HA1.out)
  have HR1 := hid (HR.out.below HA1.out)
  have HW1 := hid (HBW.out.trans (HA1.out.mono hbz))
  clear HA HA1 HG HD HR HBW HCUT
  generalize w.alloc (.cells #[.int .i64 2, .int .i64 i, .int .i64 at_, .int .i64 torn, .int .u8 mask, .slice ab nb cb, .slice ak nk ck] 36) = v0 at *
  generalize w.heap.size = g0 at *
  have c0 := Joins.cell_of_block hg 0
  have c1 := Joins.cell_of_block hg 1
  have c5 := Joins.cell_of_block hg 5
  have hu := Joins.unfrozen_of_block hg 5
  have x0 := Joins.cell_of_block hset 0
  have x1 := Joins.cell_of_block hset 1
  have x2 := Joins.cell_of_block hset 2
  have x3 := Joins.cell_of_block hset 3
  have x4 := Joins.cell_of_block hset 4
  have x5 := Joins.cell_of_block hset 5
  have x6 := Joins.cell_of_block hset 6
  have HS := hid hset
  clear hg hset
  by_cases hi : 0 ≤ i ∧ i < (n : Int)
  · have HRE := hid (read_ok _ _ _ _ _ _ _ _ L1 O1 f i _ HD1.out hi)
    unfold ReaPost at HRE
    go_wp2_with fail
    generalize v0.setCell ⟨g0, 5, none⟩ (.slice ab nt cb) = v1 at *
    refine HRE.out.mono ?_
    rintro _ w2 ⟨g, rfl, hg2, _, hb2⟩
    have HD2 := hid (HD1.out.below hb2)
    have HR2 := hid (HR1.out.below hb2)
    have HF2 := hid (HFB.out.trans (Fb.below hb2 HD1.out.size))
    have HS2 := hid ((hb2.block g0 (Array.getElem?_eq_some_iff.1 HS.out).1).trans HS.out)
    have HRR := hid (rread_ref _ _ _ _ _ L2 O2 f i w2 HR2.out hi HO.out.2.2)
    unfold RrPost at HRR
    have HK1 : Hid (Blk (holdF L1 O1 i)) := holdF_blk HD2.out.okL (fun x hx => (HD2.out.okO x hx).1) i
    have y1 := Joins.cell_of_block HS2.out 1
    clear HRE hb2 HD1 HR1 HFB HS x0 x1 x2 x3 x4 x5 x6 c0 c1 c5 hu
    go_wp2_with fail
    refine HRR.out.mono ?_
    rintro _ w3 ⟨v3, rfl, hk3, ⟨g3, c3, rfl, _⟩, hb3⟩
    have hri1 := (ri_arr hg2 HK1.out).later hb3
    obtain ⟨g4, c4, e4, hri2⟩ := hk3.ri
    cases e4
    have hs1 := hri1.str
    have hs2 := hri2.str
    rw [HK1.out.len] at hs1
    rw [hk3.blk.len] at hs2
    have HD3 := hid (HD2.out.below hb3)
    have HR3 := hid (HR2.out.below hb3)
    have HF3 := hid (HF2.out.trans (Fb.below hb3 HD2.out.size))
    have HEQ : Hid (L1 = L2 → O1 = O2 → strOfNums (holdF L1 O1 i) = strOfNums (holdF L2 O2 i)) := by
      intro a9 b9; rw [a9, b9]
    clear hri1 hri2 hk3 hb3 HRR HD2 HR2 HF2 HS2 HK1 hg2 y1
    generalize strOfNums (holdF L1 O1 i) = t1 at *
    generalize strOfNums (holdF L2 O2 i) = t2 at *
    by_cases ht : t1.toList = t2.toList
    · go_wp2_with fail
      go_ret3
      unfold AcPost
      exact ⟨gd, gv, gl, gn, v, gr, vL, vW, true, rfl, HD3.out.mono (by omega), HR3.out, fun _ _ => rfl, HF3.out⟩
    · have HX9 : Hid (L1 = L2 → O1 = O2 → False) := by
        intro a9 b9
        have h9 := HEQ.out a9 b9
        subst h9
        exact ht rfl
      go_wp2_with fail
      go_ret3
      unfold AcPost
      exact ⟨gd, gv, gl, gn, v, gr, vL, vW, false, rfl, HD3.out.mono (by omega), HR3.out, fun a9 b9 => (HX9.out a9 b9).elim, HF3.out⟩
  · have HRE := hid (read_range _ _ i _ _ _ _ f _ HD1.out.dsk HD1.out.dev hi)
    have HRR := hid (rread_range _ _ _ _ _ L2 O2 f i _ HR1.out hi)
    have hs1 := (show Ri (v0.setCell ⟨g0, 5, none⟩ (.slice ab nt cb)) .u8 none 0 [] from ⟨Nat.le_refl _, by unfold maxLen; omega, fun h => absurd h (by simp), fun j => by simp; exact wf_zero _⟩).str
    simp only [List.length_nil] at hs1
    go_wp2_with fail
    generalize v0.setCell ⟨g0, 5, none⟩ (.slice ab nt cb) = v1 at *
    refine HRE.out.mono ?_
    rintro _ w2 ⟨rfl, hw⟩
    obtain rfl := hw.symm
    clear hw HRE
    go_wp2_with fail
    refine HRR.out.mono ?_
    rintro _ w2 ⟨rfl, hw⟩
    obtain rfl := hw.symm
    clear hw HRR
    go_wp2_with fail
    go_ret3
    unfold AcPost
    exact ⟨gd, gv, gl, gn, v, gr, vL, vW, true, rfl, HD1.out.mono (by omega), HR1.out, fun _ _ => rfl, HFB.out⟩
end Go.Proofs.Ytldgiimkkgmgaaa
/-
  An act of the law's script: kind 3.
-/
namespace Go.Proofs.Ytldgiimkkgmgaaa
open Go.RowKit

set_option maxHeartbeats 6400000 in
set_option maxRecDepth 100000 in
theorem ac3 (W0 w : World) (base gd gv gl gn N : Nat) (v : Value) (n : Nat) (L1 : Int → List Int) (O1 : List (Int × List Int)) (f : Int) (gr : Nat) (vL vW : Value) (L2 : Int → List Int) (O2 : List (Int × List Int)) (x : OpZ) (ab : Option Addr) (cb : Nat) (ak : Option Addr) (ck : Nat) (h0 : W0.heap.size = base) (hb : Below base W0 w) (hx : OpR W0 x ab cb ak ck) (kd : Dv w base gd gv gl gn v N (n : Int) L1 O1 f) (kr : Rv w base gr vL vW n L2 O2 f) (hN : N + O1.length + 1 ≤ 1000000) (h1 : O1.length ≤ 60000) (h2 : O2.length ≤ 60000) (hk : x.kind = 3) :
    Calls Try.prog 11 #[.pointer (some ⟨gd, 0, none⟩), .pointer (some ⟨gr, 0, none⟩), .agg (opV x ab cb ak ck).toArray] w (AcPost base N n L1 O1 L2 O2 f x w) := by
  have HO : Hid (N + O1.length + 1 ≤ 1000000 ∧ O1.length ≤ 60000 ∧ O2.length ≤ 60000) := ⟨hN, h1, h2⟩
  clear hN h1 h2
  obtain ⟨kind, i, at_, torn, mask, b, keep⟩ := x
  obtain ⟨⟨ok1, ok2, ok3, ok4, ok5⟩, hB, hKp⟩ := hx
  simp only [] at hk ok1 ok2 ok3 ok4 ok5 hB hKp
  unfold opV
  simp only []
  subst hk
  have HX : Hid (W0.heap.size = base) := h0
  have HD := hid kd
  have HR := hid kr
  have HBB := hid hB
  have HKP := hid hKp
  have HBW := hid hb
  have hbz := kd.size
  have HOK : Hid (okI i ∧ okI at_ ∧ okI torn ∧ (0 ≤ mask ∧ mask ≤ 255)) := ⟨ok2, ok3, ok4, ok5⟩
  clear h0 kd kr hB hKp hb ok2 ok3 ok4 ok5
  obtain ⟨nb, hnb⟩ : ∃ m, m = b.length := ⟨_, rfl⟩
  obtain ⟨nk, hnk⟩ : ∃ m, m = keep.length := ⟨_, rfl⟩
  have HNB := hid hnb
  have HNK := hid hnk
  rw [← hnb, ← hnk]
  clear hnb hnk
  have HCUT : Hid (∀ W, Below base W0 W → Calls Try.prog 16 #[.slice ab nb cb] W (fun e w' => e = .returned (.slice ab (b.take 600).length cb) ∧ w' = W)) := fun W hW => by
    have h9 := cut_any ab cb b W (HBB.out.later (by rw [HX.out]; exact hW))
    rw [← HNB.out] at h9
    exact h9
  have HTK : Hid (Ri W0 .u8 ab cb (b.take 600)) := HBB.out.take 600
  obtain ⟨bt, hbt⟩ : ∃ l, l = b.take 600 := ⟨_, rfl⟩
  have HBT := hid hbt
  rw [← hbt] at HCUT HTK
  clear hbt
  obtain ⟨nt, hnt⟩ : ∃ m, m = bt.length := ⟨_, rfl⟩
  have HNT := hid hnt
  rw [← hnt] at HCUT
  clear hnt
  go_enter Try.func11, Try.ntmps11
  go_wp2_with fail
  have HA : Hid (Below w.heap.size w (w.alloc (.cells #[.int .i64 3, .int .i64 i, .int .i64 at_, .int .i64 torn, .int .u8 mask, .slice ab nb cb, .slice ak nk ck] 36))) := bel_alloc w _
  have HG : Hid ((w.alloc (.cells #[.int .i64 3, .int .i64 i, .int .i64 at_, .int .i64 torn, .int .u8 mask, .slice ab nb cb, .slice ak nk ck] 36)).heap[w.heap.size]? = some (.cells #[.int .i64 3, .int .i64 i, .int .i64 at_, .int .i64 torn, .int .u8 mask, .slice ab nb cb, .slice ak nk ck] 36 (0, 0))) := heap_new w _
  refine (HCUT.out _ (HBW.out.trans (HA.out.mono hbz))).mono ?_
  rintro _ w1 ⟨rfl, hw⟩
  obtain rfl := hw
  have hg := HG.out
  have HA1 : Hid (Below w.heap.size w ((w.alloc (.cells #[.int .i64 3, .int .i64 i, .int .i64 at_, .int .i64 torn, .int .u8 mask, .slice ab nb cb, .slice ak nk ck] 36)).setCell ⟨w.heap.size, 5, none⟩ (.slice ab nt cb))) := HA.out.setCell (Nat.le_refl _) _
  have hset : ((w.alloc (.cells #[.int .i64 3, .int .i64 i, .int .i64 at_, .int .i64 torn, .int .u8 mask, .slice ab nb cb, .slice ak nk ck] 36)).setCell ⟨w.heap.size, 5, none⟩ (.slice ab nt cb)).heap[w.heap.size]? = some (.cells #[.int .i64 3, .int .i64 i, .int .i64 at_, .int .i64 torn, .int .u8 mask, .slice ab nt cb, .slice ak nk ck] 36 (0, 0)) := by
    rw [Joins.block_setCell HG.out _]
    simp
  have HFB := hid (Fb.below HA1.out hbz)
  have HD1 := hid (HD.out.below HA1.out)
  have HR1 := hid (HR.out.below HA1.out)
  have HW1 := hid (HBW.out.trans (HA1.out.mono hbz))
  clear HA HA1 HG HD HR HBW HCUT
  generalize w.alloc (.cells #[.int .i64 3, .int .i64 i, .int .i64 at_, .int .i64 torn, .int .u8 mask, .slice ab nb cb, .slice ak nk ck] 36) = v0 at *
  generalize w.heap.size = g0 at *
  have c0 := Joins.cell_of_block hg 0
  have c1 := Joins.cell_of_block hg 1
  have c5 := Joins.cell_of_block hg 5
  have hu := Joins.unfrozen_of_block hg 5
  have x0 := Joins.cell_of_block hset 0
  have x1 := Joins.cell_of_block hset 1
  have x2 := Joins.cell_of_block hset 2
  have x3 := Joins.cell_of_block hset 3
  have x4 := Joins.cell_of_block hset 4
  have x5 := Joins.cell_of_block hset 5
  have x6 := Joins.cell_of_block hset 6
  have HS := hid hset
  clear hg hset
  have HSY := hid (sync_ok _ _ _ _ _ _ _ _ L1 O1 f _ HD1.out HO.out.1)
  unfold SynPost at HSY
  go_wp2_with fail
  generalize v0.setCell ⟨g0, 5, none⟩ (.slice ab nt cb) = v1 at *
  refine HSY.out.mono ?_
  rintro _ w2 ⟨rfl, ⟨v2, hd2⟩, hf2⟩
  have HR2 := hid (HR1.out.code hf2)
  have HD2 := hid hd2
  have HF2 := hid (HFB.out.trans hf2.fb)
  have HRS := hid (rsync_ref _ _ _ _ _ L2 O2 f w2 HR2.out HO.out.2.2)
  unfold RsPost at HRS
  clear HSY hd2 hf2 HD1 HR1 HFB HS x0 x1 x2 x3 x4 x5 x6 c0 c1 c5 hu
  go_wp2_with fail
  refine HRS.out.mono ?_
  rintro _ w3 ⟨rfl, ⟨vW3, hr3⟩, hf3⟩
  have HD3 := hid (HD2.out.doc hf3)
  have HR3 := hid hr3
  have HF3 := hid (HF2.out.trans hf3.fb)
  have HEQ : Hid (L1 = L2 → O1 = O2 → (syN f O1 : Int) = (syN f O2 : Int)) := fun _ b9 => by rw [b9]
  clear HRS hr3 hf3 HD2 HR2 HF2
  generalize (syN f O1 : Int) = t1 at *
  generalize (syN f O2 : Int) = t2 at *
  by_cases ht : t1 = t2
  · subst ht
    go_wp2_with fail
    go_ret3
    unfold AcPost
    exact ⟨gd, gv, gl, gn, v2, gr, vL, vW3, true, rfl, HD3.out.mono (by omega), HR3.out, fun _ _ => rfl, HF3.out⟩
  · have ht2 : (t1 == t2) = false := by simpa using ht
    go_wp2_with fail
    go_ret3
    unfold AcPost
    exact ⟨gd, gv, gl, gn, v2, gr, vL, vW3, false, rfl, HD3.out.mono (by omega), HR3.out, fun a9 b9 => absurd (HEQ.out a9 b9) ht, HF3.out⟩
end Go.Proofs.Ytldgiimkkgmgaaa
/-
  An act of the law's script: kind 4.
-/
namespace Go.Proofs.Ytldgiimkkgmgaaa
open Go.RowKit

set_option maxHeartbeats 6400000 in
set_option maxRecDepth 100000 in
theorem ac4 (W0 w : World) (base gd gv gl gn N : Nat) (v : Value) (n : Nat) (L1 : Int → List Int) (O1 : List (Int × List Int)) (f : Int) (gr : Nat) (vL vW : Value) (L2 : Int → List Int) (O2 : List (Int × List Int)) (x : OpZ) (ab : Option Addr) (cb : Nat) (ak : Option Addr) (ck : Nat) (h0 : W0.heap.size = base) (hb : Below base W0 w) (hx : OpR W0 x ab cb ak ck) (kd : Dv w base gd gv gl gn v N (n : Int) L1 O1 f) (kr : Rv w base gr vL vW n L2 O2 f) (hN : N + O1.length + 1 ≤ 1000000) (h1 : O1.length ≤ 60000) (h2 : O2.length ≤ 60000) (hk : x.kind = 4) :
    Calls Try.prog 11 #[.pointer (some ⟨gd, 0, none⟩), .pointer (some ⟨gr, 0, none⟩), .agg (opV x ab cb ak ck).toArray] w (AcPost base N n L1 O1 L2 O2 f x w) := by
  have HO : Hid (N + O1.length + 1 ≤ 1000000 ∧ O1.length ≤ 60000 ∧ O2.length ≤ 60000) := ⟨hN, h1, h2⟩
  clear hN h1 h2
  obtain ⟨kind, i, at_, torn, mask, b, keep⟩ := x
  obtain ⟨⟨ok1, ok2, ok3, ok4, ok5⟩, hB, hKp⟩ := hx
  simp only [] at hk ok1 ok2 ok3 ok4 ok5 hB hKp
  unfold opV
  simp only []
  subst hk
  have HX : Hid (W0.heap.size = base) := h0
  have HD := hid kd
  have HR := hid kr
  have HBB := hid hB
  have HKP := hid hKp
  have HBW := hid hb
  have hbz := kd.size
  have HOK : Hid (okI i ∧ okI at_ ∧ okI torn ∧ (0 ≤ mask ∧ mask ≤ 255)) := ⟨ok2, ok3, ok4, ok5⟩
  clear h0 kd kr hB hKp hb ok2 ok3 ok4 ok5
  obtain ⟨nb, hnb⟩ : ∃ m, m = b.length := ⟨_, rfl⟩
  obtain ⟨nk, hnk⟩ : ∃ m, m = keep.length := ⟨_, rfl⟩
  have HNB := hid hnb
  have HNK := hid hnk
  rw [← hnb, ← hnk]
  clear hnb hnk
  have HCUT : Hid (∀ W, Below base W0 W → Calls Try.prog 16 #[.slice ab nb cb] W (fun e w' => e = .returned (.slice ab (b.take 600).length cb) ∧ w' = W)) := fun W hW => by
    have h9 := cut_any ab cb b W (HBB.out.later (by rw [HX.out]; exact hW))
    rw [← HNB.out] at h9
    exact h9
  have HTK : Hid (Ri W0 .u8 ab cb (b.take 600)) := HBB.out.take 600
  obtain ⟨bt, hbt⟩ : ∃ l, l = b.take 600 := ⟨_, rfl⟩
  have HBT := hid hbt
  rw [← hbt] at HCUT HTK
  clear hbt
  obtain ⟨nt, hnt⟩ : ∃ m, m = bt.length := ⟨_, rfl⟩
  have HNT := hid hnt
  rw [← hnt] at HCUT
  clear hnt
  go_enter Try.func11, Try.ntmps11
  go_wp2_with fail
  have HA : Hid (Below w.heap.size w (w.alloc (.cells #[.int .i64 4, .int .i64 i, .int .i64 at_, .int .i64 torn, .int .u8 mask, .slice ab nb cb, .slice ak nk ck] 36))) := bel_alloc w _
  have HG : Hid ((w.alloc (.cells #[.int .i64 4, .int .i64 i, .int .i64 at_, .int .i64 torn, .int .u8 mask, .slice ab nb cb, .slice ak nk ck] 36)).heap[w.heap.size]? = some (.cells #[.int .i64 4, .int .i64 i, .int .i64 at_, .int .i64 torn, .int .u8 mask, .slice ab nb cb, .slice ak nk ck] 36 (0, 0))) := heap_new w _
  refine (HCUT.out _ (HBW.out.trans (HA.out.mono hbz))).mono ?_
  rintro _ w1 ⟨rfl, hw⟩
  obtain rfl := hw
  have hg := HG.out
  have HA1 : Hid (Below w.heap.size w ((w.alloc (.cells #[.int .i64 4, .int .i64 i, .int .i64 at_, .int .i64 torn, .int .u8 mask, .slice ab nb cb, .slice ak nk ck] 36)).setCell ⟨w.heap.size, 5, none⟩ (.slice ab nt cb))) := HA.out.setCell (Nat.le_refl _) _
  have hset : ((w.alloc (.cells #[.int .i64 4, .int .i64 i, .int .i64 at_, .int .i64 torn, .int .u8 mask, .slice ab nb cb, .slice ak nk ck] 36)).setCell ⟨w.heap.size, 5, none⟩ (.slice ab nt cb)).heap[w.heap.size]? = some (.cells #[.int .i64 4, .int .i64 i, .int .i64 at_, .int .i64 torn, .int .u8 mask, .slice ab nt cb, .slice ak nk ck] 36 (0, 0)) := by
    rw [Joins.block_setCell HG.out _]
    simp
  have HFB := hid (Fb.below HA1.out hbz)
  have HD1 := hid (HD.out.below HA1.out)
  have HR1 := hid (HR.out.below HA1.out)
  have HW1 := hid (HBW.out.trans (HA1.out.mono hbz))
  clear HA HA1 HG HD HR HBW HCUT
  generalize w.alloc (.cells #[.int .i64 4, .int .i64 i, .int .i64 at_, .int .i64 torn, .int .u8 mask, .slice ab nb cb, .slice ak nk ck] 36) = v0 at *
  generalize w.heap.size = g0 at *
  have c0 := Joins.cell_of_block hg 0
  have c1 := Joins.cell_of_block hg 1
  have c5 := Joins.cell_of_block hg 5
  have hu := Joins.unfrozen_of_block hg 5
  have x0 := Joins.cell_of_block hset 0
  have x1 := Joins.cell_of_block hset 1
  have x2 := Joins.cell_of_block hset 2
  have x3 := Joins.cell_of_block hset 3
  have x4 := Joins.cell_of_block hset 4
  have x5 := Joins.cell_of_block hset 5
  have x6 := Joins.cell_of_block hset 6
  have HS := hid hset
  clear hg hset
  have HLO := hid (lose_ok _ _ _ _ _ _ _ _ L1 O1 f ak ck keep torn at_ _ HD1.out (Kx.low HKP.out HX.out HW1.out) HOK.out.2.1 HO.out.1)
  unfold LosPost at HLO
  rw [← HNK.out] at HLO
  go_wp2_with fail
  generalize v0.setCell ⟨g0, 5, none⟩ (.slice ab nt cb) = v1 at *
  refine HLO.out.mono ?_
  rintro _ w2 ⟨gd2, gv2, gn2, rfl, hd2, hdn, hf2⟩
  have HR2 := hid (HR1.out.code hf2)
  have HD2 := hid hd2
  have HDN := hid hdn
  have HF2 := hid (HFB.out.trans hf2.fb)
  have HS2 := hid (hf2.typ _ _ 36 _ (by decide) (by decide) HS.out)
  have HW2 := hid (HW1.out.trans hf2.bel)
  have HRL := hid (rlose_ref _ _ _ _ _ L2 O2 f ak ck keep torn at_ w2 HR2.out (KxD.low HKP.out HX.out HW2.out) HOK.out.2.1 HO.out.2.2)
  unfold RlPost at HRL
  rw [← HNK.out] at HRL
  have y2 := Joins.cell_of_block HS2.out 2
  have y3 := Joins.cell_of_block HS2.out 3
  have y6 := Joins.cell_of_block HS2.out 6
  clear HLO hd2 hdn hf2 HD1 HR1 HFB HS HW1 HS2 x0 x1 x2 x3 x4 x5 x6 c0 c1 c5 hu
  go_wp2_with fail
  refine HRL.out.mono ?_
  rintro _ w3 ⟨gx, vX, rfl, hr3, hf3⟩
  have HD3 := hid (HD2.out.doc hf3)
  have HR3 := hid hr3
  have HF3 := hid (HF2.out.trans hf3.fb)
  have hk3 : Dk w3 gd gv := hf3.cells HDN.out.1 (by decide)
  have hc3 : Dc w3 gv (n : Int) (.map none) (.slice none 0 0) (.map none) 0 true := hf3.cells HDN.out.2 (by decide)
  have HE1 := hid (read_e (.pointer (some ⟨gd, 0, none⟩)) 0 91 w3 (by decide) (up_down gd gv _ _ _ _ _ w3 hk3 hc3))
  have HE2 := hid (down_ok gd gv _ _ _ _ _ true w3 hk3 hc3)
  have HE3 := hid (open_ok gd gv _ _ none 0 0 _ _ true w3 hk3 hc3)
  clear HRL hr3 hf3 HD2 HR2 HF2 HDN HW2 y2 y3 y6 hk3 hc3
  go_wp2_with fail
  refine HE1.out.mono ?_
  rintro _ w4 ⟨rfl, hw⟩
  obtain rfl := hw.symm
  clear hw HE1
  go_wp2_with fail
  refine HE2.out.mono ?_
  rintro _ w4 ⟨rfl, hw⟩
  obtain rfl := hw.symm
  clear hw HE2
  go_wp2_with fail
  refine HE3.out.mono ?_
  rintro _ w4 ⟨rfl, hw⟩
  obtain rfl := hw.symm
  clear hw HE3
  go_wp2_with fail
  go_ret3
  unfold AcPost
  exact ⟨gd2, gv2, gl, gn2, _, gx, vX, _, true, rfl, HD3.out.mono (by omega), HR3.out, fun _ _ => rfl, HF3.out⟩
end Go.Proofs.Ytldgiimkkgmgaaa
