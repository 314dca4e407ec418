/-
  An act of the law's script: kind 5.
-/
import Derived.Test.YtldgiimkkgmgaaaPart11
namespace Go.Proofs.Ytldgiimkkgmgaaa
open Go.RowKit

set_option maxHeartbeats 6400000 in
set_option maxRecDepth 100000 in
theorem ac5 (W0 w : World) (base gd gv gl gn N : Nat) (v : Value) (n : Nat) (L1 : Int → List Int) (O1 : List (Int × List Int)) (f : Int) (gr : Nat) (vL vW : Value) (L2 : Int → List Int) (O2 : List (Int × List Int)) (x : OpZ) (ab : Option Addr) (cb : Nat) (ak : Option Addr) (ck : Nat) (h0 : W0.heap.size = base) (hb : Below base W0 w) (hx : OpR W0 x ab cb ak ck) (kd : Dv w base gd gv gl gn v N (n : Int) L1 O1 f) (kr : Rv w base gr vL vW n L2 O2 f) (hN : N + O1.length + 1 ≤ 1000000) (h1 : O1.length ≤ 60000) (h2 : O2.length ≤ 60000) (hk : x.kind = 5) :
    Calls Try.prog 11 #[.pointer (some ⟨gd, 0, none⟩), .pointer (some ⟨gr, 0, none⟩), .agg (opV x ab cb ak ck).toArray] w (AcPost base N n L1 O1 L2 O2 f x w) := by
  have HO : Hid (N + O1.length + 1 ≤ 1000000 ∧ O1.length ≤ 60000 ∧ O2.length ≤ 60000) := ⟨hN, h1, h2⟩
  clear hN h1 h2
  obtain ⟨kind, i, at_, torn, mask, b, keep⟩ := x
  obtain ⟨⟨ok1, ok2, ok3, ok4, ok5⟩, hB, hKp⟩ := hx
  simp only [] at hk ok1 ok2 ok3 ok4 ok5 hB hKp
  unfold opV
  simp only []
  subst hk
  have HX : Hid (W0.heap.size = base) := h0
  have HD := hid kd
  have HR := hid kr
  have HBB := hid hB
  have HKP := hid hKp
  have HBW := hid hb
  have hbz := kd.size
  have HOK : Hid (okI i ∧ okI at_ ∧ okI torn ∧ (0 ≤ mask ∧ mask ≤ 255)) := ⟨ok2, ok3, ok4, ok5⟩
  clear h0 kd kr hB hKp hb ok2 ok3 ok4 ok5
  obtain ⟨nb, hnb⟩ : ∃ m, m = b.length := ⟨_, rfl⟩
  obtain ⟨nk, hnk⟩ : ∃ m, m = keep.length := ⟨_, rfl⟩
  have HNB := hid hnb
  have HNK := hid hnk
  rw [← hnb, ← hnk]
  clear hnb hnk
  have HCUT : Hid (∀ W, Below base W0 W → Calls Try.prog 16 #[.slice ab nb cb] W (fun e w' => e = .returned (.slice ab (b.take 600).length cb) ∧ w' = W)) := fun W hW => by
    have h9 := cut_any ab cb b W (HBB.out.later (by rw [HX.out]; exact hW))
    rw [← HNB.out] at h9
    exact h9
  have HTK : Hid (Ri W0 .u8 ab cb (b.take 600)) := HBB.out.take 600
  obtain ⟨bt, hbt⟩ : ∃ l, l = b.take 600 := ⟨_, rfl⟩
  have HBT := hid hbt
  rw [← hbt] at HCUT HTK
  clear hbt
  obtain ⟨nt, hnt⟩ : ∃ m, m = bt.length := ⟨_, rfl⟩
  have HNT := hid hnt
  rw [← hnt] at HCUT
  clear hnt
  go_enter Try.func11, Try.ntmps11
  go_wp2_with fail
  have HA : Hid (Below w.heap.size w (w.alloc (.cells #[.int .i64 5, .int .i64 i, .int .i64 at_, .int .i64 torn, .int .u8 mask, .slice ab nb cb, .slice ak nk ck] 36))) := bel_alloc w _
  have HG : Hid ((w.alloc (.cells #[.int .i64 5, .int .i64 i, .int .i64 at_, .int .i64 torn, .int .u8 mask, .slice ab nb cb, .slice ak nk ck] 36)).heap[w.heap.size]? = some (.cells #[.int .i64 5, .int .i64 i, .int .i64 at_, .int .i64 torn, .int .u8 mask, .slice ab nb cb, .slice ak nk ck] 36 (0, 0))) := heap_new w _
  refine (HCUT.out _ (HBW.out.trans (HA.out.mono hbz))).mono ?_
  rintro _ w1 ⟨rfl, hw⟩
  obtain rfl := hw
  have hg := HG.out
  have HA1 : Hid (Below w.heap.size w ((w.alloc (.cells #[.int .i64 5, .int .i64 i, .int .i64 at_, .int .i64 torn, .int .u8 mask, .slice ab nb cb, .slice ak nk ck] 36)).setCell ⟨w.heap.size, 5, none⟩ (.slice ab nt cb))) := HA.out.setCell (Nat.le_refl _) _
  have hset : ((w.alloc (.cells #[.int .i64 5, .int .i64 i, .int .i64 at_, .int .i64 torn, .int .u8 mask, .slice ab nb cb, .slice ak nk ck] 36)).setCell ⟨w.heap.size, 5, none⟩ (.slice ab nt cb)).heap[w.heap.size]? = some (.cells #[.int .i64 5, .int .i64 i, .int .i64 at_, .int .i64 torn, .int .u8 mask, .slice ab nt cb, .slice ak nk ck] 36 (0, 0)) := by
    rw [Joins.block_setCell HG.out _]
    simp
  have HFB := hid (Fb.below HA1.out hbz)
  have HD1 := hid (HD.out.below HA1.out)
  have HR1 := hid (HR.out.below HA1.out)
  have HW1 := hid (HBW.out.trans (HA1.out.mono hbz))
  clear HA HA1 HG HD HR HBW HCUT
  generalize w.alloc (.cells #[.int .i64 5, .int .i64 i, .int .i64 at_, .int .i64 torn, .int .u8 mask, .slice ab nb cb, .slice ak nk ck] 36) = v0 at *
  generalize w.heap.size = g0 at *
  have c0 := Joins.cell_of_block hg 0
  have c1 := Joins.cell_of_block hg 1
  have c5 := Joins.cell_of_block hg 5
  have hu := Joins.unfrozen_of_block hg 5
  have x0 := Joins.cell_of_block hset 0
  have x1 := Joins.cell_of_block hset 1
  have x2 := Joins.cell_of_block hset 2
  have x3 := Joins.cell_of_block hset 3
  have x4 := Joins.cell_of_block hset 4
  have x5 := Joins.cell_of_block hset 5
  have x6 := Joins.cell_of_block hset 6
  have HS := hid hset
  clear hg hset
  by_cases hi : 0 ≤ i ∧ i < (n : Int)
  · by_cases ha : 0 ≤ at_ ∧ at_ < 512
    · go_wp2_with fail
      refine wp_region_held_drew (S := fun W => W.heap[g0]? = some (.cells #[.int .i64 5, .int .i64 i, .int .i64 at_, .int .i64 torn, .int .u8 mask, .slice ab nt cb, .slice ak nk ck] 36 (0, 0))) (by kernel_rfl) (show (v0.setCell ⟨g0, 5, none⟩ (.slice ab nt cb)).drew.heap[g0]? = _ from HS.out) (fun hS0 => ?_)
      have HD2 : Hid (Dv (v0.setCell ⟨g0, 5, none⟩ (.slice ab nt cb)).drew base gd gv gl gn v N (n : Int) L1 O1 f) := HD1.out.later (fun _ _ => rfl)
      have HR2 : Hid (Rv (v0.setCell ⟨g0, 5, none⟩ (.slice ab nt cb)).drew base gr vL vW n L2 O2 f) := HR1.out.keep (fun _ _ _ _ _ _ h => h)
      have HF2 := hid HFB.out.drew
      have HW2 := hid HW1.out.drew
      clear HD1 HR1 HFB HW1 HS x0 x1 x2 x3 x4 x5 x6 c0 c1 c5 hu
      generalize (v0.setCell ⟨g0, 5, none⟩ (.slice ab nt cb)).drew = v1 at *
      refine Ord.take (i := 0) (d := 156) (v := ?vk50) rfl rfl (by as_aux_lemma => kernel_rfl) (by as_aux_lemma => kernel_rfl) (by as_aux_lemma => kernel_rfl) (fun _ _ _ h => h) (by rfl) ?hk50 (by assumption) ?_
      case hk50 => intro w hSw; go_simp; try with_reducible rfl
      simp only [List.setIfInBounds_toArray, List.set_cons_zero, List.set_cons_succ]
      refine Ord.take (i := 1) (d := 157) (v := ?vk51) rfl rfl (by as_aux_lemma => kernel_rfl) (by as_aux_lemma => kernel_rfl) (by as_aux_lemma => kernel_rfl) (fun _ _ _ h => h) (by rfl) ?hk51 (by assumption) ?_
      case hk51 => intro w hSw; go_simp; try with_reducible rfl
      simp only [List.setIfInBounds_toArray, List.set_cons_zero, List.set_cons_succ]
      refine Ord.take (i := 2) (d := 158) (v := ?vk52) rfl rfl (by as_aux_lemma => kernel_rfl) (by as_aux_lemma => kernel_rfl) (by as_aux_lemma => kernel_rfl) (fun _ _ _ h => h) (by rfl) ?hk52 (by assumption) ?_
      case hk52 => intro w hSw; go_simp; try with_reducible rfl
      simp only [List.setIfInBounds_toArray, List.set_cons_zero, List.set_cons_succ]
      refine Ord.take (i := 3) (d := 159) (v := ?vk53) rfl rfl (by as_aux_lemma => kernel_rfl) (by as_aux_lemma => kernel_rfl) (by as_aux_lemma => kernel_rfl) (fun _ _ _ h => h) (by rfl) ?hk53 (by assumption) ?_
      case hk53 => intro w hSw; go_simp; try with_reducible rfl
      simp only [List.setIfInBounds_toArray, List.set_cons_zero, List.set_cons_succ]
      refine Ord.take (i := 4) (d := 160) (v := ?vk54) rfl rfl (by as_aux_lemma => kernel_rfl) (by as_aux_lemma => kernel_rfl) (by as_aux_lemma => kernel_rfl) (fun _ _ _ h => h) (by rfl) ?hk54 (by assumption) ?_
      case hk54 => intro w hSw; have q9 := Joins.cell_of_block hSw 1; go_simp; try with_reducible rfl
      simp only [List.setIfInBounds_toArray, List.set_cons_zero, List.set_cons_succ]
      refine Ord.take (i := 5) (d := 161) (v := ?vk55) rfl rfl (by as_aux_lemma => kernel_rfl) (by as_aux_lemma => kernel_rfl) (by as_aux_lemma => kernel_rfl) (fun _ _ _ h => h) (by rfl) ?hk55 (by assumption) ?_
      case hk55 => intro w hSw; go_simp; try with_reducible rfl
      simp only [List.setIfInBounds_toArray, List.set_cons_zero, List.set_cons_succ]
      refine Ord.take (i := 6) (d := 162) (v := ?vk56) rfl rfl (by as_aux_lemma => kernel_rfl) (by as_aux_lemma => kernel_rfl) (by as_aux_lemma => kernel_rfl) (fun _ _ _ h => h) (by rfl) ?hk56 (by assumption) ?_
      case hk56 => intro w hSw; have q9 := Joins.cell_of_block hSw 2; go_simp; try with_reducible rfl
      simp only [List.setIfInBounds_toArray, List.set_cons_zero, List.set_cons_succ]
      refine Ord.take (i := 7) (d := 163) (v := ?vk57) rfl rfl (by as_aux_lemma => kernel_rfl) (by as_aux_lemma => kernel_rfl) (by as_aux_lemma => kernel_rfl) (fun _ _ _ h => h) (by rfl) ?hk57 (by assumption) ?_
      case hk57 => intro w hSw; go_simp; try with_reducible rfl
      simp only [List.setIfInBounds_toArray, List.set_cons_zero, List.set_cons_succ]
      refine Ord.take (i := 8) (d := 164) (v := ?vk58) rfl rfl (by as_aux_lemma => kernel_rfl) (by as_aux_lemma => kernel_rfl) (by as_aux_lemma => kernel_rfl) (fun _ _ _ h => h) (by rfl) ?hk58 (by assumption) ?_
      case hk58 => intro w hSw; have q9 := Joins.cell_of_block hSw 4; go_simp; try with_reducible rfl
      simp only [List.setIfInBounds_toArray, List.set_cons_zero, List.set_cons_succ]
      refine Ord.take (i := 10) (d := 166) (v := ?vk510) rfl rfl (by as_aux_lemma => kernel_rfl) (by as_aux_lemma => kernel_rfl) (by as_aux_lemma => kernel_rfl) (fun _ _ _ h => h) (by rfl) ?hk510 (by assumption) ?_
      case hk510 => intro w hSw; go_simp; try with_reducible rfl
      simp only [List.setIfInBounds_toArray, List.set_cons_zero, List.set_cons_succ]
      refine Ord.take (i := 11) (d := 167) (v := ?vk511) rfl rfl (by as_aux_lemma => kernel_rfl) (by as_aux_lemma => kernel_rfl) (by as_aux_lemma => kernel_rfl) (fun _ _ _ h => h) (by rfl) ?hk511 (by assumption) ?_
      case hk511 => intro w hSw; go_simp; try with_reducible rfl
      simp only [List.setIfInBounds_toArray, List.set_cons_zero, List.set_cons_succ]
      refine Ord.take (i := 12) (d := 168) (v := ?vk512) rfl rfl (by as_aux_lemma => kernel_rfl) (by as_aux_lemma => kernel_rfl) (by as_aux_lemma => kernel_rfl) (fun _ _ _ h => h) (by rfl) ?hk512 (by assumption) ?_
      case hk512 => intro w hSw; have q9 := Joins.cell_of_block hSw 1; go_simp; try with_reducible rfl
      simp only [List.setIfInBounds_toArray, List.set_cons_zero, List.set_cons_succ]
      refine Ord.take (i := 13) (d := 169) (v := ?vk513) rfl rfl (by as_aux_lemma => kernel_rfl) (by as_aux_lemma => kernel_rfl) (by as_aux_lemma => kernel_rfl) (fun _ _ _ h => h) (by rfl) ?hk513 (by assumption) ?_
      case hk513 => intro w hSw; go_simp; try with_reducible rfl
      simp only [List.setIfInBounds_toArray, List.set_cons_zero, List.set_cons_succ]
      refine Ord.take (i := 14) (d := 170) (v := ?vk514) rfl rfl (by as_aux_lemma => kernel_rfl) (by as_aux_lemma => kernel_rfl) (by as_aux_lemma => kernel_rfl) (fun _ _ _ h => h) (by rfl) ?hk514 (by assumption) ?_
      case hk514 => intro w hSw; have q9 := Joins.cell_of_block hSw 2; go_simp; try with_reducible rfl
      simp only [List.setIfInBounds_toArray, List.set_cons_zero, List.set_cons_succ]
      refine Ord.take (i := 15) (d := 171) (v := ?vk515) rfl rfl (by as_aux_lemma => kernel_rfl) (by as_aux_lemma => kernel_rfl) (by as_aux_lemma => kernel_rfl) (fun _ _ _ h => h) (by rfl) ?hk515 (by assumption) ?_
      case hk515 => intro w hSw; go_simp; try with_reducible rfl
      simp only [List.setIfInBounds_toArray, List.set_cons_zero, List.set_cons_succ]
      refine Ord.take (i := 16) (d := 172) (v := ?vk516) rfl rfl (by as_aux_lemma => kernel_rfl) (by as_aux_lemma => kernel_rfl) (by as_aux_lemma => kernel_rfl) (fun _ _ _ h => h) (by rfl) ?hk516 (by assumption) ?_
      case hk516 => intro w hSw; have q9 := Joins.cell_of_block hSw 4; go_simp; try with_reducible rfl
      simp only [List.setIfInBounds_toArray, List.set_cons_zero, List.set_cons_succ]
      refine wpAnyH_ready (rs := [9]) (by as_aux_lemma => kernel_rfl) (by simp) (AllReadyH.cons rfl (fun KK hK => ?_) AllReadyH.nil)
      go_simp
      obtain ⟨o1, o2, o3⟩ := HO.out
      have HWR := rot_ok base gd gv gl gn N v n L1 O1 f i at_ mask v1 HD2.out hi ha HOK.out.2.2.2 (by omega) (by omega)
      refine HWR.mono ?_
      rintro _ w2 ⟨rfl, ⟨v2, hd2⟩, hf2⟩
      have hS2 := hf2.typ g0 _ 36 _ (by decide) (by decide) hS0
      refine hK.out _ _ hS2 (fun _ => ?_)
      clear hK HWR
      have HD3 := hid hd2
      have HR3 := hid (HR2.out.code hf2)
      have HF3 := hid (HF2.out.trans hf2.fb)
      clear hd2 hf2 hS0 HD2 HR2 HF2 HW2 o1 o2 o3
      try simp only [List.setIfInBounds_toArray, List.set_cons_zero, List.set_cons_succ]
      refine wpAnyH_ready (rs := [17]) (by as_aux_lemma => kernel_rfl) (by simp) (AllReadyH.cons rfl (fun KK hK => ?_) AllReadyH.nil)
      go_simp
      obtain ⟨o1, o2, o3⟩ := HO.out
      have HWR := rrot_ref base gr n vL vW L2 O2 f i at_ mask w2 HR3.out hi ha HOK.out.2.2.2 o3
      refine HWR.mono ?_
      rintro _ w3 ⟨rfl, hr3, hf3⟩
      have hS3 := hf3.cells hS2 (by decide)
      refine hK.out _ _ hS3 (fun _ => ?_)
      clear hK HWR
      have HD4 := hid (HD3.out.doc hf3)
      have HR4 := hid hr3
      have HF4 := hid (HF3.out.trans hf3.fb)
      clear hr3 hf3 hS2 HD3 HR3 HF3 o1 o2 o3
      try simp only [List.setIfInBounds_toArray, List.set_cons_zero, List.set_cons_succ]
      refine Ord.take (i := 18) (d := 174) (v := .bool true) rfl rfl (by as_aux_lemma => kernel_rfl) (by as_aux_lemma => kernel_rfl) (by as_aux_lemma => kernel_rfl) (fun _ _ _ h => h) (by rfl) ?hk518 (by assumption) ?_
      case hk518 => intro w hSw; go_simp; try with_reducible rfl
      simp only [List.setIfInBounds_toArray, List.set_cons_zero, List.set_cons_succ]
      refine Ord.take (i := 19) (d := 6) (v := ?vk519) rfl rfl (by as_aux_lemma => kernel_rfl) (by as_aux_lemma => kernel_rfl) (by as_aux_lemma => kernel_rfl) (fun _ _ _ h => h) (by rfl) ?hk519 (by assumption) ?_
      case hk519 => intro w hSw; go_simp; try with_reducible rfl
      simp only [List.setIfInBounds_toArray, List.set_cons_zero, List.set_cons_succ]
      refine Ord.take (i := 20) (d := 7) (v := ?vk520) rfl rfl (by as_aux_lemma => kernel_rfl) (by as_aux_lemma => kernel_rfl) (by as_aux_lemma => kernel_rfl) (fun _ _ _ h => h) (by rfl) ?hk520 (by assumption) ?_
      case hk520 => intro w hSw; go_simp; try with_reducible rfl
      simp only [List.setIfInBounds_toArray, List.set_cons_zero, List.set_cons_succ]
      refine Ord.take (i := 21) (d := 8) (v := .bool true) rfl rfl (by as_aux_lemma => kernel_rfl) (by as_aux_lemma => kernel_rfl) (by as_aux_lemma => kernel_rfl) (fun _ _ _ h => h) (by rfl) ?hk521 (by assumption) ?_
      case hk521 => intro w hSw; go_simp; try with_reducible rfl
      simp only [List.setIfInBounds_toArray, List.set_cons_zero, List.set_cons_succ]
      refine wpAnyH_done (by as_aux_lemma => kernel_rfl) ?_ _
      clear hS3
      go_wp2_with fail
      go_ret3
      unfold AcPost
      have hrb : rotB ⟨5, i, at_, torn, mask, b, keep⟩ (n : Int) := ⟨hi, ha⟩
      refine ⟨gd, gv, gl, gn, v2, gr, vL, vW, true, rfl, ?_, ?_, fun _ _ => rfl, HF4.out⟩
      · have := HD4.out.mono (show N + 1 ≤ N + O1.length + 1 by omega)
        simpa [stL, stO, stF, hrb] using this
      · simpa [stL, stO, stF, hrb] using HR4.out
    · go_wp2_with fail
      refine wp_region_held_drew (S := fun W => W.heap[g0]? = some (.cells #[.int .i64 5, .int .i64 i, .int .i64 at_, .int .i64 torn, .int .u8 mask, .slice ab nt cb, .slice ak nk ck] 36 (0, 0))) (by kernel_rfl) (show (v0.setCell ⟨g0, 5, none⟩ (.slice ab nt cb)).drew.heap[g0]? = _ from HS.out) (fun hS0 => ?_)
      have HD2 : Hid (Dv (v0.setCell ⟨g0, 5, none⟩ (.slice ab nt cb)).drew base gd gv gl gn v N (n : Int) L1 O1 f) := HD1.out.later (fun _ _ => rfl)
      have HR2 : Hid (Rv (v0.setCell ⟨g0, 5, none⟩ (.slice ab nt cb)).drew base gr vL vW n L2 O2 f) := HR1.out.keep (fun _ _ _ _ _ _ h => h)
      have HF2 := hid HFB.out.drew
      have HW2 := hid HW1.out.drew
      clear HD1 HR1 HFB HW1 HS x0 x1 x2 x3 x4 x5 x6 c0 c1 c5 hu
      generalize (v0.setCell ⟨g0, 5, none⟩ (.slice ab nt cb)).drew = v1 at *
      refine Ord.take (i := 0) (d := 156) (v := ?vk50) rfl rfl (by as_aux_lemma => kernel_rfl) (by as_aux_lemma => kernel_rfl) (by as_aux_lemma => kernel_rfl) (fun _ _ _ h => h) (by rfl) ?hk50 (by assumption) ?_
      case hk50 => intro w hSw; go_simp; try with_reducible rfl
      simp only [List.setIfInBounds_toArray, List.set_cons_zero, List.set_cons_succ]
      refine Ord.take (i := 1) (d := 157) (v := ?vk51) rfl rfl (by as_aux_lemma => kernel_rfl) (by as_aux_lemma => kernel_rfl) (by as_aux_lemma => kernel_rfl) (fun _ _ _ h => h) (by rfl) ?hk51 (by assumption) ?_
      case hk51 => intro w hSw; go_simp; try with_reducible rfl
      simp only [List.setIfInBounds_toArray, List.set_cons_zero, List.set_cons_succ]
      refine Ord.take (i := 2) (d := 158) (v := ?vk52) rfl rfl (by as_aux_lemma => kernel_rfl) (by as_aux_lemma => kernel_rfl) (by as_aux_lemma => kernel_rfl) (fun _ _ _ h => h) (by rfl) ?hk52 (by assumption) ?_
      case hk52 => intro w hSw; go_simp; try with_reducible rfl
      simp only [List.setIfInBounds_toArray, List.set_cons_zero, List.set_cons_succ]
      refine Ord.take (i := 3) (d := 159) (v := ?vk53) rfl rfl (by as_aux_lemma => kernel_rfl) (by as_aux_lemma => kernel_rfl) (by as_aux_lemma => kernel_rfl) (fun _ _ _ h => h) (by rfl) ?hk53 (by assumption) ?_
      case hk53 => intro w hSw; go_simp; try with_reducible rfl
      simp only [List.setIfInBounds_toArray, List.set_cons_zero, List.set_cons_succ]
      refine Ord.take (i := 4) (d := 160) (v := ?vk54) rfl rfl (by as_aux_lemma => kernel_rfl) (by as_aux_lemma => kernel_rfl) (by as_aux_lemma => kernel_rfl) (fun _ _ _ h => h) (by rfl) ?hk54 (by assumption) ?_
      case hk54 => intro w hSw; have q9 := Joins.cell_of_block hSw 1; go_simp; try with_reducible rfl
      simp only [List.setIfInBounds_toArray, List.set_cons_zero, List.set_cons_succ]
      refine Ord.take (i := 5) (d := 161) (v := ?vk55) rfl rfl (by as_aux_lemma => kernel_rfl) (by as_aux_lemma => kernel_rfl) (by as_aux_lemma => kernel_rfl) (fun _ _ _ h => h) (by rfl) ?hk55 (by assumption) ?_
      case hk55 => intro w hSw; go_simp; try with_reducible rfl
      simp only [List.setIfInBounds_toArray, List.set_cons_zero, List.set_cons_succ]
      refine Ord.take (i := 6) (d := 162) (v := ?vk56) rfl rfl (by as_aux_lemma => kernel_rfl) (by as_aux_lemma => kernel_rfl) (by as_aux_lemma => kernel_rfl) (fun _ _ _ h => h) (by rfl) ?hk56 (by assumption) ?_
      case hk56 => intro w hSw; have q9 := Joins.cell_of_block hSw 2; go_simp; try with_reducible rfl
      simp only [List.setIfInBounds_toArray, List.set_cons_zero, List.set_cons_succ]
      refine Ord.take (i := 7) (d := 163) (v := ?vk57) rfl rfl (by as_aux_lemma => kernel_rfl) (by as_aux_lemma => kernel_rfl) (by as_aux_lemma => kernel_rfl) (fun _ _ _ h => h) (by rfl) ?hk57 (by assumption) ?_
      case hk57 => intro w hSw; go_simp; try with_reducible rfl
      simp only [List.setIfInBounds_toArray, List.set_cons_zero, List.set_cons_succ]
      refine Ord.take (i := 8) (d := 164) (v := ?vk58) rfl rfl (by as_aux_lemma => kernel_rfl) (by as_aux_lemma => kernel_rfl) (by as_aux_lemma => kernel_rfl) (fun _ _ _ h => h) (by rfl) ?hk58 (by assumption) ?_
      case hk58 => intro w hSw; have q9 := Joins.cell_of_block hSw 4; go_simp; try with_reducible rfl
      simp only [List.setIfInBounds_toArray, List.set_cons_zero, List.set_cons_succ]
      refine Ord.take (i := 10) (d := 166) (v := ?vk510) rfl rfl (by as_aux_lemma => kernel_rfl) (by as_aux_lemma => kernel_rfl) (by as_aux_lemma => kernel_rfl) (fun _ _ _ h => h) (by rfl) ?hk510 (by assumption) ?_
      case hk510 => intro w hSw; go_simp; try with_reducible rfl
      simp only [List.setIfInBounds_toArray, List.set_cons_zero, List.set_cons_succ]
      refine Ord.take (i := 11) (d := 167) (v := ?vk511) rfl rfl (by as_aux_lemma => kernel_rfl) (by as_aux_lemma => kernel_rfl) (by as_aux_lemma => kernel_rfl) (fun _ _ _ h => h) (by rfl) ?hk511 (by assumption) ?_
      case hk511 => intro w hSw; go_simp; try with_reducible rfl
      simp only [List.setIfInBounds_toArray, List.set_cons_zero, List.set_cons_succ]
      refine Ord.take (i := 12) (d := 168) (v := ?vk512) rfl rfl (by as_aux_lemma => kernel_rfl) (by as_aux_lemma => kernel_rfl) (by as_aux_lemma => kernel_rfl) (fun _ _ _ h => h) (by rfl) ?hk512 (by assumption) ?_
      case hk512 => intro w hSw; have q9 := Joins.cell_of_block hSw 1; go_simp; try with_reducible rfl
      simp only [List.setIfInBounds_toArray, List.set_cons_zero, List.set_cons_succ]
      refine Ord.take (i := 13) (d := 169) (v := ?vk513) rfl rfl (by as_aux_lemma => kernel_rfl) (by as_aux_lemma => kernel_rfl) (by as_aux_lemma => kernel_rfl) (fun _ _ _ h => h) (by rfl) ?hk513 (by assumption) ?_
      case hk513 => intro w hSw; go_simp; try with_reducible rfl
      simp only [List.setIfInBounds_toArray, List.set_cons_zero, List.set_cons_succ]
      refine Ord.take (i := 14) (d := 170) (v := ?vk514) rfl rfl (by as_aux_lemma => kernel_rfl) (by as_aux_lemma => kernel_rfl) (by as_aux_lemma => kernel_rfl) (fun _ _ _ h => h) (by rfl) ?hk514 (by assumption) ?_
      case hk514 => intro w hSw; have q9 := Joins.cell_of_block hSw 2; go_simp; try with_reducible rfl
      simp only [List.setIfInBounds_toArray, List.set_cons_zero, List.set_cons_succ]
      refine Ord.take (i := 15) (d := 171) (v := ?vk515) rfl rfl (by as_aux_lemma => kernel_rfl) (by as_aux_lemma => kernel_rfl) (by as_aux_lemma => kernel_rfl) (fun _ _ _ h => h) (by rfl) ?hk515 (by assumption) ?_
      case hk515 => intro w hSw; go_simp; try with_reducible rfl
      simp only [List.setIfInBounds_toArray, List.set_cons_zero, List.set_cons_succ]
      refine Ord.take (i := 16) (d := 172) (v := ?vk516) rfl rfl (by as_aux_lemma => kernel_rfl) (by as_aux_lemma => kernel_rfl) (by as_aux_lemma => kernel_rfl) (fun _ _ _ h => h) (by rfl) ?hk516 (by assumption) ?_
      case hk516 => intro w hSw; have q9 := Joins.cell_of_block hSw 4; go_simp; try with_reducible rfl
      simp only [List.setIfInBounds_toArray, List.set_cons_zero, List.set_cons_succ]
      refine wpAnyH_ready (rs := [9]) (by as_aux_lemma => kernel_rfl) (by simp) (AllReadyH.cons rfl (fun KK hK => ?_) AllReadyH.nil)
      go_simp
      obtain ⟨o1, o2, o3⟩ := HO.out
      have HWR := rot_at gd gv i at_ mask _ _ _ _ f v1 HD2.out.dsk HD2.out.dev hi ha
      refine HWR.mono ?_
      rintro _ w2 ⟨rfl, hw⟩
      obtain rfl := hw.symm
      have hS2 := hS0
      have hf2 : Fr base v1 v1 := Fr.refl _ _
      have hd2 := HD2.out
      refine hK.out _ _ hS2 (fun _ => ?_)
      clear hK HWR
      have HD3 := hid hd2
      have HR3 := hid (HR2.out.code hf2)
      have HF3 := hid (HF2.out.trans hf2.fb)
      clear hd2 hf2 hS0 HD2 HR2 HF2 HW2 o1 o2 o3
      try simp only [List.setIfInBounds_toArray, List.set_cons_zero, List.set_cons_succ]
      refine wpAnyH_ready (rs := [17]) (by as_aux_lemma => kernel_rfl) (by simp) (AllReadyH.cons rfl (fun KK hK => ?_) AllReadyH.nil)
      go_simp
      obtain ⟨o1, o2, o3⟩ := HO.out
      have HWR := rrot_at base gr n vL vW L2 O2 f i at_ mask v1 HR3.out hi ha
      refine HWR.mono ?_
      rintro _ w3 ⟨rfl, hw⟩
      obtain rfl := hw.symm
      have hS3 := hS2
      have hf3 : FrD base v1 v1 := FrD.refl _ _
      have hr3 := HR3.out
      refine hK.out _ _ hS3 (fun _ => ?_)
      clear hK HWR
      have HD4 := hid (HD3.out.doc hf3)
      have HR4 := hid hr3
      have HF4 := hid (HF3.out.trans hf3.fb)
      clear hr3 hf3 hS2 HD3 HR3 HF3 o1 o2 o3
      try simp only [List.setIfInBounds_toArray, List.set_cons_zero, List.set_cons_succ]
      refine Ord.take (i := 18) (d := 174) (v := .bool true) rfl rfl (by as_aux_lemma => kernel_rfl) (by as_aux_lemma => kernel_rfl) (by as_aux_lemma => kernel_rfl) (fun _ _ _ h => h) (by rfl) ?hk518 (by assumption) ?_
      case hk518 => intro w hSw; go_simp; try with_reducible rfl
      simp only [List.setIfInBounds_toArray, List.set_cons_zero, List.set_cons_succ]
      refine Ord.take (i := 19) (d := 6) (v := ?vk519) rfl rfl (by as_aux_lemma => kernel_rfl) (by as_aux_lemma => kernel_rfl) (by as_aux_lemma => kernel_rfl) (fun _ _ _ h => h) (by rfl) ?hk519 (by assumption) ?_
      case hk519 => intro w hSw; go_simp; try with_reducible rfl
      simp only [List.setIfInBounds_toArray, List.set_cons_zero, List.set_cons_succ]
      refine Ord.take (i := 20) (d := 7) (v := ?vk520) rfl rfl (by as_aux_lemma => kernel_rfl) (by as_aux_lemma => kernel_rfl) (by as_aux_lemma => kernel_rfl) (fun _ _ _ h => h) (by rfl) ?hk520 (by assumption) ?_
      case hk520 => intro w hSw; go_simp; try with_reducible rfl
      simp only [List.setIfInBounds_toArray, List.set_cons_zero, List.set_cons_succ]
      refine Ord.take (i := 21) (d := 8) (v := .bool true) rfl rfl (by as_aux_lemma => kernel_rfl) (by as_aux_lemma => kernel_rfl) (by as_aux_lemma => kernel_rfl) (fun _ _ _ h => h) (by rfl) ?hk521 (by assumption) ?_
      case hk521 => intro w hSw; go_simp; try with_reducible rfl
      simp only [List.setIfInBounds_toArray, List.set_cons_zero, List.set_cons_succ]
      refine wpAnyH_done (by as_aux_lemma => kernel_rfl) ?_ _
      clear hS3
      go_wp2_with fail
      go_ret3
      unfold AcPost
      have hrb : ¬ rotB ⟨5, i, at_, torn, mask, b, keep⟩ (n : Int) := fun h => ha h.2
      refine ⟨gd, gv, gl, gn, v, gr, vL, vW, true, rfl, ?_, ?_, fun _ _ => rfl, HF4.out⟩
      · have := HD4.out.mono (show N ≤ N + O1.length + 1 by omega)
        simpa [stL, stO, stF, hrb] using this
      · simpa [stL, stO, stF, hrb] using HR4.out
  · go_wp2_with fail
    refine wp_region_held_drew (S := fun W => W.heap[g0]? = some (.cells #[.int .i64 5, .int .i64 i, .int .i64 at_, .int .i64 torn, .int .u8 mask, .slice ab nt cb, .slice ak nk ck] 36 (0, 0))) (by kernel_rfl) (show (v0.setCell ⟨g0, 5, none⟩ (.slice ab nt cb)).drew.heap[g0]? = _ from HS.out) (fun hS0 => ?_)
    have HD2 : Hid (Dv (v0.setCell ⟨g0, 5, none⟩ (.slice ab nt cb)).drew base gd gv gl gn v N (n : Int) L1 O1 f) := HD1.out.later (fun _ _ => rfl)
    have HR2 : Hid (Rv (v0.setCell ⟨g0, 5, none⟩ (.slice ab nt cb)).drew base gr vL vW n L2 O2 f) := HR1.out.keep (fun _ _ _ _ _ _ h => h)
    have HF2 := hid HFB.out.drew
    have HW2 := hid HW1.out.drew
    clear HD1 HR1 HFB HW1 HS x0 x1 x2 x3 x4 x5 x6 c0 c1 c5 hu
    generalize (v0.setCell ⟨g0, 5, none⟩ (.slice ab nt cb)).drew = v1 at *
    refine Ord.take (i := 0) (d := 156) (v := ?vk50) rfl rfl (by as_aux_lemma => kernel_rfl) (by as_aux_lemma => kernel_rfl) (by as_aux_lemma => kernel_rfl) (fun _ _ _ h => h) (by rfl) ?hk50 (by assumption) ?_
    case hk50 => intro w hSw; go_simp; try with_reducible rfl
    simp only [List.setIfInBounds_toArray, List.set_cons_zero, List.set_cons_succ]
    refine Ord.take (i := 1) (d := 157) (v := ?vk51) rfl rfl (by as_aux_lemma => kernel_rfl) (by as_aux_lemma => kernel_rfl) (by as_aux_lemma => kernel_rfl) (fun _ _ _ h => h) (by rfl) ?hk51 (by assumption) ?_
    case hk51 => intro w hSw; go_simp; try with_reducible rfl
    simp only [List.setIfInBounds_toArray, List.set_cons_zero, List.set_cons_succ]
    refine Ord.take (i := 2) (d := 158) (v := ?vk52) rfl rfl (by as_aux_lemma => kernel_rfl) (by as_aux_lemma => kernel_rfl) (by as_aux_lemma => kernel_rfl) (fun _ _ _ h => h) (by rfl) ?hk52 (by assumption) ?_
    case hk52 => intro w hSw; go_simp; try with_reducible rfl
    simp only [List.setIfInBounds_toArray, List.set_cons_zero, List.set_cons_succ]
    refine Ord.take (i := 3) (d := 159) (v := ?vk53) rfl rfl (by as_aux_lemma => kernel_rfl) (by as_aux_lemma => kernel_rfl) (by as_aux_lemma => kernel_rfl) (fun _ _ _ h => h) (by rfl) ?hk53 (by assumption) ?_
    case hk53 => intro w hSw; go_simp; try with_reducible rfl
    simp only [List.setIfInBounds_toArray, List.set_cons_zero, List.set_cons_succ]
    refine Ord.take (i := 4) (d := 160) (v := ?vk54) rfl rfl (by as_aux_lemma => kernel_rfl) (by as_aux_lemma => kernel_rfl) (by as_aux_lemma => kernel_rfl) (fun _ _ _ h => h) (by rfl) ?hk54 (by assumption) ?_
    case hk54 => intro w hSw; have q9 := Joins.cell_of_block hSw 1; go_simp; try with_reducible rfl
    simp only [List.setIfInBounds_toArray, List.set_cons_zero, List.set_cons_succ]
    refine Ord.take (i := 5) (d := 161) (v := ?vk55) rfl rfl (by as_aux_lemma => kernel_rfl) (by as_aux_lemma => kernel_rfl) (by as_aux_lemma => kernel_rfl) (fun _ _ _ h => h) (by rfl) ?hk55 (by assumption) ?_
    case hk55 => intro w hSw; go_simp; try with_reducible rfl
    simp only [List.setIfInBounds_toArray, List.set_cons_zero, List.set_cons_succ]
    refine Ord.take (i := 6) (d := 162) (v := ?vk56) rfl rfl (by as_aux_lemma => kernel_rfl) (by as_aux_lemma => kernel_rfl) (by as_aux_lemma => kernel_rfl) (fun _ _ _ h => h) (by rfl) ?hk56 (by assumption) ?_
    case hk56 => intro w hSw; have q9 := Joins.cell_of_block hSw 2; go_simp; try with_reducible rfl
    simp only [List.setIfInBounds_toArray, List.set_cons_zero, List.set_cons_succ]
    refine Ord.take (i := 7) (d := 163) (v := ?vk57) rfl rfl (by as_aux_lemma => kernel_rfl) (by as_aux_lemma => kernel_rfl) (by as_aux_lemma => kernel_rfl) (fun _ _ _ h => h) (by rfl) ?hk57 (by assumption) ?_
    case hk57 => intro w hSw; go_simp; try with_reducible rfl
    simp only [List.setIfInBounds_toArray, List.set_cons_zero, List.set_cons_succ]
    refine Ord.take (i := 8) (d := 164) (v := ?vk58) rfl rfl (by as_aux_lemma => kernel_rfl) (by as_aux_lemma => kernel_rfl) (by as_aux_lemma => kernel_rfl) (fun _ _ _ h => h) (by rfl) ?hk58 (by assumption) ?_
    case hk58 => intro w hSw; have q9 := Joins.cell_of_block hSw 4; go_simp; try with_reducible rfl
    simp only [List.setIfInBounds_toArray, List.set_cons_zero, List.set_cons_succ]
    refine Ord.take (i := 10) (d := 166) (v := ?vk510) rfl rfl (by as_aux_lemma => kernel_rfl) (by as_aux_lemma => kernel_rfl) (by as_aux_lemma => kernel_rfl) (fun _ _ _ h => h) (by rfl) ?hk510 (by assumption) ?_
    case hk510 => intro w hSw; go_simp; try with_reducible rfl
    simp only [List.setIfInBounds_toArray, List.set_cons_zero, List.set_cons_succ]
    refine Ord.take (i := 11) (d := 167) (v := ?vk511) rfl rfl (by as_aux_lemma => kernel_rfl) (by as_aux_lemma => kernel_rfl) (by as_aux_lemma => kernel_rfl) (fun _ _ _ h => h) (by rfl) ?hk511 (by assumption) ?_
    case hk511 => intro w hSw; go_simp; try with_reducible rfl
    simp only [List.setIfInBounds_toArray, List.set_cons_zero, List.set_cons_succ]
    refine Ord.take (i := 12) (d := 168) (v := ?vk512) rfl rfl (by as_aux_lemma => kernel_rfl) (by as_aux_lemma => kernel_rfl) (by as_aux_lemma => kernel_rfl) (fun _ _ _ h => h) (by rfl) ?hk512 (by assumption) ?_
    case hk512 => intro w hSw; have q9 := Joins.cell_of_block hSw 1; go_simp; try with_reducible rfl
    simp only [List.setIfInBounds_toArray, List.set_cons_zero, List.set_cons_succ]
    refine Ord.take (i := 13) (d := 169) (v := ?vk513) rfl rfl (by as_aux_lemma => kernel_rfl) (by as_aux_lemma => kernel_rfl) (by as_aux_lemma => kernel_rfl) (fun _ _ _ h => h) (by rfl) ?hk513 (by assumption) ?_
    case hk513 => intro w hSw; go_simp; try with_reducible rfl
    simp only [List.setIfInBounds_toArray, List.set_cons_zero, List.set_cons_succ]
    refine Ord.take (i := 14) (d := 170) (v := ?vk514) rfl rfl (by as_aux_lemma => kernel_rfl) (by as_aux_lemma => kernel_rfl) (by as_aux_lemma => kernel_rfl) (fun _ _ _ h => h) (by rfl) ?hk514 (by assumption) ?_
    case hk514 => intro w hSw; have q9 := Joins.cell_of_block hSw 2; go_simp; try with_reducible rfl
    simp only [List.setIfInBounds_toArray, List.set_cons_zero, List.set_cons_succ]
    refine Ord.take (i := 15) (d := 171) (v := ?vk515) rfl rfl (by as_aux_lemma => kernel_rfl) (by as_aux_lemma => kernel_rfl) (by as_aux_lemma => kernel_rfl) (fun _ _ _ h => h) (by rfl) ?hk515 (by assumption) ?_
    case hk515 => intro w hSw; go_simp; try with_reducible rfl
    simp only [List.setIfInBounds_toArray, List.set_cons_zero, List.set_cons_succ]
    refine Ord.take (i := 16) (d := 172) (v := ?vk516) rfl rfl (by as_aux_lemma => kernel_rfl) (by as_aux_lemma => kernel_rfl) (by as_aux_lemma => kernel_rfl) (fun _ _ _ h => h) (by rfl) ?hk516 (by assumption) ?_
    case hk516 => intro w hSw; have q9 := Joins.cell_of_block hSw 4; go_simp; try with_reducible rfl
    simp only [List.setIfInBounds_toArray, List.set_cons_zero, List.set_cons_succ]
    refine wpAnyH_ready (rs := [9]) (by as_aux_lemma => kernel_rfl) (by simp) (AllReadyH.cons rfl (fun KK hK => ?_) AllReadyH.nil)
    go_simp
    obtain ⟨o1, o2, o3⟩ := HO.out
    have HWR := rot_range gd gv i at_ mask _ _ _ _ f v1 HD2.out.dsk HD2.out.dev hi
    refine HWR.mono ?_
    rintro _ w2 ⟨rfl, hw⟩
    obtain rfl := hw.symm
    have hS2 := hS0
    have hf2 : Fr base v1 v1 := Fr.refl _ _
    have hd2 := HD2.out
    refine hK.out _ _ hS2 (fun _ => ?_)
    clear hK HWR
    have HD3 := hid hd2
    have HR3 := hid (HR2.out.code hf2)
    have HF3 := hid (HF2.out.trans hf2.fb)
    clear hd2 hf2 hS0 HD2 HR2 HF2 HW2 o1 o2 o3
    try simp only [List.setIfInBounds_toArray, List.set_cons_zero, List.set_cons_succ]
    refine wpAnyH_ready (rs := [17]) (by as_aux_lemma => kernel_rfl) (by simp) (AllReadyH.cons rfl (fun KK hK => ?_) AllReadyH.nil)
    go_simp
    obtain ⟨o1, o2, o3⟩ := HO.out
    have HWR := rrot_range base gr n vL vW L2 O2 f i at_ mask v1 HR3.out hi
    refine HWR.mono ?_
    rintro _ w3 ⟨rfl, hw⟩
    obtain rfl := hw.symm
    have hS3 := hS2
    have hf3 : FrD base v1 v1 := FrD.refl _ _
    have hr3 := HR3.out
    refine hK.out _ _ hS3 (fun _ => ?_)
    clear hK HWR
    have HD4 := hid (HD3.out.doc hf3)
    have HR4 := hid hr3
    have HF4 := hid (HF3.out.trans hf3.fb)
    clear hr3 hf3 hS2 HD3 HR3 HF3 o1 o2 o3
    try simp only [List.setIfInBounds_toArray, List.set_cons_zero, List.set_cons_succ]
    refine Ord.take (i := 18) (d := 174) (v := .bool true) rfl rfl (by as_aux_lemma => kernel_rfl) (by as_aux_lemma => kernel_rfl) (by as_aux_lemma => kernel_rfl) (fun _ _ _ h => h) (by rfl) ?hk518 (by assumption) ?_
    case hk518 => intro w hSw; go_simp; try with_reducible rfl
    simp only [List.setIfInBounds_toArray, List.set_cons_zero, List.set_cons_succ]
    refine Ord.take (i := 19) (d := 6) (v := ?vk519) rfl rfl (by as_aux_lemma => kernel_rfl) (by as_aux_lemma => kernel_rfl) (by as_aux_lemma => kernel_rfl) (fun _ _ _ h => h) (by rfl) ?hk519 (by assumption) ?_
    case hk519 => intro w hSw; go_simp; try with_reducible rfl
    simp only [List.setIfInBounds_toArray, List.set_cons_zero, List.set_cons_succ]
    refine Ord.take (i := 20) (d := 7) (v := ?vk520) rfl rfl (by as_aux_lemma => kernel_rfl) (by as_aux_lemma => kernel_rfl) (by as_aux_lemma => kernel_rfl) (fun _ _ _ h => h) (by rfl) ?hk520 (by assumption) ?_
    case hk520 => intro w hSw; go_simp; try with_reducible rfl
    simp only [List.setIfInBounds_toArray, List.set_cons_zero, List.set_cons_succ]
    refine Ord.take (i := 21) (d := 8) (v := .bool true) rfl rfl (by as_aux_lemma => kernel_rfl) (by as_aux_lemma => kernel_rfl) (by as_aux_lemma => kernel_rfl) (fun _ _ _ h => h) (by rfl) ?hk521 (by assumption) ?_
    case hk521 => intro w hSw; go_simp; try with_reducible rfl
    simp only [List.setIfInBounds_toArray, List.set_cons_zero, List.set_cons_succ]
    refine wpAnyH_done (by as_aux_lemma => kernel_rfl) ?_ _
    clear hS3
    go_wp2_with fail
    go_ret3
    unfold AcPost
    have hrb : ¬ rotB ⟨5, i, at_, torn, mask, b, keep⟩ (n : Int) := fun h => hi h.1
    refine ⟨gd, gv, gl, gn, v, gr, vL, vW, true, rfl, ?_, ?_, fun _ _ => rfl, HF4.out⟩
    · have := HD4.out.mono (show N ≤ N + O1.length + 1 by omega)
      simpa [stL, stO, stF, hrb] using this
    · simpa [stL, stO, stF, hrb] using HR4.out
end Go.Proofs.Ytldgiimkkgmgaaa
