/-
  An act of the law's script: kind 6.
-/
import Derived.Test.YtldgiimkkgmgaaaPart11
import Derived.Test.YtldgiimkkgmgaaaPart12
import Derived.Test.YtldgiimkkgmgaaaPart13
namespace Go.Proofs.Ytldgiimkkgmgaaa
open Go.RowKit

set_option maxHeartbeats 6400000 in
set_option maxRecDepth 100000 in
theorem ac6 (W0 w : World) (base gd gv gl gn N : Nat) (v : Value) (n : Nat) (L1 : Int → List Int) (O1 : List (Int × List Int)) (f : Int) (gr : Nat) (vL vW : Value) (L2 : Int → List Int) (O2 : List (Int × List Int)) (x : OpZ) (ab : Option Addr) (cb : Nat) (ak : Option Addr) (ck : Nat) (h0 : W0.heap.size = base) (hb : Below base W0 w) (hx : OpR W0 x ab cb ak ck) (kd : Dv w base gd gv gl gn v N (n : Int) L1 O1 f) (kr : Rv w base gr vL vW n L2 O2 f) (hN : N + O1.length + 1 ≤ 1000000) (h1 : O1.length ≤ 60000) (h2 : O2.length ≤ 60000) (hk : x.kind = 6) :
    Calls Try.prog 11 #[.pointer (some ⟨gd, 0, none⟩), .pointer (some ⟨gr, 0, none⟩), .agg (opV x ab cb ak ck).toArray] w (AcPost base N n L1 O1 L2 O2 f x w) := by
  have HO : Hid (N + O1.length + 1 ≤ 1000000 ∧ O1.length ≤ 60000 ∧ O2.length ≤ 60000) := ⟨hN, h1, h2⟩
  clear hN h1 h2
  obtain ⟨kind, i, at_, torn, mask, b, keep⟩ := x
  obtain ⟨⟨ok1, ok2, ok3, ok4, ok5⟩, hB, hKp⟩ := hx
  simp only [] at hk ok1 ok2 ok3 ok4 ok5 hB hKp
  unfold opV
  simp only []
  subst hk
  have HX : Hid (W0.heap.size = base) := h0
  have HD := hid kd
  have HR := hid kr
  have HBB := hid hB
  have HKP := hid hKp
  have HBW := hid hb
  have hbz := kd.size
  have HOK : Hid (okI i ∧ okI at_ ∧ okI torn ∧ (0 ≤ mask ∧ mask ≤ 255)) := ⟨ok2, ok3, ok4, ok5⟩
  clear h0 kd kr hB hKp hb ok2 ok3 ok4 ok5
  obtain ⟨nb, hnb⟩ : ∃ m, m = b.length := ⟨_, rfl⟩
  obtain ⟨nk, hnk⟩ : ∃ m, m = keep.length := ⟨_, rfl⟩
  have HNB := hid hnb
  have HNK := hid hnk
  rw [← hnb, ← hnk]
  clear hnb hnk
  have HCUT : Hid (∀ W, Below base W0 W → Calls Try.prog 16 #[.slice ab nb cb] W (fun e w' => e = .returned (.slice ab (b.take 600).length cb) ∧ w' = W)) := fun W hW => by
    have h9 := cut_any ab cb b W (HBB.out.later (by rw [HX.out]; exact hW))
    rw [← HNB.out] at h9
    exact h9
  have HTK : Hid (Ri W0 .u8 ab cb (b.take 600)) := HBB.out.take 600
  obtain ⟨bt, hbt⟩ : ∃ l, l = b.take 600 := ⟨_, rfl⟩
  have HBT := hid hbt
  rw [← hbt] at HCUT HTK
  clear hbt
  obtain ⟨nt, hnt⟩ : ∃ m, m = bt.length := ⟨_, rfl⟩
  have HNT := hid hnt
  rw [← hnt] at HCUT
  clear hnt
  go_enter Try.func11, Try.ntmps11
  go_wp2_with fail
  have HA : Hid (Below w.heap.size w (w.alloc (.cells #[.int .i64 6, .int .i64 i, .int .i64 at_, .int .i64 torn, .int .u8 mask, .slice ab nb cb, .slice ak nk ck] 36))) := bel_alloc w _
  have HG : Hid ((w.alloc (.cells #[.int .i64 6, .int .i64 i, .int .i64 at_, .int .i64 torn, .int .u8 mask, .slice ab nb cb, .slice ak nk ck] 36)).heap[w.heap.size]? = some (.cells #[.int .i64 6, .int .i64 i, .int .i64 at_, .int .i64 torn, .int .u8 mask, .slice ab nb cb, .slice ak nk ck] 36 (0, 0))) := heap_new w _
  refine (HCUT.out _ (HBW.out.trans (HA.out.mono hbz))).mono ?_
  rintro _ w1 ⟨rfl, hw⟩
  obtain rfl := hw
  have hg := HG.out
  have HA1 : Hid (Below w.heap.size w ((w.alloc (.cells #[.int .i64 6, .int .i64 i, .int .i64 at_, .int .i64 torn, .int .u8 mask, .slice ab nb cb, .slice ak nk ck] 36)).setCell ⟨w.heap.size, 5, none⟩ (.slice ab nt cb))) := HA.out.setCell (Nat.le_refl _) _
  have hset : ((w.alloc (.cells #[.int .i64 6, .int .i64 i, .int .i64 at_, .int .i64 torn, .int .u8 mask, .slice ab nb cb, .slice ak nk ck] 36)).setCell ⟨w.heap.size, 5, none⟩ (.slice ab nt cb)).heap[w.heap.size]? = some (.cells #[.int .i64 6, .int .i64 i, .int .i64 at_, .int .i64 torn, .int .u8 mask, .slice ab nt cb, .slice ak nk ck] 36 (0, 0)) := by
    rw [Joins.block_setCell HG.out _]
    simp
  have HFB := hid (Fb.below HA1.out hbz)
  have HD1 := hid (HD.out.below HA1.out)
  have HR1 := hid (HR.out.below HA1.out)
  have HW1 := hid (HBW.out.trans (HA1.out.mono hbz))
  clear HA HA1 HG HD HR HBW HCUT
  generalize w.alloc (.cells #[.int .i64 6, .int .i64 i, .int .i64 at_, .int .i64 torn, .int .u8 mask, .slice ab nb cb, .slice ak nk ck] 36) = v0 at *
  generalize w.heap.size = g0 at *
  have c0 := Joins.cell_of_block hg 0
  have c1 := Joins.cell_of_block hg 1
  have c5 := Joins.cell_of_block hg 5
  have hu := Joins.unfrozen_of_block hg 5
  have x0 := Joins.cell_of_block hset 0
  have x1 := Joins.cell_of_block hset 1
  have x2 := Joins.cell_of_block hset 2
  have x3 := Joins.cell_of_block hset 3
  have x4 := Joins.cell_of_block hset 4
  have x5 := Joins.cell_of_block hset 5
  have x6 := Joins.cell_of_block hset 6
  have HS := hid hset
  clear hg hset
  go_wp2_with fail
  refine wp_region_held_drew (S := fun W => W.heap[g0]? = some (.cells #[.int .i64 6, .int .i64 i, .int .i64 at_, .int .i64 torn, .int .u8 mask, .slice ab nt cb, .slice ak nk ck] 36 (0, 0))) (by kernel_rfl) (show (v0.setCell ⟨g0, 5, none⟩ (.slice ab nt cb)).drew.heap[g0]? = _ from HS.out) (fun hS0 => ?_)
  have HD2 : Hid (Dv (v0.setCell ⟨g0, 5, none⟩ (.slice ab nt cb)).drew base gd gv gl gn v N (n : Int) L1 O1 f) := HD1.out.later (fun _ _ => rfl)
  have HR2 : Hid (Rv (v0.setCell ⟨g0, 5, none⟩ (.slice ab nt cb)).drew base gr vL vW n L2 O2 f) := HR1.out.keep (fun _ _ _ _ _ _ h => h)
  have HF2 := hid HFB.out.drew
  have HW2 := hid HW1.out.drew
  clear HD1 HR1 HFB HW1 HS x0 x1 x2 x3 x4 x5 x6 c0 c1 c5 hu
  generalize (v0.setCell ⟨g0, 5, none⟩ (.slice ab nt cb)).drew = v1 at *
  refine Ord.take (i := 0) (d := 177) (v := ?vk60) rfl rfl (by as_aux_lemma => kernel_rfl) (by as_aux_lemma => kernel_rfl) (by as_aux_lemma => kernel_rfl) (fun _ _ _ h => h) (by rfl) ?hk60 (by assumption) ?_
  case hk60 => intro w hSw; go_simp; try with_reducible rfl
  simp only [List.setIfInBounds_toArray, List.set_cons_zero, List.set_cons_succ]
  refine Ord.take (i := 1) (d := 178) (v := ?vk61) rfl rfl (by as_aux_lemma => kernel_rfl) (by as_aux_lemma => kernel_rfl) (by as_aux_lemma => kernel_rfl) (fun _ _ _ h => h) (by rfl) ?hk61 (by assumption) ?_
  case hk61 => intro w hSw; go_simp; try with_reducible rfl
  simp only [List.setIfInBounds_toArray, List.set_cons_zero, List.set_cons_succ]
  refine Ord.take (i := 2) (d := 179) (v := ?vk62) rfl rfl (by as_aux_lemma => kernel_rfl) (by as_aux_lemma => kernel_rfl) (by as_aux_lemma => kernel_rfl) (fun _ _ _ h => h) (by rfl) ?hk62 (by assumption) ?_
  case hk62 => intro w hSw; go_simp; try with_reducible rfl
  simp only [List.setIfInBounds_toArray, List.set_cons_zero, List.set_cons_succ]
  refine Ord.take (i := 3) (d := 180) (v := ?vk63) rfl rfl (by as_aux_lemma => kernel_rfl) (by as_aux_lemma => kernel_rfl) (by as_aux_lemma => kernel_rfl) (fun _ _ _ h => h) (by rfl) ?hk63 (by assumption) ?_
  case hk63 => intro w hSw; go_simp; try with_reducible rfl
  simp only [List.setIfInBounds_toArray, List.set_cons_zero, List.set_cons_succ]
  refine Ord.take (i := 4) (d := 181) (v := ?vk64) rfl rfl (by as_aux_lemma => kernel_rfl) (by as_aux_lemma => kernel_rfl) (by as_aux_lemma => kernel_rfl) (fun _ _ _ h => h) (by rfl) ?hk64 (by assumption) ?_
  case hk64 => intro w hSw; have q9 := Joins.cell_of_block hSw 1; go_simp; try with_reducible rfl
  simp only [List.setIfInBounds_toArray, List.set_cons_zero, List.set_cons_succ]
  refine Ord.take (i := 6) (d := 183) (v := ?vk66) rfl rfl (by as_aux_lemma => kernel_rfl) (by as_aux_lemma => kernel_rfl) (by as_aux_lemma => kernel_rfl) (fun _ _ _ h => h) (by rfl) ?hk66 (by assumption) ?_
  case hk66 => intro w hSw; go_simp; try with_reducible rfl
  simp only [List.setIfInBounds_toArray, List.set_cons_zero, List.set_cons_succ]
  refine Ord.take (i := 7) (d := 184) (v := ?vk67) rfl rfl (by as_aux_lemma => kernel_rfl) (by as_aux_lemma => kernel_rfl) (by as_aux_lemma => kernel_rfl) (fun _ _ _ h => h) (by rfl) ?hk67 (by assumption) ?_
  case hk67 => intro w hSw; go_simp; try with_reducible rfl
  simp only [List.setIfInBounds_toArray, List.set_cons_zero, List.set_cons_succ]
  refine Ord.take (i := 8) (d := 185) (v := ?vk68) rfl rfl (by as_aux_lemma => kernel_rfl) (by as_aux_lemma => kernel_rfl) (by as_aux_lemma => kernel_rfl) (fun _ _ _ h => h) (by rfl) ?hk68 (by assumption) ?_
  case hk68 => intro w hSw; have q9 := Joins.cell_of_block hSw 1; go_simp; try with_reducible rfl
  simp only [List.setIfInBounds_toArray, List.set_cons_zero, List.set_cons_succ]
  refine wpAnyH_ready (rs := [5]) (by as_aux_lemma => kernel_rfl) (by simp) (AllReadyH.cons rfl (fun KK hK => ?_) AllReadyH.nil)
  go_simp
  have HWR := fuse_ok base gd gv gl gn N v n L1 O1 f i v1 HD2.out HOK.out.1
  refine HWR.mono ?_
  rintro _ w2 ⟨rfl, hd2, hf2⟩
  have hS2 := hf2.typ g0 _ 36 _ (by decide) (by decide) hS0
  refine hK.out _ _ hS2 (fun _ => ?_)
  clear hK HWR
  have HD3 := hid hd2
  have HR3 := hid (HR2.out.code hf2)
  have HF3 := hid (HF2.out.trans hf2.fb)
  clear hd2 hf2 hS0 HD2 HR2 HF2 HW2
  try simp only [List.setIfInBounds_toArray, List.set_cons_zero, List.set_cons_succ]
  refine wpAnyH_ready (rs := [9]) (by as_aux_lemma => kernel_rfl) (by simp) (AllReadyH.cons rfl (fun KK hK => ?_) AllReadyH.nil)
  go_simp
  have HWR := fuse_ref base gr n vL vW L2 O2 f i w2 HR3.out HOK.out.1
  refine HWR.mono ?_
  rintro _ w3 ⟨rfl, hr3, hf3⟩
  have hS3 := hf3.cells hS2 (by decide)
  refine hK.out _ _ hS3 (fun _ => ?_)
  clear hK HWR
  have HD4 := hid (HD3.out.doc hf3)
  have HR4 := hid hr3
  have HF4 := hid (HF3.out.trans hf3.fb)
  clear hr3 hf3 hS2 HD3 HR3 HF3
  try simp only [List.setIfInBounds_toArray, List.set_cons_zero, List.set_cons_succ]
  refine Ord.take (i := 10) (d := 187) (v := .bool true) rfl rfl (by as_aux_lemma => kernel_rfl) (by as_aux_lemma => kernel_rfl) (by as_aux_lemma => kernel_rfl) (fun _ _ _ h => h) (by rfl) ?hk610 (by assumption) ?_
  case hk610 => intro w hSw; go_simp; try with_reducible rfl
  simp only [List.setIfInBounds_toArray, List.set_cons_zero, List.set_cons_succ]
  refine Ord.take (i := 11) (d := 6) (v := ?vk611) rfl rfl (by as_aux_lemma => kernel_rfl) (by as_aux_lemma => kernel_rfl) (by as_aux_lemma => kernel_rfl) (fun _ _ _ h => h) (by rfl) ?hk611 (by assumption) ?_
  case hk611 => intro w hSw; go_simp; try with_reducible rfl
  simp only [List.setIfInBounds_toArray, List.set_cons_zero, List.set_cons_succ]
  refine Ord.take (i := 12) (d := 7) (v := ?vk612) rfl rfl (by as_aux_lemma => kernel_rfl) (by as_aux_lemma => kernel_rfl) (by as_aux_lemma => kernel_rfl) (fun _ _ _ h => h) (by rfl) ?hk612 (by assumption) ?_
  case hk612 => intro w hSw; go_simp; try with_reducible rfl
  simp only [List.setIfInBounds_toArray, List.set_cons_zero, List.set_cons_succ]
  refine Ord.take (i := 13) (d := 8) (v := .bool true) rfl rfl (by as_aux_lemma => kernel_rfl) (by as_aux_lemma => kernel_rfl) (by as_aux_lemma => kernel_rfl) (fun _ _ _ h => h) (by rfl) ?hk613 (by assumption) ?_
  case hk613 => intro w hSw; go_simp; try with_reducible rfl
  simp only [List.setIfInBounds_toArray, List.set_cons_zero, List.set_cons_succ]
  refine wpAnyH_done (by as_aux_lemma => kernel_rfl) ?_ _
  clear hS3
  go_wp2_with fail
  go_ret3
  unfold AcPost
  exact ⟨gd, gv, gl, gn, v, gr, vL, vW, true, rfl, HD4.out.mono (by omega), HR4.out, fun _ _ => rfl, HF4.out⟩
end Go.Proofs.Ytldgiimkkgmgaaa
/-
  An act of the law's script.
-/
namespace Go.Proofs.Ytldgiimkkgmgaaa
open Go.RowKit

theorem act_ok (W0 w : World) (base gd gv gl gn N : Nat) (v : Value) (n : Nat) (L1 : Int → List Int) (O1 : List (Int × List Int)) (f : Int) (gr : Nat) (vL vW : Value) (L2 : Int → List Int) (O2 : List (Int × List Int)) (x : OpZ) (ab : Option Addr) (cb : Nat) (ak : Option Addr) (ck : Nat) (h0 : W0.heap.size = base) (hb : Below base W0 w) (hx : OpR W0 x ab cb ak ck) (kd : Dv w base gd gv gl gn v N (n : Int) L1 O1 f) (kr : Rv w base gr vL vW n L2 O2 f) (hN : N + O1.length + 1 ≤ 1000000) (h1 : O1.length ≤ 60000) (h2 : O2.length ≤ 60000) :
    Calls Try.prog 11 #[.pointer (some ⟨gd, 0, none⟩), .pointer (some ⟨gr, 0, none⟩), .agg (opV x ab cb ak ck).toArray] w (AcPost base N n L1 O1 L2 O2 f x w) := by
  by_cases k1 : x.kind = 1
  · exact ac1 W0 w base gd gv gl gn N v n L1 O1 f gr vL vW L2 O2 x ab cb ak ck h0 hb hx kd kr hN h1 h2 k1
  by_cases k2 : x.kind = 2
  · exact ac2 W0 w base gd gv gl gn N v n L1 O1 f gr vL vW L2 O2 x ab cb ak ck h0 hb hx kd kr hN h1 h2 k2
  by_cases k3 : x.kind = 3
  · exact ac3 W0 w base gd gv gl gn N v n L1 O1 f gr vL vW L2 O2 x ab cb ak ck h0 hb hx kd kr hN h1 h2 k3
  by_cases k4 : x.kind = 4
  · exact ac4 W0 w base gd gv gl gn N v n L1 O1 f gr vL vW L2 O2 x ab cb ak ck h0 hb hx kd kr hN h1 h2 k4
  by_cases k5 : x.kind = 5
  · exact ac5 W0 w base gd gv gl gn N v n L1 O1 f gr vL vW L2 O2 x ab cb ak ck h0 hb hx kd kr hN h1 h2 k5
  by_cases k6 : x.kind = 6
  · exact ac6 W0 w base gd gv gl gn N v n L1 O1 f gr vL vW L2 O2 x ab cb ak ck h0 hb hx kd kr hN h1 h2 k6
  exact ac0 W0 w base gd gv gl gn N v n L1 O1 f gr vL vW L2 O2 x ab cb ak ck h0 hb hx kd kr hN h1 h2 ⟨k1, k2, k3, k4, k5, k6⟩
end Go.Proofs.Ytldgiimkkgmgaaa
/-
  An act of the law's script: kind 1.
-/
namespace Go.Proofs.Ytldgiimkkgmgaaa
open Go.RowKit

def AcPost1 (base N n gd gv gl gn gr : Nat) (vL : Value) (L1 : Int → List Int) (O1 : List (Int × List Int)) (L2 : Int → List Int) (O2 : List (Int × List Int)) (f : Int) (x : OpZ) (w : World) (e : Ending) (w' : World) : Prop :=
  ∃ v vW, e = .returned (.tuple #[.pointer (some ⟨gd, 0, none⟩), .pointer (some ⟨gr, 0, none⟩), .bool true]) ∧ Dv w' base gd gv gl gn v (N + 1) (n : Int) L1 (wrO n f x.i O1 (x.b.take 600)) (wrF n f x.i (x.b.take 600).length) ∧ Rv w' base gr vL vW n L2 (wrO n f x.i O2 (x.b.take 600)) (wrF n f x.i (x.b.take 600).length) ∧ Fb base w w'
set_option maxHeartbeats 6400000 in
set_option maxRecDepth 100000 in
theorem ac1s (W0 w : World) (base gd gv gl gn N : Nat) (v : Value) (n : Nat) (L1 : Int → List Int) (O1 : List (Int × List Int)) (f : Int) (gr : Nat) (vL vW : Value) (L2 : Int → List Int) (O2 : List (Int × List Int)) (x : OpZ) (ab : Option Addr) (cb : Nat) (ak : Option Addr) (ck : Nat) (h0 : W0.heap.size = base) (hb : Below base W0 w) (hx : OpR W0 x ab cb ak ck) (kd : Dv w base gd gv gl gn v N (n : Int) L1 O1 f) (kr : Rv w base gr vL vW n L2 O2 f) (hN : N + O1.length + 1 ≤ 1000000) (h1 : O1.length ≤ 60000) (h2 : O2.length ≤ 60000) (hk : x.kind = 1) :
    Calls Try.prog 11 #[.pointer (some ⟨gd, 0, none⟩), .pointer (some ⟨gr, 0, none⟩), .agg (opV x ab cb ak ck).toArray] w (AcPost1 base N n gd gv gl gn gr vL L1 O1 L2 O2 f x w) := by
  have HO : Hid (N + O1.length + 1 ≤ 1000000 ∧ O1.length ≤ 60000 ∧ O2.length ≤ 60000) := ⟨hN, h1, h2⟩
  clear hN h1 h2
  obtain ⟨kind, i, at_, torn, mask, b, keep⟩ := x
  obtain ⟨⟨ok1, ok2, ok3, ok4, ok5⟩, hB, hKp⟩ := hx
  simp only [] at hk ok1 ok2 ok3 ok4 ok5 hB hKp
  unfold opV
  simp only []
  subst hk
  have HX : Hid (W0.heap.size = base) := h0
  have HD := hid kd
  have HR := hid kr
  have HBB := hid hB
  have HKP := hid hKp
  have HBW := hid hb
  have hbz := kd.size
  have HOK : Hid (okI i ∧ okI at_ ∧ okI torn ∧ (0 ≤ mask ∧ mask ≤ 255)) := ⟨ok2, ok3, ok4, ok5⟩
  clear h0 kd kr hB hKp hb ok2 ok3 ok4 ok5
  obtain ⟨nb, hnb⟩ : ∃ m, m = b.length := ⟨_, rfl⟩
  obtain ⟨nk, hnk⟩ : ∃ m, m = keep.length := ⟨_, rfl⟩
  have HNB := hid hnb
  have HNK := hid hnk
  rw [← hnb, ← hnk]
  clear hnb hnk
  have HCUT : Hid (∀ W, Below base W0 W → Calls Try.prog 16 #[.slice ab nb cb] W (fun e w' => e = .returned (.slice ab (b.take 600).length cb) ∧ w' = W)) := fun W hW => by
    have h9 := cut_any ab cb b W (HBB.out.later (by rw [HX.out]; exact hW))
    rw [← HNB.out] at h9
    exact h9
  have HTK : Hid (Ri W0 .u8 ab cb (b.take 600)) := HBB.out.take 600
  obtain ⟨bt, hbt⟩ : ∃ l, l = b.take 600 := ⟨_, rfl⟩
  have HBT := hid hbt
  rw [← hbt] at HCUT HTK
  clear hbt
  obtain ⟨nt, hnt⟩ : ∃ m, m = bt.length := ⟨_, rfl⟩
  have HNT := hid hnt
  rw [← hnt] at HCUT
  clear hnt
  go_enter Try.func11, Try.ntmps11
  go_wp2_with fail
  have HA : Hid (Below w.heap.size w (w.alloc (.cells #[.int .i64 1, .int .i64 i, .int .i64 at_, .int .i64 torn, .int .u8 mask, .slice ab nb cb, .slice ak nk ck] 36))) := bel_alloc w _
  have HG : Hid ((w.alloc (.cells #[.int .i64 1, .int .i64 i, .int .i64 at_, .int .i64 torn, .int .u8 mask, .slice ab nb cb, .slice ak nk ck] 36)).heap[w.heap.size]? = some (.cells #[.int .i64 1, .int .i64 i, .int .i64 at_, .int .i64 torn, .int .u8 mask, .slice ab nb cb, .slice ak nk ck] 36 (0, 0))) := heap_new w _
  refine (HCUT.out _ (HBW.out.trans (HA.out.mono hbz))).mono ?_
  rintro _ w1 ⟨rfl, hw⟩
  obtain rfl := hw
  have hg := HG.out
  have HA1 : Hid (Below w.heap.size w ((w.alloc (.cells #[.int .i64 1, .int .i64 i, .int .i64 at_, .int .i64 torn, .int .u8 mask, .slice ab nb cb, .slice ak nk ck] 36)).setCell ⟨w.heap.size, 5, none⟩ (.slice ab nt cb))) := HA.out.setCell (Nat.le_refl _) _
  have hset : ((w.alloc (.cells #[.int .i64 1, .int .i64 i, .int .i64 at_, .int .i64 torn, .int .u8 mask, .slice ab nb cb, .slice ak nk ck] 36)).setCell ⟨w.heap.size, 5, none⟩ (.slice ab nt cb)).heap[w.heap.size]? = some (.cells #[.int .i64 1, .int .i64 i, .int .i64 at_, .int .i64 torn, .int .u8 mask, .slice ab nt cb, .slice ak nk ck] 36 (0, 0)) := by
    rw [Joins.block_setCell HG.out _]
    simp
  have HFB := hid (Fb.below HA1.out hbz)
  have HD1 := hid (HD.out.below HA1.out)
  have HR1 := hid (HR.out.below HA1.out)
  have HW1 := hid (HBW.out.trans (HA1.out.mono hbz))
  clear HA HA1 HG HD HR HBW HCUT
  generalize w.alloc (.cells #[.int .i64 1, .int .i64 i, .int .i64 at_, .int .i64 torn, .int .u8 mask, .slice ab nb cb, .slice ak nk ck] 36) = v0 at *
  generalize w.heap.size = g0 at *
  have c0 := Joins.cell_of_block hg 0
  have c1 := Joins.cell_of_block hg 1
  have c5 := Joins.cell_of_block hg 5
  have hu := Joins.unfrozen_of_block hg 5
  have x0 := Joins.cell_of_block hset 0
  have x1 := Joins.cell_of_block hset 1
  have x2 := Joins.cell_of_block hset 2
  have x3 := Joins.cell_of_block hset 3
  have x4 := Joins.cell_of_block hset 4
  have x5 := Joins.cell_of_block hset 5
  have x6 := Joins.cell_of_block hset 6
  have HS := hid hset
  clear hg hset
  go_wp2_with fail
  refine wp_region_held_drew (S := fun W => W.heap[g0]? = some (.cells #[.int .i64 1, .int .i64 i, .int .i64 at_, .int .i64 torn, .int .u8 mask, .slice ab nt cb, .slice ak nk ck] 36 (0, 0))) (by kernel_rfl) (show (v0.setCell ⟨g0, 5, none⟩ (.slice ab nt cb)).drew.heap[g0]? = _ from HS.out) (fun hS0 => ?_)
  have HD2 : Hid (Dv (v0.setCell ⟨g0, 5, none⟩ (.slice ab nt cb)).drew base gd gv gl gn v N (n : Int) L1 O1 f) := HD1.out.later (fun _ _ => rfl)
  have HR2 : Hid (Rv (v0.setCell ⟨g0, 5, none⟩ (.slice ab nt cb)).drew base gr vL vW n L2 O2 f) := HR1.out.keep (fun _ _ _ _ _ _ h => h)
  have HF2 := hid HFB.out.drew
  have HW2 := hid HW1.out.drew
  clear HD1 HR1 HFB HW1 HS x0 x1 x2 x3 x4 x5 x6 c0 c1 c5 hu
  generalize (v0.setCell ⟨g0, 5, none⟩ (.slice ab nt cb)).drew = v1 at *
  refine Ord.take (i := 0) (d := 31) (v := ?vk10) rfl rfl (by as_aux_lemma => kernel_rfl) (by as_aux_lemma => kernel_rfl) (by as_aux_lemma => kernel_rfl) (fun _ _ _ h => h) (by rfl) ?hk10 (by assumption) ?_
  case hk10 => intro w hSw; go_simp; try with_reducible rfl
  simp only [List.setIfInBounds_toArray, List.set_cons_zero, List.set_cons_succ]
  refine Ord.take (i := 1) (d := 32) (v := ?vk11) rfl rfl (by as_aux_lemma => kernel_rfl) (by as_aux_lemma => kernel_rfl) (by as_aux_lemma => kernel_rfl) (fun _ _ _ h => h) (by rfl) ?hk11 (by assumption) ?_
  case hk11 => intro w hSw; go_simp; try with_reducible rfl
  simp only [List.setIfInBounds_toArray, List.set_cons_zero, List.set_cons_succ]
  refine Ord.take (i := 2) (d := 33) (v := ?vk12) rfl rfl (by as_aux_lemma => kernel_rfl) (by as_aux_lemma => kernel_rfl) (by as_aux_lemma => kernel_rfl) (fun _ _ _ h => h) (by rfl) ?hk12 (by assumption) ?_
  case hk12 => intro w hSw; go_simp; try with_reducible rfl
  simp only [List.setIfInBounds_toArray, List.set_cons_zero, List.set_cons_succ]
  refine Ord.take (i := 3) (d := 34) (v := ?vk13) rfl rfl (by as_aux_lemma => kernel_rfl) (by as_aux_lemma => kernel_rfl) (by as_aux_lemma => kernel_rfl) (fun _ _ _ h => h) (by rfl) ?hk13 (by assumption) ?_
  case hk13 => intro w hSw; go_simp; try with_reducible rfl
  simp only [List.setIfInBounds_toArray, List.set_cons_zero, List.set_cons_succ]
  refine Ord.take (i := 4) (d := 35) (v := ?vk14) rfl rfl (by as_aux_lemma => kernel_rfl) (by as_aux_lemma => kernel_rfl) (by as_aux_lemma => kernel_rfl) (fun _ _ _ h => h) (by rfl) ?hk14 (by assumption) ?_
  case hk14 => intro w hSw; have q9 := Joins.cell_of_block hSw 1; go_simp; try with_reducible rfl
  simp only [List.setIfInBounds_toArray, List.set_cons_zero, List.set_cons_succ]
  refine Ord.take (i := 5) (d := 36) (v := ?vk15) rfl rfl (by as_aux_lemma => kernel_rfl) (by as_aux_lemma => kernel_rfl) (by as_aux_lemma => kernel_rfl) (fun _ _ _ h => h) (by rfl) ?hk15 (by assumption) ?_
  case hk15 => intro w hSw; go_simp; try with_reducible rfl
  simp only [List.setIfInBounds_toArray, List.set_cons_zero, List.set_cons_succ]
  refine Ord.take (i := 6) (d := 37) (v := ?vk16) rfl rfl (by as_aux_lemma => kernel_rfl) (by as_aux_lemma => kernel_rfl) (by as_aux_lemma => kernel_rfl) (fun _ _ _ h => h) (by rfl) ?hk16 (by assumption) ?_
  case hk16 => intro w hSw; have q9 := Joins.cell_of_block hSw 5; go_simp; try with_reducible rfl
  simp only [List.setIfInBounds_toArray, List.set_cons_zero, List.set_cons_succ]
  refine Ord.take (i := 8) (d := 39) (v := ?vk18) rfl rfl (by as_aux_lemma => kernel_rfl) (by as_aux_lemma => kernel_rfl) (by as_aux_lemma => kernel_rfl) (fun _ _ _ h => h) (by rfl) ?hk18 (by assumption) ?_
  case hk18 => intro w hSw; go_simp; try with_reducible rfl
  simp only [List.setIfInBounds_toArray, List.set_cons_zero, List.set_cons_succ]
  refine Ord.take (i := 9) (d := 40) (v := ?vk19) rfl rfl (by as_aux_lemma => kernel_rfl) (by as_aux_lemma => kernel_rfl) (by as_aux_lemma => kernel_rfl) (fun _ _ _ h => h) (by rfl) ?hk19 (by assumption) ?_
  case hk19 => intro w hSw; go_simp; try with_reducible rfl
  simp only [List.setIfInBounds_toArray, List.set_cons_zero, List.set_cons_succ]
  refine Ord.take (i := 10) (d := 41) (v := ?vk110) rfl rfl (by as_aux_lemma => kernel_rfl) (by as_aux_lemma => kernel_rfl) (by as_aux_lemma => kernel_rfl) (fun _ _ _ h => h) (by rfl) ?hk110 (by assumption) ?_
  case hk110 => intro w hSw; have q9 := Joins.cell_of_block hSw 1; go_simp; try with_reducible rfl
  simp only [List.setIfInBounds_toArray, List.set_cons_zero, List.set_cons_succ]
  refine Ord.take (i := 11) (d := 42) (v := ?vk111) rfl rfl (by as_aux_lemma => kernel_rfl) (by as_aux_lemma => kernel_rfl) (by as_aux_lemma => kernel_rfl) (fun _ _ _ h => h) (by rfl) ?hk111 (by assumption) ?_
  case hk111 => intro w hSw; go_simp; try with_reducible rfl
  simp only [List.setIfInBounds_toArray, List.set_cons_zero, List.set_cons_succ]
  refine Ord.take (i := 12) (d := 43) (v := ?vk112) rfl rfl (by as_aux_lemma => kernel_rfl) (by as_aux_lemma => kernel_rfl) (by as_aux_lemma => kernel_rfl) (fun _ _ _ h => h) (by rfl) ?hk112 (by assumption) ?_
  case hk112 => intro w hSw; have q9 := Joins.cell_of_block hSw 5; go_simp; try with_reducible rfl
  simp only [List.setIfInBounds_toArray, List.set_cons_zero, List.set_cons_succ]
  refine wpAnyH_ready (rs := [7]) (by as_aux_lemma => kernel_rfl) (by simp) (AllReadyH.cons rfl (fun KK hK => ?_) AllReadyH.nil)
  go_simp
  obtain ⟨o1, o2, o3⟩ := HO.out
  have HWR := write_ok base gd gv gl gn N v n L1 O1 f i ab cb bt v1 HD2.out (Rx.low HTK.out HX.out HW2.out) (by omega) o2
  rw [← HNT.out] at HWR
  refine HWR.mono ?_
  rintro _ w2 ⟨rfl, ⟨v2, hd2⟩, hf2⟩
  have hS2 := hf2.typ g0 _ 36 _ (by decide) (by decide) hS0
  refine hK.out _ _ hS2 (fun _ => ?_)
  clear hK HWR
  have HD3 := hid hd2
  have HR3 := hid (HR2.out.code hf2)
  have HF3 := hid (HF2.out.trans hf2.fb)
  have HW3 := hid (HW2.out.trans hf2.bel)
  clear hd2 hf2 hS0 HD2 HR2 HF2 HW2 o1 o2 o3
  try simp only [List.setIfInBounds_toArray, List.set_cons_zero, List.set_cons_succ]
  refine wpAnyH_ready (rs := [13]) (by as_aux_lemma => kernel_rfl) (by simp) (AllReadyH.cons rfl (fun KK hK => ?_) AllReadyH.nil)
  go_simp
  obtain ⟨o1, o2, o3⟩ := HO.out
  have HWR := rwrite_ref base gr n vL vW L2 O2 f i ab cb bt w2 HR3.out (RxD.low HTK.out HX.out HW3.out) o3
  rw [← HNT.out] at HWR
  refine HWR.mono ?_
  rintro _ w3 ⟨rfl, ⟨vW3, hr3⟩, hf3⟩
  have hS3 := hf3.cells hS2 (by decide)
  refine hK.out _ _ hS3 (fun _ => ?_)
  clear hK HWR
  have HD4 := hid (HD3.out.doc hf3)
  have HR4 := hid hr3
  have HF4 := hid (HF3.out.trans hf3.fb)
  clear hr3 hf3 hS2 HD3 HR3 HF3 HW3 o1 o2 o3
  rw [HBT.out] at HD4 HR4
  generalize wrC (n : Int) f i bt.length = cc at *
  try simp only [List.setIfInBounds_toArray, List.set_cons_zero, List.set_cons_succ]
  refine Ord.take (i := 14) (d := 45) (v := .bool true) rfl rfl (by as_aux_lemma => kernel_rfl) (by as_aux_lemma => kernel_rfl) (by as_aux_lemma => kernel_rfl) (fun _ _ _ h => h) (by rfl) ?hk114 (by assumption) ?_
  case hk114 => intro w hSw; go_simp; try with_reducible rfl
  simp only [List.setIfInBounds_toArray, List.set_cons_zero, List.set_cons_succ]
  refine Ord.take (i := 15) (d := 6) (v := ?vk115) rfl rfl (by as_aux_lemma => kernel_rfl) (by as_aux_lemma => kernel_rfl) (by as_aux_lemma => kernel_rfl) (fun _ _ _ h => h) (by rfl) ?hk115 (by assumption) ?_
  case hk115 => intro w hSw; go_simp; try with_reducible rfl
  simp only [List.setIfInBounds_toArray, List.set_cons_zero, List.set_cons_succ]
  refine Ord.take (i := 16) (d := 7) (v := ?vk116) rfl rfl (by as_aux_lemma => kernel_rfl) (by as_aux_lemma => kernel_rfl) (by as_aux_lemma => kernel_rfl) (fun _ _ _ h => h) (by rfl) ?hk116 (by assumption) ?_
  case hk116 => intro w hSw; go_simp; try with_reducible rfl
  simp only [List.setIfInBounds_toArray, List.set_cons_zero, List.set_cons_succ]
  refine Ord.take (i := 17) (d := 8) (v := .bool true) rfl rfl (by as_aux_lemma => kernel_rfl) (by as_aux_lemma => kernel_rfl) (by as_aux_lemma => kernel_rfl) (fun _ _ _ h => h) (by rfl) ?hk117 (by assumption) ?_
  case hk117 => intro w hSw; go_simp; try with_reducible rfl
  simp only [List.setIfInBounds_toArray, List.set_cons_zero, List.set_cons_succ]
  refine wpAnyH_done (by as_aux_lemma => kernel_rfl) ?_ _
  clear hS3
  go_wp2_with fail
  go_ret3
  unfold AcPost1
  exact ⟨v2, vW3, rfl, HD4.out, HR4.out, HF4.out⟩
end Go.Proofs.Ytldgiimkkgmgaaa
