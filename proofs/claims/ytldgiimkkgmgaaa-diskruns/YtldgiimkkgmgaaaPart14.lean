/-
  An act of the law's script: kind 6.
-/
import Derived.Test.YtldgiimkkgmgaaaPart11
import Derived.Test.YtldgiimkkgmgaaaPart12
import Derived.Test.YtldgiimkkgmgaaaPart13
namespace Go.Proofs.Ytldgiimkkgmgaaa
open Go.RowKit

set_option maxHeartbeats 6400000 in
set_option maxRecDepth 100000 in
theorem ac6 (W0 w : World) (base gd gv gl gn N : Nat) (v : Value) (n : Nat) (L1 : Int → List Int) (O1 : List (Int × List Int)) (f : Int) (gr : Nat) (vL vW : Value) (L2 : Int → List Int) (O2 : List (Int × List Int)) (x : OpZ) (ab : Option Addr) (cb : Nat) (ak : Option Addr) (ck : Nat) (h0 : W0.heap.size = base) (hb : Below base W0 w) (hx : OpR W0 x ab cb ak ck) (kd : Dv w base gd gv gl gn v N (n : Int) L1 O1 f) (kr : Rv w base gr vL vW n L2 O2 f) (hN : N + O1.length + 1 ≤ 1000000) (h1 : O1.length ≤ 60000) (h2 : O2.length ≤ 60000) (hk : x.kind = 6) :
    Calls Try.prog 11 #[.pointer (some ⟨gd, 0, none⟩), .pointer (some ⟨gr, 0, none⟩), .agg (opV x ab cb ak ck).toArray] w (AcPost base N n L1 O1 L2 O2 f x w) := by
  have HO : Hid (N + O1.length + 1 ≤ 1000000 ∧ O1.length ≤ 60000 ∧ O2.length ≤ 60000) := ⟨hN, h1, h2⟩
  clear hN h1 h2
  obtain ⟨kind, i, at_, torn, mask, b, keep⟩ := x
  obtain ⟨⟨ok1, ok2, ok3, ok4, ok5⟩, hB, hKp⟩ := hx
  simp only [] at hk ok1 ok2 ok3 ok4 ok5 hB hKp
  unfold opV
  simp only []
  subst hk
  have HX : Hid (W0.heap.size = base) := h0
  have HD := hid kd
  have HR := hid kr
  have HBB := hid hB
  have HKP := hid hKp
  have HBW := hid hb
  have hbz := kd.size
  have HOK : Hid (okI i ∧ okI at_ ∧ okI torn ∧ (0 ≤ mask ∧ mask ≤ 255)) := ⟨ok2, ok3, ok4, ok5⟩
  clear h0 kd kr hB hKp hb ok2 ok3 ok4 ok5
  obtain ⟨nb, hnb⟩ : ∃ m, m = b.length := ⟨_, rfl⟩
  obtain ⟨nk, hnk⟩ : ∃ m, m = keep.length := ⟨_, rfl⟩
  have HNB := hid hnb
  have HNK := hid hnk
  rw [← hnb, ← hnk]
  clear hnb hnk
  have HCUT : Hid (∀ W, Below base W0 W → Calls Try.prog 16 #[.slice ab nb cb] W (fun e w' => e = .returned (.slice ab (b.take 600).length cb) ∧ w' = W)) := fun W hW => by
    have h9 := cut_any ab cb b W (HBB.out.later (by rw [HX.out]; exact hW))
    rw [← HNB.out] at h9
    exact h9
  have HTK : Hid (Ri W0 .u8 ab cb (b.take 600)) := HBB.out.take 600
  obtain ⟨bt, hbt⟩ : ∃ l, l = b.take 600 := ⟨_, rfl⟩
  have HBT := hid hbt
  rw [← hbt] at HCUT HTK
  clear hbt
  obtain ⟨nt, hnt⟩ : ∃ m, m = bt.length := ⟨_, rfl⟩
  have HNT := hid hnt
  rw [← hnt] at HCUT
  clear hnt
  go_enter Try.func11, Try.ntmps11
  go_wp2_with fail
  have HA : Hid (Below w.heap.size w (w.alloc (.cells #[.int .i64 6, .int .i64 i, .int .i64 at_, .int .i64 torn, .int .u8 mask, .slice ab nb cb, .slice ak nk ck] 36))) := bel_alloc w _
  have HG : Hid ((w.alloc (.cells #[.int .i64 6, .int .i64 i, .int .i64 at_, .int .i64 torn, .int .u8 mask, .slice ab nb cb, .slice ak nk ck] 36)).heap[w.heap.size]? = some (.cells #[.int .i64 6, .int .i64 i, .int .i64 at_, .int .i64 torn, .int .u8 mask, .slice ab nb cb, .slice ak nk ck] 36 (0, 0))) := heap_new w _
  refine (HCUT.out _ (HBW.out.trans (HA.out.mono hbz))).mono ?_
  rintro _ w1 ⟨rfl, hw⟩
  obtain rfl := hw
  have hg := HG.out
  have HA1 : Hid (Below w.heap.size w ((w.alloc (.cells #[.int .i64 6, .int .i64 i, .int .i64 at_, .int .i64 torn, .int .u8 mask, .slice ab nb cb, .slice ak nk ck] 36)).setCell ⟨w.heap.size, 5, none⟩ (.slice ab nt cb))) := HA.out.setCell (Nat.le_refl _) _
  have hset : ((w.alloc (.cells #[.int .i64 6, .int .i64 i, .int .i64 at_, .int .i64 torn, .int .u8 mask, .slice ab nb cb, .slice ak nk ck] 36)).setCell ⟨w.heap.size, 5, none⟩ (.slice ab nt cb)).heap[w.heap.size]? = some (.cells #[.int .i64 6, .int .i64 i, .int .i64 at_, .int .i64 torn, .int .u8 mask, .slice ab nt cb, .slice ak nk ck] 36 (0, 0)) := by
    rw [Joins.block_setCell HG.out _]
    simp
  have HFB := hid (Fb.below HA1.out hbz)
  have HD1 := hid (HD.out.below HA1.out)
  have HR1 := hid (HR.out.below HA1.out)
  have HW1 := hid (HBW.out.trans (HA1.out.mono hbz))
  clear HA HA1 HG HD HR HBW HCUT
  generalize w.alloc (.cells #[.int .i64 6, .int .i64 i, .int .i64 at_, .int .i64 torn, .int .u8 mask, .slice ab nb cb, .slice ak nk ck] 36) = v0 at *
  generalize w.heap.size = g0 at *
  have c0 := Joins.cell_of_block hg 0
  have c1 := Joins.cell_of_block hg 1
  have c5 := Joins.cell_of_block hg 5
  have hu := Joins.unfrozen_of_block hg 5
  have x0 := Joins.cell_of_block hset 0
  have x1 := Joins.cell_of_block hset 1
  have x2 := Joins.cell_of_block hset 2
  have x3 := Joins.cell_of_block hset 3
  have x4 := Joins.cell_of_block hset 4
  have x5 := Joins.cell_of_block hset 5
  have x6 := Joins.cell_of_block hset 6
  have HS := hid hset
  clear hg hset
  go_wp2_with fail
  refine wp_region_held_drew (S := fun W => W.heap[g0]? = some (.cells #[.int .i64 6, .int .i64 i, .int .i64 at_, .int .i64 torn, .int .u8 mask, .slice ab nt cb, .slice ak nk ck] 36 (0, 0))) (by kernel_rfl) (show (v0.setCell ⟨g0, 5, none⟩ (.slice ab nt cb)).drew.heap[g0]? = _ from HS.out) (fun hS0 => ?_)
  have HD2 : Hid (Dv (v0.setCell ⟨g0, 5, none⟩ (.slice ab nt cb)).drew base gd gv gl gn v N (n : Int) L1 O1 f) := HD1.out.later (fun _ _ => rfl)
  have HR2 : Hid (Rv (v0.setCell ⟨g0, 5, none⟩ (.slice ab nt cb)).drew base gr vL vW n L2 O2 f) := HR1.out.keep (fun _ _ _ _ _ _ h => h)
  have HF2 := hid HFB.out.drew
  have HW2 := hid HW1.out.drew
  clear HD1 HR1 HFB HW1 HS x0 x1 x2 x3 x4 x5 x6 c0 c1 c5 hu
  generalize (v0.setCell ⟨g0, 5, none⟩ (.slice ab nt cb)).drew = v1 at *
  refine Ord.take (i := 0) (d := 177) (v := ?vk60) rfl rfl (by as_aux_lemma => kernel_rfl) (by as_aux_lemma => kernel_rfl) (by as_aux_lemma => kernel_rfl) (fun _ _ _ h => h) (by rfl) ?hk60 (by assumption) ?_
  case hk60 => intro w hSw; go_simp; try with_reducible rfl
  simp only [List.setIfInBounds_toArray, List.set_cons_zero, List.set_cons_succ]
  refine Ord.take (i := 1) (d := 178) (v := ?vk61) rfl rfl (by as_aux_lemma => kernel_rfl) (by as_aux_lemma => kernel_rfl) (by as_aux_lemma => kernel_rfl) (fun _ _ _ h => h) (by rfl) ?hk61 (by assumption) ?_
  case hk61 => intro w hSw; go_simp; try with_reducible rfl
  simp only [List.setIfInBounds_toArray, List.set_cons_zero, List.set_cons_succ]
  refine Ord.take (i := 2) (d := 179) (v := ?vk62) rfl rfl (by as_aux_lemma => kernel_rfl) (by as_aux_lemma => kernel_rfl) (by as_aux_lemma => kernel_rfl) (fun _ _ _ h => h) (by rfl) ?hk62 (by assumption) ?_
  case hk62 => intro w hSw; go_simp; try with_reducible rfl
  simp only [List.setIfInBounds_toArray, List.set_cons_zero, List.set_cons_succ]
  refine Ord.take (i := 3) (d := 180) (v := ?vk63) rfl rfl (by as_aux_lemma => kernel_rfl) (by as_aux_lemma => kernel_rfl) (by as_aux_lemma => kernel_rfl) (fun _ _ _ h => h) (by rfl) ?hk63 (by assumption) ?_
  case hk63 => intro w hSw; go_simp; try with_reducible rfl
  simp only [List.setIfInBounds_toArray, List.set_cons_zero, List.set_cons_succ]
  refine Ord.take (i := 4) (d := 181) (v := ?vk64) rfl rfl (by as_aux_lemma => kernel_rfl) (by as_aux_lemma => kernel_rfl) (by as_aux_lemma => kernel_rfl) (fun _ _ _ h => h) (by rfl) ?hk64 (by assumption) ?_
  case hk64 => intro w hSw; have q9 := Joins.cell_of_block hSw 1; go_simp; try with_reducible rfl
  simp only [List.setIfInBounds_toArray, List.set_cons_zero, List.set_cons_succ]
  refine Ord.take (i := 6) (d := 183) (v := ?vk66) rfl rfl (by as_aux_lemma => kernel_rfl) (by as_aux_lemma => kernel_rfl) (by as_aux_lemma => kernel_rfl) (fun _ _ _ h => h) (by rfl) ?hk66 (by assumption) ?_
  case hk66 => intro w hSw; go_simp; try with_reducible rfl
  simp only [List.setIfInBounds_toArray, List.set_cons_zero, List.set_cons_succ]
  refine Ord.take (i := 7) (d := 184) (v := ?vk67) rfl rfl (by as_aux_lemma => kernel_rfl) (by as_aux_lemma => kernel_rfl) (by as_aux_lemma => kernel_rfl) (fun _ _ _ h => h) (by rfl) ?hk67 (by assumption) ?_
  case hk67 => intro w hSw; go_simp; try with_reducible rfl
  simp only [List.setIfInBounds_toArray, List.set_cons_zero, List.set_cons_succ]
  refine Ord.take (i := 8) (d := 185) (v := ?vk68) rfl rfl (by as_aux_lemma => kernel_rfl) (by as_aux_lemma => kernel_rfl) (by as_aux_lemma => kernel_rfl) (fun _ _ _ h => h) (by rfl) ?hk68 (by assumption) ?_
  case hk68 => intro w hSw; have q9 := Joins.cell_of_block hSw 1; go_simp; try with_reducible rfl
  simp only [List.setIfInBounds_toArray, List.set_cons_zero, List.set_cons_succ]
  refine wpAnyH_ready (rs := [5]) (by as_aux_lemma => kernel_rfl) (by simp) (AllReadyH.cons rfl (fun KK hK => ?_) AllReadyH.nil)
  go_simp
  have HWR := fuse_ok base gd gv gl gn N v n L1 O1 f i v1 HD2.out HOK.out.1
  refine HWR.mono ?_
  rintro _ w2 ⟨rfl, hd2, hf2⟩
  have hS2 := hf2.typ g0 _ 36 _ (by decide) (by decide) hS0
  refine hK.out _ _ hS2 (fun _ => ?_)
  clear hK HWR
  have HD3 := hid hd2
  have HR3 := hid (HR2.out.code hf2)
  have HF3 := hid (HF2.out.trans hf2.fb)
  clear hd2 hf2 hS0 HD2 HR2 HF2 HW2
  try simp only [List.setIfInBounds_toArray, List.set_cons_zero, List.set_cons_succ]
  refine wpAnyH_ready (rs := [9]) (by as_aux_lemma => kernel_rfl) (by simp) (AllReadyH.cons rfl (fun KK hK => ?_) AllReadyH.nil)
  go_simp
  have HWR := fuse_ref base gr n vL vW L2 O2 f i w2 HR3.out HOK.out.1
  refine HWR.mono ?_
  rintro _ w3 ⟨rfl, hr3, hf3⟩
  have hS3 := hf3.cells hS2 (by decide)
  refine hK.out _ _ hS3 (fun _ => ?_)
  clear hK HWR
  have HD4 := hid (HD3.out.doc hf3)
  have HR4 := hid hr3
  have HF4 := hid (HF3.out.trans hf3.fb)
  clear hr3 hf3 hS2 HD3 HR3 HF3
  try simp only [List.setIfInBounds_toArray, List.set_cons_zero, List.set_cons_succ]
  refine Ord.take (i := 10) (d := 187) (v := .bool true) rfl rfl (by as_aux_lemma => kernel_rfl) (by as_aux_lemma => kernel_rfl) (by as_aux_lemma => kernel_rfl) (fun _ _ _ h => h) (by rfl) ?hk610 (by assumption) ?_
  case hk610 => intro w hSw; go_simp; try with_reducible rfl
  simp only [List.setIfInBounds_toArray, List.set_cons_zero, List.set_cons_succ]
  refine Ord.take (i := 11) (d := 6) (v := ?vk611) rfl rfl (by as_aux_lemma => kernel_rfl) (by as_aux_lemma => kernel_rfl) (by as_aux_lemma => kernel_rfl) (fun _ _ _ h => h) (by rfl) ?hk611 (by assumption) ?_
  case hk611 => intro w hSw; go_simp; try with_reducible rfl
  simp only [List.setIfInBounds_toArray, List.set_cons_zero, List.set_cons_succ]
  refine Ord.take (i := 12) (d := 7) (v := ?vk612) rfl rfl (by as_aux_lemma => kernel_rfl) (by as_aux_lemma => kernel_rfl) (by as_aux_lemma => kernel_rfl) (fun _ _ _ h => h) (by rfl) ?hk612 (by assumption) ?_
  case hk612 => intro w hSw; go_simp; try with_reducible rfl
  simp only [List.setIfInBounds_toArray, List.set_cons_zero, List.set_cons_succ]
  refine Ord.take (i := 13) (d := 8) (v := .bool true) rfl rfl (by as_aux_lemma => kernel_rfl) (by as_aux_lemma => kernel_rfl) (by as_aux_lemma => kernel_rfl) (fun _ _ _ h => h) (by rfl) ?hk613 (by assumption) ?_
  case hk613 => intro w hSw; go_simp; try with_reducible rfl
  simp only [List.setIfInBounds_toArray, List.set_cons_zero, List.set_cons_succ]
  refine wpAnyH_done (by as_aux_lemma => kernel_rfl) ?_ _
  clear hS3
  go_wp2_with fail
  go_ret3
  unfold AcPost
  exact ⟨gd, gv, gl, gn, v, gr, vL, vW, true, rfl, HD4.out.mono (by omega), HR4.out, fun _ _ => rfl, HF4.out⟩
end Go.Proofs.Ytldgiimkkgmgaaa
/-
  An act of the law's script.
-/
namespace Go.Proofs.Ytldgiimkkgmgaaa
open Go.RowKit

theorem act_ok (W0 w : World) (base gd gv gl gn N : Nat) (v : Value) (n : Nat) (L1 : Int → List Int) (O1 : List (Int × List Int)) (f : Int) (gr : Nat) (vL vW : Value) (L2 : Int → List Int) (O2 : List (Int × List Int)) (x : OpZ) (ab : Option Addr) (cb : Nat) (ak : Option Addr) (ck : Nat) (h0 : W0.heap.size = base) (hb : Below base W0 w) (hx : OpR W0 x ab cb ak ck) (kd : Dv w base gd gv gl gn v N (n : Int) L1 O1 f) (kr : Rv w base gr vL vW n L2 O2 f) (hN : N + O1.length + 1 ≤ 1000000) (h1 : O1.length ≤ 60000) (h2 : O2.length ≤ 60000) :
    Calls Try.prog 11 #[.pointer (some ⟨gd, 0, none⟩), .pointer (some ⟨gr, 0, none⟩), .agg (opV x ab cb ak ck).toArray] w (AcPost base N n L1 O1 L2 O2 f x w) := by
  by_cases k1 : x.kind = 1
  · exact ac1 W0 w base gd gv gl gn N v n L1 O1 f gr vL vW L2 O2 x ab cb ak ck h0 hb hx kd kr hN h1 h2 k1
  by_cases k2 : x.kind = 2
  · exact ac2 W0 w base gd gv gl gn N v n L1 O1 f gr vL vW L2 O2 x ab cb ak ck h0 hb hx kd kr hN h1 h2 k2
  by_cases k3 : x.kind = 3
  · exact ac3 W0 w base gd gv gl gn N v n L1 O1 f gr vL vW L2 O2 x ab cb ak ck h0 hb hx kd kr hN h1 h2 k3
  by_cases k4 : x.kind = 4
  · exact ac4 W0 w base gd gv gl gn N v n L1 O1 f gr vL vW L2 O2 x ab cb ak ck h0 hb hx kd kr hN h1 h2 k4
  by_cases k5 : x.kind = 5
  · exact ac5 W0 w base gd gv gl gn N v n L1 O1 f gr vL vW L2 O2 x ab cb ak ck h0 hb hx kd kr hN h1 h2 k5
  by_cases k6 : x.kind = 6
  · exact ac6 W0 w base gd gv gl gn N v n L1 O1 f gr vL vW L2 O2 x ab cb ak ck h0 hb hx kd kr hN h1 h2 k6
  exact ac0 W0 w base gd gv gl gn N v n L1 O1 f gr vL vW L2 O2 x ab cb ak ck h0 hb hx kd kr hN h1 h2 ⟨k1, k2, k3, k4, k5, k6⟩
end Go.Proofs.Ytldgiimkkgmgaaa
/-
  alike: two devices that are in the same state.
-/
namespace Go.Proofs.Ytldgiimkkgmgaaa
open Go.RowKit

set_option maxHeartbeats 6400000 in
set_option maxRecDepth 100000 in
theorem alike_ok (base gd gv gl gn N : Nat) (v : Value) (n : Nat) (L : Int → List Int) (O : List (Int × List Int)) (f : Int) (gr : Nat) (vL vW : Value) (w : World) (kd : Dv w base gd gv gl gn v N (n : Int) L O f) (kr : Rv w base gr vL vW n L O f) (hO : O.length ≤ 60000) :
    Calls Try.prog 12 #[.pointer (some ⟨gd, 0, none⟩), .pointer (some ⟨gr, 0, none⟩)] w fun e w' => e = .returned (.bool true) ∧ Below w.heap.size w w' := by
  have HD := hid kd
  have HR := hid kr
  have HO := hid hO
  obtain ⟨av, cv, rfl⟩ := own_slice kd.row
  obtain ⟨aL, cL, rfl⟩ := kr.rowL.slice
  have hs0 := kd.okS
  have HN : Hid ((4 : Int) ≤ (n : Int) ∧ (n : Int) ≤ 4096) := hs0
  have HE1 := hid (size_ok gd gv _ _ _ _ f false w.drew kd.dsk kd.dev)
  have HE2 := hid (open_ok gd gv _ _ _ _ _ _ f false w.drew kd.dsk kd.dev)
  have HE3 := hid (open_ref base gr n _ _ L O f w.drew (kr.keep (fun _ _ _ _ _ _ h => h)))
  have HE4 := hid (down_ok gd gv _ _ _ _ f false w.drew kd.dsk kd.dev)
  obtain ⟨c0, _, c2, _, _⟩ := kr.blk.cells
  have x0 : w.drew.cell? ⟨gr, 0, none⟩ = some (.slice aL n cL) := c0
  have x2 : w.drew.cell? ⟨gr, 2, none⟩ = some (.bool false) := c2
  have HB0 : Hid (Below w.heap.size w w.drew) := (Below.refl _ _).drew
  clear kd kr hO hs0 c0 c2
  go_enter Try.func12, Try.ntmps12
  go_wp2_with fail
  refine wp_region_held_drew (S := fun W => W = w.drew) (by kernel_rfl) rfl (fun hS0 => ?_)
  generalize w.drew = v1 at *
  refine Ord.take (i := 0) (d := 8) (v := ?va0) rfl rfl (by as_aux_lemma => kernel_rfl) (by as_aux_lemma => kernel_rfl) (by as_aux_lemma => kernel_rfl) (fun _ _ _ h => h) (by rfl) ?ha0 (by assumption) ?_
  case ha0 => intro w hSw; subst hSw; go_simp; try with_reducible rfl
  simp only [List.setIfInBounds_toArray, List.set_cons_zero, List.set_cons_succ]
  refine Ord.take (i := 2) (d := 10) (v := ?va2) rfl rfl (by as_aux_lemma => kernel_rfl) (by as_aux_lemma => kernel_rfl) (by as_aux_lemma => kernel_rfl) (fun _ _ _ h => h) (by rfl) ?ha2 (by assumption) ?_
  case ha2 => intro w hSw; subst hSw; go_simp; try with_reducible rfl
  simp only [List.setIfInBounds_toArray, List.set_cons_zero, List.set_cons_succ]
  refine Ord.take (i := 3) (d := 11) (v := ?va3) rfl rfl (by as_aux_lemma => kernel_rfl) (by as_aux_lemma => kernel_rfl) (by as_aux_lemma => kernel_rfl) (fun _ _ _ h => h) (by rfl) ?ha3 (by assumption) ?_
  case ha3 => intro w hSw; subst hSw; go_simp; try with_reducible rfl
  simp only [List.setIfInBounds_toArray, List.set_cons_zero, List.set_cons_succ]
  refine Ord.take (i := 4) (d := 12) (v := ?va4) rfl rfl (by as_aux_lemma => kernel_rfl) (by as_aux_lemma => kernel_rfl) (by as_aux_lemma => kernel_rfl) (fun _ _ _ h => h) (by rfl) ?ha4 (by assumption) ?_
  case ha4 => intro w hSw; subst hSw; go_simp; try with_reducible rfl
  simp only [List.setIfInBounds_toArray, List.set_cons_zero, List.set_cons_succ]
  refine Ord.take (i := 5) (d := 13) (v := .slice aL n cL) rfl rfl (by as_aux_lemma => kernel_rfl) (by as_aux_lemma => kernel_rfl) (by as_aux_lemma => kernel_rfl) (fun _ _ _ h => h) (by rfl) ?ha5 (by assumption) ?_
  case ha5 => intro w hSw; subst hSw; go_simp; try with_reducible rfl
  simp only [List.setIfInBounds_toArray, List.set_cons_zero, List.set_cons_succ]
  refine Ord.take (i := 6) (d := 14) (v := .int .i64 (n : Int)) rfl rfl (by as_aux_lemma => kernel_rfl) (by as_aux_lemma => kernel_rfl) (by as_aux_lemma => kernel_rfl) (fun _ _ _ h => h) (by rfl) ?ha6 (by assumption) ?_
  case ha6 => intro w hSw; subst hSw; go_simp; try with_reducible rfl
  simp only [List.setIfInBounds_toArray, List.set_cons_zero, List.set_cons_succ]
  refine wpAnyH_ready (rs := [1]) (by as_aux_lemma => kernel_rfl) (by simp) (AllReadyH.cons rfl (fun KK hK => ?_) AllReadyH.nil)
  go_simp
  refine HE1.out.mono ?_
  rintro _ w2 ⟨rfl, hw⟩
  refine hK.out _ _ hw (fun _ => ?_)
  clear hK
  obtain rfl := hw
  clear HE1
  try simp only [List.setIfInBounds_toArray, List.set_cons_zero, List.set_cons_succ]
  refine Ord.take (i := 7) (d := 15) (v := .bool false) rfl rfl (by as_aux_lemma => kernel_rfl) (by as_aux_lemma => kernel_rfl) (by as_aux_lemma => kernel_rfl) (fun _ _ _ h => h) (by rfl) ?ha7 (by assumption) ?_
  case ha7 => intro w hSw; subst hSw; go_simp; try with_reducible rfl
  simp only [List.setIfInBounds_toArray, List.set_cons_zero, List.set_cons_succ]
  refine Ord.take (i := 8) (d := 16) (v := .bool false) rfl rfl (by as_aux_lemma => kernel_rfl) (by as_aux_lemma => kernel_rfl) (by as_aux_lemma => kernel_rfl) (fun _ _ _ h => h) (by rfl) ?ha8 (by assumption) ?_
  case ha8 => intro w hSw; subst hSw; go_simp; try with_reducible rfl
  simp only [List.setIfInBounds_toArray, List.set_cons_zero, List.set_cons_succ]
  refine Ord.take (i := 9) (d := 17) (v := ?va9) rfl rfl (by as_aux_lemma => kernel_rfl) (by as_aux_lemma => kernel_rfl) (by as_aux_lemma => kernel_rfl) (fun _ _ _ h => h) (by rfl) ?ha9 (by assumption) ?_
  case ha9 => intro w hSw; subst hSw; go_simp; try with_reducible rfl
  simp only [List.setIfInBounds_toArray, List.set_cons_zero, List.set_cons_succ]
  refine Ord.take (i := 11) (d := 19) (v := ?va11) rfl rfl (by as_aux_lemma => kernel_rfl) (by as_aux_lemma => kernel_rfl) (by as_aux_lemma => kernel_rfl) (fun _ _ _ h => h) (by rfl) ?ha11 (by assumption) ?_
  case ha11 => intro w hSw; subst hSw; go_simp; try with_reducible rfl
  simp only [List.setIfInBounds_toArray, List.set_cons_zero, List.set_cons_succ]
  refine wpAnyH_ready (rs := [10]) (by as_aux_lemma => kernel_rfl) (by simp) (AllReadyH.cons rfl (fun KK hK => ?_) AllReadyH.nil)
  go_simp
  refine HE2.out.mono ?_
  rintro _ w2 ⟨rfl, hw⟩
  refine hK.out _ _ hw (fun _ => ?_)
  clear hK
  obtain rfl := hw
  clear HE2
  try simp only [List.setIfInBounds_toArray, List.set_cons_zero, List.set_cons_succ]
  refine wpAnyH_ready (rs := [12]) (by as_aux_lemma => kernel_rfl) (by simp) (AllReadyH.cons rfl (fun KK hK => ?_) AllReadyH.nil)
  go_simp
  refine HE3.out.mono ?_
  rintro _ w2 ⟨rfl, hw⟩
  refine hK.out _ _ hw (fun _ => ?_)
  clear hK
  obtain rfl := hw
  clear HE3
  try simp only [List.setIfInBounds_toArray, List.set_cons_zero, List.set_cons_succ]
  refine Ord.take (i := 13) (d := 21) (v := .bool false) rfl rfl (by as_aux_lemma => kernel_rfl) (by as_aux_lemma => kernel_rfl) (by as_aux_lemma => kernel_rfl) (fun _ _ _ h => h) (by rfl) ?ha13 (by assumption) ?_
  case ha13 => intro w hSw; subst hSw; go_simp; try with_reducible rfl
  simp only [List.setIfInBounds_toArray, List.set_cons_zero, List.set_cons_succ]
  refine Ord.take (i := 14) (d := 22) (v := .bool false) rfl rfl (by as_aux_lemma => kernel_rfl) (by as_aux_lemma => kernel_rfl) (by as_aux_lemma => kernel_rfl) (fun _ _ _ h => h) (by rfl) ?ha14 (by assumption) ?_
  case ha14 => intro w hSw; subst hSw; go_simp; try with_reducible rfl
  simp only [List.setIfInBounds_toArray, List.set_cons_zero, List.set_cons_succ]
  refine Ord.take (i := 15) (d := 23) (v := .bool false) rfl rfl (by as_aux_lemma => kernel_rfl) (by as_aux_lemma => kernel_rfl) (by as_aux_lemma => kernel_rfl) (fun _ _ _ h => h) (by rfl) ?ha15 (by assumption) ?_
  case ha15 => intro w hSw; subst hSw; go_simp; try with_reducible rfl
  simp only [List.setIfInBounds_toArray, List.set_cons_zero, List.set_cons_succ]
  refine Ord.take (i := 16) (d := 24) (v := ?va16) rfl rfl (by as_aux_lemma => kernel_rfl) (by as_aux_lemma => kernel_rfl) (by as_aux_lemma => kernel_rfl) (fun _ _ _ h => h) (by rfl) ?ha16 (by assumption) ?_
  case ha16 => intro w hSw; subst hSw; go_simp; try with_reducible rfl
  simp only [List.setIfInBounds_toArray, List.set_cons_zero, List.set_cons_succ]
  refine Ord.take (i := 18) (d := 26) (v := ?va18) rfl rfl (by as_aux_lemma => kernel_rfl) (by as_aux_lemma => kernel_rfl) (by as_aux_lemma => kernel_rfl) (fun _ _ _ h => h) (by rfl) ?ha18 (by assumption) ?_
  case ha18 => intro w hSw; subst hSw; go_simp; try with_reducible rfl
  simp only [List.setIfInBounds_toArray, List.set_cons_zero, List.set_cons_succ]
  refine Ord.take (i := 19) (d := 27) (v := ?va19) rfl rfl (by as_aux_lemma => kernel_rfl) (by as_aux_lemma => kernel_rfl) (by as_aux_lemma => kernel_rfl) (fun _ _ _ h => h) (by rfl) ?ha19 (by assumption) ?_
  case ha19 => intro w hSw; subst hSw; go_simp; try with_reducible rfl
  simp only [List.setIfInBounds_toArray, List.set_cons_zero, List.set_cons_succ]
  refine Ord.take (i := 20) (d := 28) (v := ?va20) rfl rfl (by as_aux_lemma => kernel_rfl) (by as_aux_lemma => kernel_rfl) (by as_aux_lemma => kernel_rfl) (fun _ _ _ h => h) (by rfl) ?ha20 (by assumption) ?_
  case ha20 => intro w hSw; subst hSw; go_simp; try with_reducible rfl
  simp only [List.setIfInBounds_toArray, List.set_cons_zero, List.set_cons_succ]
  refine Ord.take (i := 21) (d := 29) (v := .bool false) rfl rfl (by as_aux_lemma => kernel_rfl) (by as_aux_lemma => kernel_rfl) (by as_aux_lemma => kernel_rfl) (fun _ _ _ h => h) (by rfl) ?ha21 (by assumption) ?_
  case ha21 => intro w hSw; subst hSw; go_simp; try with_reducible rfl
  simp only [List.setIfInBounds_toArray, List.set_cons_zero, List.set_cons_succ]
  refine wpAnyH_ready (rs := [17]) (by as_aux_lemma => kernel_rfl) (by simp) (AllReadyH.cons rfl (fun KK hK => ?_) AllReadyH.nil)
  go_simp
  refine HE4.out.mono ?_
  rintro _ w2 ⟨rfl, hw⟩
  refine hK.out _ _ hw (fun _ => ?_)
  clear hK
  obtain rfl := hw
  clear HE4
  try simp only [List.setIfInBounds_toArray, List.set_cons_zero, List.set_cons_succ]
  refine Ord.take (i := 22) (d := 30) (v := .bool false) rfl rfl (by as_aux_lemma => kernel_rfl) (by as_aux_lemma => kernel_rfl) (by as_aux_lemma => kernel_rfl) (fun _ _ _ h => h) (by rfl) ?ha22 (by assumption) ?_
  case ha22 => intro w hSw; subst hSw; go_simp; try with_reducible rfl
  simp only [List.setIfInBounds_toArray, List.set_cons_zero, List.set_cons_succ]
  refine Ord.take (i := 23) (d := 31) (v := .bool false) rfl rfl (by as_aux_lemma => kernel_rfl) (by as_aux_lemma => kernel_rfl) (by as_aux_lemma => kernel_rfl) (fun _ _ _ h => h) (by rfl) ?ha23 (by assumption) ?_
  case ha23 => intro w hSw; subst hSw; go_simp; try with_reducible rfl
  simp only [List.setIfInBounds_toArray, List.set_cons_zero, List.set_cons_succ]
  refine wpAnyH_done (by as_aux_lemma => kernel_rfl) ?_ _
  clear hS0 x0 x2
  go_wp2_with fail
  go_loopw [5] (fun k wr => ∃ q : Nat, k = .int .i64 (q : Int) ∧ q ≤ n ∧ q ≤ 16 ∧ Hid (Below w.heap.size w wr)) (fun k _ => 16 - (intOf k).toNat)
  case atStart => exact ⟨0, rfl, Nat.zero_le _, Nat.zero_le _, HB0.out⟩
  case round =>
    clear HB0
    obtain ⟨q, rfl, hq, hq2, HBR⟩ := hrel
    have HDW := hid (HD.out.below HBR.out)
    have HRW := hid (HR.out.below HBR.out)
    have x0 := HRW.out.blk.cells.1
    by_cases hlt : q < n
    · have hz1 : (q : Int) < (n : Int) := by omega
      by_cases hl2 : q < 16
      · have hz2 : (q : Int) < 16 := by omega
        have HRE := hid (read_ok _ _ _ _ _ _ _ _ L O f (q : Int) wr HDW.out ⟨by omega, hz1⟩)
        unfold ReaPost at HRE
        go_wp2_with fail
        refine HRE.out.mono ?_
        rintro _ w2 ⟨g, rfl, hg2, _, hb2⟩
        have HK1 : Hid (Blk (holdF L O (q : Int))) := holdF_blk HDW.out.okL (fun x hx => (HDW.out.okO x hx).1) _
        have HB2 := hid (Bn HBR.out hb2.drew)
        have HR2 : Hid (Rv w2.drew base gr (.slice aL n cL) vW n L O f) := HRW.out.below hb2.drew
        have HS1 : Hid (∀ W, Below w2.drew.heap.size w2.drew W → (convert 33 9 (.slice (some ⟨g, 0, none⟩) 512 512)).run Try.prog W = .ok (.string (strOfNums (holdF L O (q : Int)))) W) := fun W hW => by
          have h9 := ((ri_arr (W := w2.drew) hg2 HK1.out).later hW).str
          rw [HK1.out.len] at h9
          exact h9
        have HHO := hid (holds_ref base gr n _ _ L O f (q : Int) w2.drew HR2.out ⟨by omega, hz1⟩ HO.out)
        unfold HoPost at HHO
        clear HRE hb2 hg2 HDW HRW x0 HBR
        go_wp2_with fail
        refine wp_region_held_drew (S := fun W => Below w2.drew.heap.size w2.drew W) (by kernel_rfl) (Below.refl _ _) (fun hS0 => ?_)
        generalize w2.drew = v2 at *
        refine Ord.take (i := 0) (d := 51) (v := ?vb0) rfl rfl (by as_aux_lemma => kernel_rfl) (by as_aux_lemma => kernel_rfl) (by as_aux_lemma => kernel_rfl) (fun _ _ _ h => h) (by rfl) ?hb0 (by assumption) ?_
        case hb0 => intro w hSw; go_simp; try with_reducible rfl
        simp only [List.setIfInBounds_toArray, List.set_cons_zero, List.set_cons_succ]
        refine Ord.take (i := 1) (d := 52) (v := .bool false) rfl rfl (by as_aux_lemma => kernel_rfl) (by as_aux_lemma => kernel_rfl) (by as_aux_lemma => kernel_rfl) (fun _ _ _ h => h) (by rfl) ?hb1 (by assumption) ?_
        case hb1 => intro w hSw; go_simp; try with_reducible rfl
        simp only [List.setIfInBounds_toArray, List.set_cons_zero, List.set_cons_succ]
        refine Ord.take (i := 2) (d := 53) (v := .bool false) rfl rfl (by as_aux_lemma => kernel_rfl) (by as_aux_lemma => kernel_rfl) (by as_aux_lemma => kernel_rfl) (fun _ _ _ h => h) (by rfl) ?hb2 (by assumption) ?_
        case hb2 => intro w hSw; go_simp; try with_reducible rfl
        simp only [List.setIfInBounds_toArray, List.set_cons_zero, List.set_cons_succ]
        refine Ord.take (i := 3) (d := 54) (v := ?vb3) rfl rfl (by as_aux_lemma => kernel_rfl) (by as_aux_lemma => kernel_rfl) (by as_aux_lemma => kernel_rfl) (fun _ _ _ h => h) (by rfl) ?hb3 (by assumption) ?_
        case hb3 => intro w hSw; go_simp; try with_reducible rfl
        simp only [List.setIfInBounds_toArray, List.set_cons_zero, List.set_cons_succ]
        refine Ord.take (i := 4) (d := 55) (v := .string (strOfNums (holdF L O (q : Int)))) rfl rfl (by as_aux_lemma => kernel_rfl) (by as_aux_lemma => kernel_rfl) (by as_aux_lemma => kernel_rfl) (fun _ _ _ h => h) (by rfl) ?hb4 (by assumption) ?_
        case hb4 => intro w hSw; have q9 := HS1.out w hSw; go_simp; try with_reducible rfl
        simp only [List.setIfInBounds_toArray, List.set_cons_zero, List.set_cons_succ]
        refine Ord.take (i := 5) (d := 56) (v := ?vb5) rfl rfl (by as_aux_lemma => kernel_rfl) (by as_aux_lemma => kernel_rfl) (by as_aux_lemma => kernel_rfl) (fun _ _ _ h => h) (by rfl) ?hb5 (by assumption) ?_
        case hb5 => intro w hSw; go_simp; try with_reducible rfl
        simp only [List.setIfInBounds_toArray, List.set_cons_zero, List.set_cons_succ]
        refine Ord.take (i := 6) (d := 57) (v := ?vb6) rfl rfl (by as_aux_lemma => kernel_rfl) (by as_aux_lemma => kernel_rfl) (by as_aux_lemma => kernel_rfl) (fun _ _ _ h => h) (by rfl) ?hb6 (by assumption) ?_
        case hb6 => intro w hSw; go_simp; try with_reducible rfl
        simp only [List.setIfInBounds_toArray, List.set_cons_zero, List.set_cons_succ]
        refine wpAnyH_ready (rs := [7]) (by as_aux_lemma => kernel_rfl) (by simp) (AllReadyH.cons rfl (fun KK hK => ?_) AllReadyH.nil)
        go_simp
        refine HHO.out.mono ?_
        rintro _ w3 ⟨v3, rfl, hk3, ⟨g3, c3, rfl, _⟩, hb3⟩
        refine hK.out _ _ hb3 (fun _ => ?_)
        clear hK
        have HS2 : Hid (∀ W, Below w3.heap.size w3 W → (convert 33 9 (.slice (some ⟨g3, 0, none⟩) 512 c3)).run Try.prog W = .ok (.string (strOfNums (holdF L O (q : Int)))) W) := fun W hW => by
          obtain ⟨g4, c4, e4, hri2⟩ := hk3.ri
          cases e4
          have h9 := (hri2.later hW).str
          rw [hk3.blk.len] at h9
          exact h9
        have HB3 := hid (Bn HB2.out hb3)
        refine Ord.more (S' := fun W => Below w3.heap.size w3 W) (fun W hW => Bn hb3 hW) _ _ _ _ ?_
        have hS3 : Below w3.heap.size w3 w3 := Below.refl _ _
        clear hk3 hb3 HHO
        generalize strOfNums (holdF L O (q : Int)) = t1 at *
        try simp only [List.setIfInBounds_toArray, List.set_cons_zero, List.set_cons_succ]
        refine Ord.take (i := 8) (d := 59) (v := .string t1) rfl rfl (by as_aux_lemma => kernel_rfl) (by as_aux_lemma => kernel_rfl) (by as_aux_lemma => kernel_rfl) (fun _ _ _ h => h) (by rfl) ?hb8 (by assumption) ?_
        case hb8 => intro w hSw; have q9 := HS2.out w hSw; go_simp; try with_reducible rfl
        simp only [List.setIfInBounds_toArray, List.set_cons_zero, List.set_cons_succ]
        refine Ord.take (i := 9) (d := 60) (v := .bool false) rfl rfl (by as_aux_lemma => kernel_rfl) (by as_aux_lemma => kernel_rfl) (by as_aux_lemma => kernel_rfl) (fun _ _ _ h => h) (by rfl) ?hb9 (by assumption) ?_
        case hb9 => intro w hSw; go_simp; try with_reducible rfl
        simp only [List.setIfInBounds_toArray, List.set_cons_zero, List.set_cons_succ]
        refine Ord.take (i := 10) (d := 61) (v := .bool false) rfl rfl (by as_aux_lemma => kernel_rfl) (by as_aux_lemma => kernel_rfl) (by as_aux_lemma => kernel_rfl) (fun _ _ _ h => h) (by rfl) ?hb10 (by assumption) ?_
        case hb10 => intro w hSw; go_simp; try with_reducible rfl
        simp only [List.setIfInBounds_toArray, List.set_cons_zero, List.set_cons_succ]
        refine wpAnyH_done (by as_aux_lemma => kernel_rfl) ?_ _
        clear hS3 HS1 HS2
        go_wp2_with fail
        exact ⟨⟨q + 1, by go_num, hlt, hl2, HB3⟩, by simp only [intOf]; omega⟩
      · have hz2 : ¬ (q : Int) < 16 := by omega
        go_wp2_with fail
        go_ret
        exact ⟨rfl, HBR.out⟩
    · have hz1 : ¬ (q : Int) < (n : Int) := by omega
      go_wp2_with fail
      go_ret
      exact ⟨rfl, HBR.out⟩
end Go.Proofs.Ytldgiimkkgmgaaa
