/-
 The document's Head.
-/
import Derived.Test.YtibjlbcnapoblaaGreatDoorPart35
namespace Go.Proofs.YtibjlbcnapoblaaGreatDoor
open Go.RowKit

def fillI (l : List Int) (i : Nat) : List Int := l.take i ++ List.replicate (32 - i) 0
theorem fillI_len (l : List Int) (i : Nat) (hl : l.length = 32) (hi : i ≤ 32) : (fillI l i).length = 32 := by simp [fillI]; omega
theorem fillI_set (l : List Int) (i : Nat) (hl : l.length = 32) (hi : i < 32) : (fillI l i).set i (l.getD i 0) = fillI l (i + 1) := by
 unfold fillI
 rw [List.set_append_right _ _ (by simp; omega), show i - (l.take i).length = 0 from by simp; omega, show 32 - i = (32 - (i + 1)) + 1 from by omega, List.replicate_succ, List.set_cons_zero]
 have e : l.getD i 0 = l[i]'(by omega) := by simp [List.getD, List.getElem?_eq_getElem (show i < l.length from by omega)]
 rw [e, List.take_succ_eq_append_getElem (show i < l.length from by omega), List.append_assoc]
 rfl
theorem fillI_full (l : List Int) (hl : l.length = 32) : fillI l 32 = l := by simp [fillI, ← hl]
theorem fillI_zero (l : List Int) : fillI l 0 = z32 := by simp [fillI, z32]
theorem u8A_put (l : List Int) (i : Nat) (v : Int) : (u8A l).setIfInBounds i (.int .u8 v) = u8A (l.set i v) := by simp [u8A, List.map_set]
theorem u8A_at (l : List Int) (i : Nat) (h : i < l.length) : (u8A l)[i]? = some (.int .u8 (l.getD i 0)) := by
 simp [u8A, List.getD, List.getElem?_eq_getElem h]
set_option maxHeartbeats 3200000 in
set_option maxRecDepth 100000 in
theorem head_ref (a : Option Addr) (cap : Nat) (zs : List Int) (w : World) (hr : Ri w .u8 a cap zs) (hm : zs.length ≤ 1000000) :
   Calls Tryz.prog 17 #[.slice a zs.length cap] w fun e w' => e = .returned (.tuple #[.agg (u8A (hedO zs).1), .int .i64 ((hedO zs).2.1 : Int), .int .i64 (hedO zs).2.2]) ∧ Below w.heap.size w w' := by
 have b0 := bel_alc w (.cells (u8A z32) 36)
 have s0 : (w.alloc (.cells (u8A z32) 36)).heap.size = w.heap.size + 1 := by simp
 have e1 := heap_alc (w.alloc (.cells (u8A z32) 36)) (.cells (u8A z32) 36)
 have b1 := bel_alc (w.alloc (.cells (u8A z32) 36)) (.cells (u8A z32) 36)
 have e0 := (b1.block _ (by omega)).trans (heap_alc w (.cells (u8A z32) 36))
 have hB := Bn b0 b1
 rw [s0] at e1
 have HSZ := hid (sizes_ref a cap zs ((w.alloc (.cells (u8A z32) 36)).alloc (.cells (u8A z32) 36)) (hr.later hB) hm)
 have HZ := hid hr.fits
 have HR := hid hr
 have HLZ : Hid ((u8A z32).size = 32) := rfl
 have HE0 := hid e0
 have HE1 := hid e1
 have HB := hid hB
 obtain ⟨R, hR⟩ : ∃ R, R = hedO zs := ⟨_, rfl⟩
 rw [← hR]
 have HRE := hid hR
 unfold hedO at HRE
 clear hr hR b0 b1 e0 e1 hB s0
 cases ho : opnO zs with
 | none =>
   rw [ho] at HSZ HRE
   dsimp only at HRE
   have hRE := HRE.out
   subst hRE
   clear ho HRE HR HZ
   generalize zs.length = L at *
   go_enter Tryz.func17, Tryz.ntmps17
   go_wp2_with (first
     | (refine wpList_alloc_at rfl 36 rfl (some 2) rfl (u8A z32) Tryz.zero36p w.heap.size rfl ?_)
     | (refine wpList_alloc_at rfl 36 rfl (some 5) rfl (u8A z32) Tryz.zero36p (w.heap.size + 1) (by simp) ?_))
   refine HSZ.out.mono ?_
   rintro _ W1 ⟨⟨n, k, rfl, _⟩, hw⟩
   obtain rfl := hw.symm
   clear hw HSZ
   generalize (w.alloc (.cells (u8A z32) 36)).alloc (.cells (u8A z32) 36) = W at *
   go_wp2_with (first
     | (refine wpList_load_row rfl 36 _ rfl (w.heap.size + 1) rfl 36 (u8A z32) (0, 0) _ HE1.out Tryz.underlying36 rfl (by rw [HLZ.out]; exact Tryz.size36p) ?_)
     | (refine wpList_store_rowTo rfl 36 _ _ rfl rfl w.heap.size (u8A z32) rfl rfl 36 _ HE0.out (by rw [HLZ.out]; exact Tryz.size36p) rfl (u8A_one _) ?_))
   refine bodyPost_ret (results_cell_tmp2 rfl _ _ w.heap.size (.agg (u8A z32)) rfl (run_loadVar_row _ w.heap.size 36 36 (u8A z32) (0, 0) _ (setRow_heap _ _ _ _ _ _ HE0.out) Tryz.underlying36 rfl (by rw [HLZ.out]; exact Tryz.size36p))) rfl ?_
   exact ⟨rfl, below_setRow HB.out (Nat.le_refl _) _⟩
 | some r =>
   obtain ⟨n, k, d, s⟩ := r
   obtain ⟨h44, h1n, hn4, h1k, hk4, hdd⟩ := opn_rng ho
   have hdl : d.length = 32 := by rw [hdd]; simp; omega
   have HDG : Hid (∀ q, q < 32 → d.getD q 0 = zs.getD (8 + q) 0) := fun q hq => by
     rw [hdd]
     simp only [List.getD, List.getElem?_take, List.getElem?_drop, if_pos hq]
   rw [ho] at HSZ HRE
   dsimp only at HRE
   have hRE := HRE.out
   subst hRE
   have HDL := hid hdl
   have HBK : Hid (∀ V, Calls Tryz.prog 34 #[.int .i64 (44 + (k : Int))] V fun e w' => e = .returned (.int .i64 (blkN k : Int)) ∧ w' = V) := fun V => blocks_ref k V (by omega)
   dsimp only
   obtain ⟨x, hx⟩ : ∃ x, x = blkN k := ⟨_, rfl⟩
   rw [← hx] at HBK ⊢
   obtain ⟨b, off, rfl, hbw, hc⟩ := HR.out.cells (by omega)
   have HC : Hid (∀ V : World, Below w.heap.size w V → ∀ q, q < 32 → V.cell? ⟨b, off + (8 + q), none⟩ = some (.int .u8 (d.getD q 0))) := fun V hV q hq => by
     rw [HDG.out q hq, hV.cell (p := ⟨b, off + (8 + q), none⟩) hbw]
     exact hc (8 + q) (by omega)
   have hroom := HR.out.room
   have hmost := HR.out.most
   unfold maxLen at hmost
   have HZ8 : Hid (∀ q, q < 32 → 0 ≤ d.getD q 0 ∧ d.getD q 0 ≤ 255) := fun q hq => by rw [HDG.out q hq]; exact wf_u8 (HZ.out _)
   clear ho HRE hdd hdl hx hc hbw HZ HR HDG
   generalize zs.length = L at *
   go_enter Tryz.func17, Tryz.ntmps17
   go_wp2_with (first
     | (refine wpList_alloc_at rfl 36 rfl (some 2) rfl (u8A z32) Tryz.zero36p w.heap.size rfl ?_)
     | (refine wpList_alloc_at rfl 36 rfl (some 5) rfl (u8A z32) Tryz.zero36p (w.heap.size + 1) (by simp) ?_))
   refine HSZ.out.mono ?_
   rintro _ W1 ⟨⟨n', k', rfl, hkk⟩, hw⟩
   obtain rfl := hw.symm
   have hk2 := hkk _ rfl
   dsimp only at hk2
   subst hk2
   clear hw HSZ hkk
   have HNE : Hid (w.heap.size + 1 ≠ w.heap.size) := by show _ ≠ _; omega
   have HGS : Hid (w.heap.size ≤ w.heap.size + 1) := Nat.le_succ _
   generalize (w.alloc (.cells (u8A z32) 36)).alloc (.cells (u8A z32) 36) = W at *
   generalize w.heap.size + 1 = g1 at *
   have HFZ := hid (fillI_zero d)
   go_wp2_with fail
   go_loopw [9] (fun i wr => ∃ q : Nat, q ≤ 32 ∧ i = .int .i64 (q : Int) ∧ Hid (wr.heap[w.heap.size]? = some (.cells (u8A z32) 36)) ∧ Hid (wr.heap[g1]? = some (.cells (u8A (fillI d q)) 36)) ∧ Hid (Below w.heap.size w wr)) (fun i _ => 32 - (intOf i).toNat)
   case atStart => exact ⟨0, by omega, rfl, HE0.out, by rw [HFZ.out]; exact HE1.out, HB.out⟩
   case round =>
     obtain ⟨q, hq, rfl, HA, HG, HQ⟩ := hrel
     by_cases hlt : q < 32
     · have h1 : (q : Int) < 32 := by omega
       have ca := HC.out wr HQ.out q hlt
       have hfl := fillI_len d q HDL.out (by omega)
       have cb := (Joins.cell_of_block HG.out q).trans (u8A_at _ q (by omega))
       have fz := Joins.unfrozen_of_block HG.out q
       have hput := Joins.block_setCell HG.out (i := q) (.int .u8 (d.getD q 0))
       rw [u8A_put, fillI_set d q HDL.out hlt] at hput
       have hz := HZ8.out q hlt
       generalize d.getD q 0 = z at *
       have HP := hid hput
       have HA2 : Hid ((wr.setCell ⟨g1, q, none⟩ (.int .u8 z)).heap[w.heap.size]? = some (.cells (u8A z32) 36)) := (((Fg.refl g1 wr).put (i := q) (.int .u8 z)).same _ (fun h => HNE.out h.symm)).trans HA.out
       have HQ2 : Hid (Below w.heap.size w (wr.setCell ⟨g1, q, none⟩ (.int .u8 z))) := HQ.out.setCell (show w.heap.size ≤ (Addr.mk g1 q none).block from HGS.out) _
       have hz0 := hz.1
       have hz1 := hz.2
       have h8 : (8 : Int) + (q : Int) < (L : Int) := by omega
       generalize (fillI d q).getD q 0 = old at *
       clear hput hz hfl HA HG HQ HC HZ8 HBK HE0 HE1 HB HFZ
       go_wp2
       exact ⟨⟨q + 1, by omega, by go_num, HA2.out, HP.out, HQ2.out⟩, by simp [intOf]; omega⟩
     · obtain rfl : q = 32 := by omega
       rw [fillI_full d HDL.out] at HG
       have h1 : ¬ ((32 : Nat) : Int) < 32 := by decide
       go_wp2_with fail
       have HLD : Hid (∀ V : World, V.heap[g1]? = some (.cells (u8A d) 36) → (loadVar 36 ⟨g1, 0, none⟩).run Tryz.prog V = .ok (.agg (u8A d)) V) := fun V hV =>
         run_loadVar_row V g1 36 36 (u8A d) (0, 0) _ hV Tryz.underlying36 rfl (by rw [u8A_size, HDL.out]; exact Tryz.size36p)
       have HWR : Hid (IntKind.i64.wrap (44 + (k : Int)) = 44 + (k : Int)) := by show _ = _; rw [IntKind.wrap_i64]; omega
       generalize hg0 : w.heap.size = g0 at *
       have HGG := hid hg0
       refine wp_region_held_drew (S := fun V => V.heap[g1]? = some (.cells (u8A d) 36)) (by kernel_rfl) HG.out (fun hS0 => ?_)
       have HZ0 : Hid (wr.drew.heap[g0]? = some (.cells (u8A z32) 36)) := HA.out
       have HB0 : Hid (Below g0 w wr.drew) := HQ.out.drew
       clear HA HG HQ HC HZ8 HE0 HE1 HB HFZ hg0
       generalize wr.drew = v0 at *
       simp only [List.size_toArray, List.length_cons, List.length_nil, Nat.reduceAdd]
       refine Ord.tk (i := 0) (d := 30) (v := .agg (u8A d)) rfl rfl ?hA0 (by assumption) ?_
       case hA0 => intro w hSw; exact (exec_load 36 (.tmp 5) rfl g1 0 rfl (HLD.out w hSw))
       simp only [Ord.s1, Ord.s2, Ord.s3]
       refine Ord.tk (i := 1) (d := 31) (v := ?vA1) rfl rfl ?hA1 (by assumption) ?_
       case hA1 => intro w hSw; go_simp; try with_reducible rfl
       simp only [Ord.s1, Ord.s2, Ord.s3]
       refine Ord.tk (i := 2) (d := 32) (v := .int .i64 (44 + (k : Int))) rfl rfl ?hA2 (by assumption) ?_
       case hA2 => intro w hSw; have q := HWR.out; go_simp; try with_reducible rfl
       simp only [Ord.s1, Ord.s2, Ord.s3]
       refine wpAnyH_ready (rs := [3]) (by as_aux_lemma => kernel_rfl) (by simp) (AllReadyH.cons rfl (fun K hK => ?_) AllReadyH.nil)
       go_simp
       refine (HBK.out v0).mono ?_
       rintro _ v1 ⟨rfl, hw⟩
       obtain rfl := hw.symm
       refine hK.out _ _ hS0 (fun _ => ?_)
       clear hK K hw
       try simp only [Ord.s1, Ord.s2, Ord.s3]
       refine wpAnyH_ready (rs := [4]) (by as_aux_lemma => kernel_rfl) (by simp) (AllReadyH.cons rfl (fun K hK => ?_) AllReadyH.nil)
       rw [if_pos (by rfl)]
       refine wp_store_row 36 _ _ rfl g0 (u8A d) rfl rfl 36 _ HZ0.out (by rw [u8A_size, HDL.out]; kernel_rfl) (by rw [u8A_size, u8A_size, HDL.out]; rfl) (u8A_one d) ?_
       have hS2 : (v0.setRow g0 (u8A d)).heap[g1]? = some (.cells (u8A d) 36) := (setRow_other _ _ _ _ HNE.out).trans hS0
       refine hK.out _ _ hS2 (fun _ => ?_)
       clear hK K
       try simp only [Ord.s1, Ord.s2, Ord.s3]
       refine Ord.tk (i := 5) (d := 3) (v := ?vA5) rfl rfl ?hA5 (by assumption) ?_
       case hA5 => intro w hSw; go_simp; try with_reducible rfl
       simp only [Ord.s1, Ord.s2, Ord.s3]
       refine Ord.tk (i := 6) (d := 4) (v := ?vA6) rfl rfl ?hA6 (by assumption) ?_
       case hA6 => intro w hSw; go_simp; try with_reducible rfl
       simp only [Ord.s1, Ord.s2, Ord.s3]
       refine wpAnyH_done (by as_aux_lemma => kernel_rfl) ?_ _
       go_wp2_with fail
       refine bodyPost_ret (results_cell_tmp2 rfl _ _ g0 (.agg (u8A d)) rfl (run_loadVar_row _ g0 36 36 (u8A d) (0, 0) _ (setRow_heap _ _ _ _ _ _ HZ0.out) Tryz.underlying36 rfl (by rw [u8A_size, HDL.out]; exact Tryz.size36p))) rfl ?_
       refine ⟨rfl, ?_⟩
       rw [HGG.out]
       exact below_setRow HB0.out (Nat.le_refl _) _
end Go.Proofs.YtibjlbcnapoblaaGreatDoor
