/-
  The contract of mac's closed.
-/
import Derived.Test.YtgnjicpmfpgdeaaDoorShJc
namespace Go.Proofs.YtgnjicpmfpgdeaaDoor.Sh
open Go.RowKit Sha

set_option maxHeartbeats 1600000 in
set_option maxRecDepth 100000 in
theorem closed_word (o d : List Nat) (w : World) (hlaid : Laid w) (ho : o.length = 64) (hd : d.length = 32) (hob : ∀ j, o.getD j 0 < 256) (hdb : ∀ j, d.getD j 0 < 256) :
    Calls Tryd.prog 59 #[.agg (arr .u8 o), .agg (arr .u8 d)] w fun e w' => e = .returned (.agg (arr .u8 (digest (o ++ d)))) ∧ Below w.heap.size w w' := by
  have b1 := bel_alloc w (.cells (arr .u8 o) 83)
  have e1 := heap_new w (.cells (arr .u8 o) 83)
  have s1 : (w.alloc (.cells (arr .u8 o) 83)).heap.size = w.heap.size + 1 := by simp
  have b2 := bel_alloc (w.alloc (.cells (arr .u8 o) 83)) (.cells (arr .u8 d) 39)
  have e2 := heap_new (w.alloc (.cells (arr .u8 o) 83)) (.cells (arr .u8 d) 39)
  have s2 : ((w.alloc (.cells (arr .u8 o) 83)).alloc (.cells (arr .u8 d) 39)).heap.size = w.heap.size + 1 + 1 := by simp
  rw [s1] at e2
  generalize hw1 : w.alloc (.cells (arr .u8 o) 83) = w1 at *
  generalize hw2 : w1.alloc (.cells (arr .u8 d) 39) = w2 at *
  have b3 := bel_alloc w2 (.cells (arr .u8 z32) 39)
  have e3 := heap_new w2 (.cells (arr .u8 z32) 39)
  rw [s2] at e3
  have s3 : (w2.alloc (.cells (arr .u8 z32) 39)).heap.size = w.heap.size + 1 + 1 + 1 := by simp [s2]
  have B3 := Bn (Bn b1 b2) b3
  have r1 : Rd (w2.alloc (.cells (arr .u8 z32) 39)) (.slice (some ⟨w.heap.size, 0, none⟩) 64 64) (some ⟨w.heap.size, 0, none⟩) 64 o := Rd.block 64 ho (by rw [b3.block _ (by omega), b2.block _ (by omega)]; exact e1) (by decide) hob
  have r2 : Rd (w2.alloc (.cells (arr .u8 z32) 39)) (.slice (some ⟨w.heap.size + 1, 0, none⟩) 32 32) (some ⟨w.heap.size + 1, 0, none⟩) 32 d := Rd.block 32 hd (by rw [b3.block _ (by omega)]; exact e2) (by decide) hdb
  have hl3 := hlaid.later B3
  subst hw2 hw1
  have HR1 := hid r1
  have HR2 := hid r2
  have HL3 := hid hl3
  have HB3 := hid B3
  clear b1 e1 s1 b2 e2 b3 r1 r2 hl3 B3 hlaid
  go_enter Tryd.func59, Tryd.ntmps59
  go_wp2_with (refine wpList_alloc_at rfl 39 rfl (some 4) rfl (arr .u8 z32) Tryd.zero39 (w.heap.size + 1 + 1) (by simp) ?_)
  generalize ((w.alloc (.cells (arr .u8 o) 83)).alloc (.cells (arr .u8 d) 39)).alloc (.cells (arr .u8 z32) 39) = w3 at *
  refine wp_region_held_drew (S := fun w' => Below w.heap.size w w') (by as_aux_lemma => kernel_rfl) HB3.out.drew (fun hS => ?_)
  refine Ord.take (i := 0) (d := 5) (v := .slice (some ⟨w.heap.size, 0, none⟩) 64 64) rfl rfl (by as_aux_lemma => kernel_rfl) (by as_aux_lemma => kernel_rfl) (by as_aux_lemma => kernel_rfl) (fun _ _ _ h => h) (by rfl) ?h0 (by assumption) ?_
  case h0 => intro w hSw; go_simp; try with_reducible rfl
  simp only [List.setIfInBounds_toArray, List.set_cons_zero, List.set_cons_succ]
  refine Ord.take (i := 1) (d := 6) (v := .slice (some ⟨w.heap.size + 1, 0, none⟩) 32 32) rfl rfl (by as_aux_lemma => kernel_rfl) (by as_aux_lemma => kernel_rfl) (by as_aux_lemma => kernel_rfl) (fun _ _ _ h => h) (by rfl) ?h1 (by assumption) ?_
  case h1 => intro w hSw; go_simp; try with_reducible rfl
  simp only [List.setIfInBounds_toArray, List.set_cons_zero, List.set_cons_succ]
  refine wpAnyH_ready (rs := [2]) (by as_aux_lemma => kernel_rfl) (by simp) (AllReadyH.cons rfl (fun K hK => ?_) AllReadyH.nil)
  go_simp
  have hbA := (bel_alloc w3 (.cells #[.slice (some ⟨w.heap.size, 0, none⟩) 64 64, .slice (some ⟨w.heap.size + 1, 0, none⟩) 32 32] 22)).drew
  have hps := (Ps.two HR1.out HR2.out (w.heap.size + 1 + 1 + 1) s3.symm).later (Below.refl _ _).drew
  have hSA := Bn HB3.out hbA
  refine hK.out _ _ hSA (fun _ => ?_)
  clear hK K hS
  generalize (w3.alloc (.cells #[.slice (some ⟨w.heap.size, 0, none⟩) 64 64, .slice (some ⟨w.heap.size + 1, 0, none⟩) 32 32] 22)).drew = wA at *
  have hsm := sum_word _ _ _ wA (HL3.out.later hbA) hps (by simp; omega)
  rw [show [o, d].flatten = o ++ d from by simp] at hsm
  have HS := hid hsm
  have hres : wA.heap[w.heap.size + 1 + 1]? = some (.cells (arr .u8 z32) 39 (0, 0)) := by rw [hbA.block _ (by omega)]; exact e3
  have hza : w.heap.size + 1 + 1 < wA.heap.size := by have := hbA.size; omega
  clear hsm hps e3
  refine wpAnyH_ready (rs := [3]) (by as_aux_lemma => kernel_rfl) (by simp) (AllReadyH.cons rfl (fun K hK => ?_) AllReadyH.nil)
  go_simp
  refine HS.out.mono ?_
  rintro _ w5 ⟨rfl, hb5⟩
  have hS5 := Bn hSA hb5
  refine hK.out _ _ hS5 (fun _ => ?_)
  clear hK K
  have hres5 : w5.heap[w.heap.size + 1 + 1]? = some (.cells (arr .u8 z32) 39 (0, 0)) := by rw [hb5.block _ (by omega)]; exact hres
  have hsz : (arr .u8 (digest (o ++ d))).size = 32 := by rw [arr_size, digest_len]
  have hasz : (Tryd.prog.info? 39).map (·.size) = some (arr .u8 (digest (o ++ d))).size := by rw [hsz]; exact Tryd.size39'
  have hS6 : Below w.heap.size w (w5.setRow (w.heap.size + 1 + 1) (arr .u8 (digest (o ++ d)))) := below_setRow hS5 (by omega) _
  refine wpAnyH_ready (rs := [4]) (by as_aux_lemma => kernel_rfl) (by simp) (AllReadyH.cons rfl (fun K hK => ?_) AllReadyH.nil)
  refine wp_store_row 39 (.tmp 4) (.tmp 8) rfl (w.heap.size + 1 + 1) (arr .u8 (digest (o ++ d))) rfl rfl 39 _ hres5 hasz (by rw [hsz]; rfl) (arr_one _ _) ?_
  refine hK.out _ _ hS6 (fun _ => ?_)
  clear hK K
  refine wpAnyH_done (by as_aux_lemma => kernel_rfl) ?_ _
  have HS6 := hid hS6
  have hrr := setRow_heap _ _ _ (arr .u8 (digest (o ++ d))) _ _ hres5
  clear hS6 hS5 hSA hres hres5 hb5 hbA HS HB3 HR1 HR2 HL3
  generalize w5.setRow (w.heap.size + 1 + 1) (arr .u8 (digest (o ++ d))) = w6 at *
  go_wp2
  refine bodyPost_ret (results_cell_row (ty := 39) rfl _ _ _ _ _ _ _ rfl hrr Tryd.underlying39 rfl hasz) rfl ?_
  exact ⟨rfl, HS6.out⟩
end Go.Proofs.YtgnjicpmfpgdeaaDoor.Sh
