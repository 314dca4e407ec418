/-
  The contract of a Mac's Sum.
-/
import Derived.Test.YtkipepodgmfbnaaDoorMNew
namespace Go.Proofs.YtkipepodgmfbnaaDoor
open Go.RowKit Sha

set_option maxHeartbeats 1600000 in
set_option maxRecDepth 100000 in
theorem macGet_word (o : List Nat) (ho : o.length = 64) (hob : ∀ j, o.getD j 0 < 256) (g : Nat) (msg op : List Nat) (w : World) (hlaid : Laid w) (hh : Hm (lst .u8 o) w g msg op) (hbd : msg.length ≤ 1000000000) :
    Calls Tryd.prog 21 #[.pointer (some ⟨g, 0, none⟩)] w fun e w' => e = .returned (.tuple #[.agg (arr .u8 (digest (o ++ digest msg))), .int .i64 0]) ∧ Below w.heap.size w w' := by
  have hp : (lst .u8 o).length = 64 := by rw [lst_length, ho]
  have hgw : g < w.heap.size := (Array.getElem?_eq_some_iff.1 hh.blk).1
  have b0 := bel_alloc w (.cells (arr .u8 z32) 26)
  have e0 := heap_new w (.cells (arr .u8 z32) 26)
  have s0 : (w.alloc (.cells (arr .u8 z32) 26)).heap.size = w.heap.size + 1 := by simp
  have HS := hid (hsumM_word (lst .u8 o) hp g msg op _ (hlaid.later b0) (hh.later b0) hbd)
  have LO : ∀ W : World, Below w.heap.size w W → (Instr.loadAt 49 (.pointer (some ⟨g, 0, none⟩))).run Tryd.prog W = .ok (.agg (arr .u8 o)) W := by
    intro W hW
    refine run_loadAt_mid W g 0 49 (lst .u8 o) _ (fun j v hv => ?_) Tryd.underlying49 rfl (by rw [hp]; exact Tryd.size49)
    have hj : j < (lst .u8 o).length := (List.getElem?_eq_some_iff.1 hv).1
    rw [Nat.zero_add, Joins.cell_of_block (hh.later hW).blk j, List.getElem?_toArray, mL, List.getElem?_append_left hj]
    exact hv
  have HL0 := hid hlaid
  have HB0 := hid b0
  have hDl := digest_len msg
  have HDT := hid (digest_lt msg)
  have HRL := hid (digest_len (o ++ digest msg))
  have HCL := hid (fun (W : World) (h : Below w.heap.size w W) => closed_word o (digest msg) W (hlaid.later h) ho (digest_len _) hob (digest_lt _))
  clear hh hlaid b0 hp
  generalize hR : digest (o ++ digest msg) = R at *
  have HR := hid hR
  clear hR
  generalize digest msg = D at *
  go_enter Tryd.func21, Tryd.ntmps21
  go_wp2_with (refine wpList_alloc_at rfl 26 rfl (some 2) rfl (arr .u8 z32) Tryd.zero26 w.heap.size rfl ?_)
  generalize w.alloc (.cells (arr .u8 z32) 26) = w1 at *
  go_at_call 39
  refine HS.out.mono ?_
  rintro _ w2 ⟨rfl, hb2⟩
  have hz2 := hb2.size
  have n2 := heap_new w2 (.cells (arr .u8 z32) 26)
  obtain ⟨q3, f3, z3⟩ := put_new w2 D 26 w2.heap.size rfl
  have hsd : (arr .u8 D).size = 32 := by rw [arr_size, hDl]
  go_wp2_with (first
    | (refine wpList_alloc_at rfl 26 rfl (some 4) rfl (arr .u8 z32) Tryd.zero26 w2.heap.size rfl ?_)
    | (refine wpList_store_rowTo rfl 26 _ _ rfl rfl w2.heap.size (arr .u8 D) rfl rfl 26 _ n2 (by rw [hsd]; exact Tryd.size26') (by rw [hsd]; rfl) (arr_one _ _) ?_))
  have hB3 := Bn HB0.out (Bn hb2 q3)
  have hr3 : ((w2.alloc (.cells (arr .u8 z32) 26)).setRow w2.heap.size (arr .u8 D)).heap[w.heap.size]? = some (.cells (arr .u8 z32) 26 (0, 0)) := by rw [q3.block _ (by omega), hb2.block _ (by omega)]; exact e0
  generalize (w2.alloc (.cells (arr .u8 z32) 26)).setRow w2.heap.size (arr .u8 D) = w3 at *
  refine wp_region_held_drew (S := fun w' => Below w.heap.size w w' ∧ w'.heap[w2.heap.size]? = some (.cells (arr .u8 D) 26 (0, 0))) (by as_aux_lemma => kernel_rfl) ⟨hB3.drew, f3⟩ (fun hS => ?_)
  have hrD : w3.drew.heap[w.heap.size]? = some (.cells (arr .u8 z32) 26 (0, 0)) := hr3
  have hzD : w2.heap.size < w3.drew.heap.size := (Array.getElem?_eq_some_iff.1 hS.2).1
  generalize w3.drew = wD at *
  refine Ord.take (i := 0) (d := 20) (v := ?v0) rfl rfl (by as_aux_lemma => kernel_rfl) (by as_aux_lemma => kernel_rfl) (by as_aux_lemma => kernel_rfl) (fun _ _ _ h => h) (by rfl) ?h0 (by assumption) ?_
  case h0 => intro w hSw; go_simp; try with_reducible rfl
  simp only [List.setIfInBounds_toArray, List.set_cons_zero, List.set_cons_succ]
  refine Ord.take (i := 1) (d := 21) (v := ?v1) rfl rfl (by as_aux_lemma => kernel_rfl) (by as_aux_lemma => kernel_rfl) (by as_aux_lemma => kernel_rfl) (fun _ _ _ h => h) (by rfl) ?h1 (by assumption) ?_
  case h1 => intro w hSw; go_simp; try with_reducible rfl
  simp only [List.setIfInBounds_toArray, List.set_cons_zero, List.set_cons_succ]
  refine Ord.take (i := 2) (d := 22) (v := .pointer (some ⟨g, 0, none⟩)) rfl rfl (by as_aux_lemma => kernel_rfl) (by as_aux_lemma => kernel_rfl) (by as_aux_lemma => kernel_rfl) (fun _ _ _ h => h) (by rfl) ?h2 (by assumption) ?_
  case h2 => intro w hSw; go_simp; try with_reducible rfl
  simp only [List.setIfInBounds_toArray, List.set_cons_zero, List.set_cons_succ]
  refine Ord.take (i := 3) (d := 23) (v := .agg (arr .u8 o)) rfl rfl (by as_aux_lemma => kernel_rfl) (by as_aux_lemma => kernel_rfl) (by as_aux_lemma => kernel_rfl) (fun _ _ _ h => h) (by rfl) ?h3 (by assumption) ?_
  case h3 => exact fun w hSw => run_load_op (p := .pointer (some ⟨g, 0, none⟩)) rfl rfl (LO w hSw.1)
  simp only [List.setIfInBounds_toArray, List.set_cons_zero, List.set_cons_succ]
  refine Ord.take (i := 4) (d := 24) (v := .agg (arr .u8 D)) rfl rfl (by as_aux_lemma => kernel_rfl) (by as_aux_lemma => kernel_rfl) (by as_aux_lemma => kernel_rfl) (fun _ _ _ h => h) (by rfl) ?h4 (by assumption) ?_
  case h4 => exact fun w hSw => run_load_op (p := .pointer (some ⟨w2.heap.size, 0, none⟩)) rfl rfl (load_whole hSw.2 Tryd.underlying26 rfl (by rw [hDl]; exact Tryd.size26'))
  simp only [List.setIfInBounds_toArray, List.set_cons_zero, List.set_cons_succ]
  refine wpAnyH_ready (rs := [5]) (by as_aux_lemma => kernel_rfl) (by simp) (AllReadyH.cons rfl (fun K hK => ?_) AllReadyH.nil)
  go_simp
  refine (HCL.out wD hS.1).mono ?_
  rintro _ w5 ⟨rfl, hb5⟩
  have hS5 : Below w.heap.size w w5 ∧ w5.heap[w2.heap.size]? = some (.cells (arr .u8 D) 26 (0, 0)) := ⟨Bn hS.1 hb5, by rw [hb5.block _ hzD]; exact hS.2⟩
  refine hK.out _ _ hS5 (fun _ => ?_)
  clear hK K
  have hr5 : w5.heap[w.heap.size]? = some (.cells (arr .u8 z32) 26 (0, 0)) := by rw [hb5.block _ (by omega)]; exact hrD
  have hsr : (arr .u8 R).size = 32 := by rw [arr_size, HRL.out]
  have hasz : (Tryd.prog.info? 26).map (·.size) = some (arr .u8 R).size := by rw [hsr]; exact Tryd.size26'
  have hS6 : Below w.heap.size w (w5.setRow w.heap.size (arr .u8 R)) ∧ (w5.setRow w.heap.size (arr .u8 R)).heap[w2.heap.size]? = some (.cells (arr .u8 D) 26 (0, 0)) := ⟨below_setRow hS5.1 (Nat.le_refl _) _, by rw [setRow_other _ _ _ _ (by omega)]; exact hS5.2⟩
  refine wpAnyH_ready (rs := [6]) (by as_aux_lemma => kernel_rfl) (by simp) (AllReadyH.cons rfl (fun K hK => ?_) AllReadyH.nil)
  refine wp_store_row 26 (.tmp 2) (.tmp 25) rfl w.heap.size (arr .u8 R) rfl rfl 26 _ hr5 hasz (by rw [hsr]; rfl) (arr_one _ _) ?_
  refine hK.out _ _ hS6 (fun _ => ?_)
  clear hK K
  simp only [Act.put]
  refine Ord.take (i := 7) (d := 3) (v := .int .i64 0) rfl rfl (by as_aux_lemma => kernel_rfl) (by as_aux_lemma => kernel_rfl) (by as_aux_lemma => kernel_rfl) (fun _ _ _ h => h) (by rfl) ?h7 (by assumption) ?_
  case h7 => intro w hSw; go_simp; try with_reducible rfl
  simp only [List.setIfInBounds_toArray, List.set_cons_zero, List.set_cons_succ]
  refine wpAnyH_done (by as_aux_lemma => kernel_rfl) ?_ _
  have HS6 := hid hS6.1
  have hld := run_loadVar_mid (P := Tryd.prog) (w5.setRow w.heap.size (arr .u8 R)) w.heap.size 0 26 (lst .u8 R) _ (fun j v hv => by rw [Nat.zero_add, Joins.cell_of_block (setRow_heap _ _ _ _ _ _ hr5) j, ← arr_lst, List.getElem?_toArray]; exact hv) Tryd.underlying26 rfl (by rw [lst_length, HRL.out]; exact Tryd.size26')
  rw [arr_lst] at hld
  clear hS hS5 hS6 hr5 hb5 hB3 hrD q3 f3 hb2 LO
  generalize w5.setRow w.heap.size (arr .u8 R) = w6 at *
  go_wp2
  refine bodyPost_ret (results_row_tmp rfl _ _ w.heap.size _ rfl hld) rfl ?_
  exact ⟨rfl, HS6.out⟩
end Go.Proofs.YtkipepodgmfbnaaDoor
