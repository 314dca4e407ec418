/-
  The contract of the document's Text.
-/
import Derived.Test.YtkipepodgmfbnaaDoorArgs
import Derived.Great.BuildSlice
namespace Go.Proofs.YtkipepodgmfbnaaDoor
open Go.RowKit Sha

theorem two_new (w : World) (x y : Int) : ∀ (j : Nat) (u : Value), [Value.int .u8 x, Value.int .u8 y][j]? = some u → (w.alloc (.cells #[Value.int .u8 x, Value.int .u8 y] 5)).cell? (Addr.add ⟨w.heap.size, 0, none⟩ j) = some u := by
  intro j u h
  match j, h with
  | 0, h => simp at h; subst h; simp [Addr.add]
  | 1, h => simp at h; subst h; simp [Addr.add]
theorem two_cell (x y : Int) : ∀ u ∈ [Value.int .u8 x, Value.int .u8 y], u.oneCell' = true := by
  intro u hu
  simp at hu
  rcases hu with rfl | rfl <;> rfl

theorem str_bytes (l : List Nat) : strOfNums (ints l) = ⟨(bytesU l).toArray⟩ := by
  simp [strOfNums, ints, bytesU]

set_option maxHeartbeats 1600000 in
set_option maxRecDepth 100000 in
theorem textr_any (d : List Nat) (w : World) (hl : d.length = 32) (hd : ∀ j, d.getD j 0 < 256) :
    Calls Tryd.prog 34 #[.agg (arr .u8 d)] w fun e w' => e = .returned (.string ⟨(bytesU (textN d)).toArray⟩) ∧ Below w.heap.size w w' := by
  obtain ⟨i0, hi, hz0, hz1, hz2⟩ := info_parts Tryd.info5
  have b1 := bel_alloc w (.cells (arr .u8 d) 25)
  have e1 := heap_new w (.cells (arr .u8 d) 25)
  have s1 : (w.alloc (.cells (arr .u8 d) 25)).heap.size = w.heap.size + 1 := by simp
  have HL := hid hl
  have HD := hid hd
  clear hl hd
  go_enter Tryd.func34, Tryd.ntmps34
  go_wp2_with fail
  generalize w.alloc (.cells (arr .u8 d) 25) = w1 at *
  go_loopw [3, 4] (fun v i wr => ∃ k : Nat, k ≤ 32 ∧ i = .int .i64 k ∧ wr.ownsRow (w.heap.size + 1) 5 1 v (2 * k) (V (textN (d.take k))) ∧ Below (w.heap.size + 1) w1 wr) (fun _ i _ => 32 - (intOf i).toNat)
  case atStart => exact ⟨0, by omega, rfl, World.ownsRow_nil _ _ _ _, Below.refl _ _⟩
  case round =>
    obtain ⟨k, hk, rfl, hown, hbel⟩ := hrel
    have hsz := hbel.size
    by_cases hlt : k < 32
    · have hk32 : (k : Int) < 32 := by omega
      have hx := HD.out k
      have HT := hid (textN_take d k (by rw [HL.out]; exact hlt))
      have hcell : ∀ W : World, Below (w.heap.size + 1) wr W → W.cell? ⟨w.heap.size, k, none⟩ = some (.int .u8 ((d.getD k 0 : Nat) : Int)) := fun W hW => (Joins.cell_of_block (by rw [hW.block _ (by omega), hbel.block _ (by omega)]; exact e1) k).trans (arr_get .u8 d k (by rw [HL.out]; exact hlt))
      generalize d.getD k 0 = x at *
      have G1 := hid (dig_get (x / 16))
      have G2 := hid (dig_get (x % 16))
      have hx1 : x / 16 < 16 := by omega
      have hx2 : x % 16 < 16 := by omega
      have hp1 := dig_lt (x / 16)
      have hp2 := dig_lt (x % 16)
      generalize dig (x / 16) = p at *
      generalize dig (x % 16) = q at *
      have hw1 : IntKind.u8.wrap ((x : Int) / 16) = ((x / 16 : Nat) : Int) := by rw [IntKind.wrap_u8]; omega
      have hw2 : (x : Int).tmod 16 = ((x % 16 : Nat) : Int) := by rw [Int.tmod_eq_emod_of_nonneg (by omega)]; omega
      generalize x / 16 = y1 at *
      generalize x % 16 = y2 at *
      have hy1 : (y1 : Int) < 16 := by omega
      have hy2 : (y2 : Int) < 16 := by omega
      go_wp2_with fail
      refine wp_region_held_drew (S := fun w' => Below (w.heap.size + 1) wr w') (by as_aux_lemma => kernel_rfl) (Below.refl _ _).drew (fun hS => ?_)
      refine Ord.take (i := 0) (d := 9) (v := ?v0) rfl rfl (by as_aux_lemma => kernel_rfl) (by as_aux_lemma => kernel_rfl) (by as_aux_lemma => kernel_rfl) (fun _ _ _ h => h) (by rfl) ?h0 (by assumption) ?_
      case h0 => intro w hSw; go_simp; try with_reducible rfl
      simp only [List.setIfInBounds_toArray, List.set_cons_zero, List.set_cons_succ]
      refine Ord.take (i := 1) (d := 10) (v := ?v1) rfl rfl (by as_aux_lemma => kernel_rfl) (by as_aux_lemma => kernel_rfl) (by as_aux_lemma => kernel_rfl) (fun _ _ _ h => h) (by rfl) ?h1 (by assumption) ?_
      case h1 => intro w hSw; go_simp; try with_reducible rfl
      simp only [List.setIfInBounds_toArray, List.set_cons_zero, List.set_cons_succ]
      refine Ord.take (i := 2) (d := 11) (v := ?v2) rfl rfl (by as_aux_lemma => kernel_rfl) (by as_aux_lemma => kernel_rfl) (by as_aux_lemma => kernel_rfl) (fun _ _ _ h => h) (by rfl) ?h2 (by assumption) ?_
      case h2 => intro w hSw; go_simp; try with_reducible rfl
      simp only [List.setIfInBounds_toArray, List.set_cons_zero, List.set_cons_succ]
      refine Ord.take (i := 3) (d := 12) (v := ?v3) rfl rfl (by as_aux_lemma => kernel_rfl) (by as_aux_lemma => kernel_rfl) (by as_aux_lemma => kernel_rfl) (fun _ _ _ h => h) (by rfl) ?h3 (by assumption) ?_
      case h3 => intro w hSw; have hc := hcell w hSw; go_simp; try with_reducible rfl
      simp only [List.setIfInBounds_toArray, List.set_cons_zero, List.set_cons_succ]
      refine Ord.take (i := 4) (d := 13) (v := .int .u8 (y1 : Int)) rfl rfl (by as_aux_lemma => kernel_rfl) (by as_aux_lemma => kernel_rfl) (by as_aux_lemma => kernel_rfl) (fun _ _ _ h => h) (by rfl) ?h4 (by assumption) ?_
      case h4 => intro w hSw; go_simp; try with_reducible rfl
      simp only [List.setIfInBounds_toArray, List.set_cons_zero, List.set_cons_succ]
      refine Ord.take (i := 5) (d := 14) (v := ?v5) rfl rfl (by as_aux_lemma => kernel_rfl) (by as_aux_lemma => kernel_rfl) (by as_aux_lemma => kernel_rfl) (fun _ _ _ h => h) (by rfl) ?h5 (by assumption) ?_
      case h5 => intro w hSw; go_simp; rw [G1.out]; try with_reducible rfl
      simp only [List.setIfInBounds_toArray, List.set_cons_zero, List.set_cons_succ]
      refine Ord.take (i := 6) (d := 15) (v := ?v6) rfl rfl (by as_aux_lemma => kernel_rfl) (by as_aux_lemma => kernel_rfl) (by as_aux_lemma => kernel_rfl) (fun _ _ _ h => h) (by rfl) ?h6 (by assumption) ?_
      case h6 => intro w hSw; go_simp; try with_reducible rfl
      simp only [List.setIfInBounds_toArray, List.set_cons_zero, List.set_cons_succ]
      refine Ord.take (i := 7) (d := 16) (v := ?v7) rfl rfl (by as_aux_lemma => kernel_rfl) (by as_aux_lemma => kernel_rfl) (by as_aux_lemma => kernel_rfl) (fun _ _ _ h => h) (by rfl) ?h7 (by assumption) ?_
      case h7 => intro w hSw; go_simp; try with_reducible rfl
      simp only [List.setIfInBounds_toArray, List.set_cons_zero, List.set_cons_succ]
      refine Ord.take (i := 8) (d := 17) (v := ?v8) rfl rfl (by as_aux_lemma => kernel_rfl) (by as_aux_lemma => kernel_rfl) (by as_aux_lemma => kernel_rfl) (fun _ _ _ h => h) (by rfl) ?h8 (by assumption) ?_
      case h8 => intro w hSw; have hc := hcell w hSw; go_simp; try with_reducible rfl
      simp only [List.setIfInBounds_toArray, List.set_cons_zero, List.set_cons_succ]
      refine Ord.take (i := 9) (d := 18) (v := .int .u8 (y2 : Int)) rfl rfl (by as_aux_lemma => kernel_rfl) (by as_aux_lemma => kernel_rfl) (by as_aux_lemma => kernel_rfl) (fun _ _ _ h => h) (by rfl) ?h9 (by assumption) ?_
      case h9 => intro w hSw; go_simp; try with_reducible rfl
      simp only [List.setIfInBounds_toArray, List.set_cons_zero, List.set_cons_succ]
      refine Ord.take (i := 10) (d := 19) (v := ?v10) rfl rfl (by as_aux_lemma => kernel_rfl) (by as_aux_lemma => kernel_rfl) (by as_aux_lemma => kernel_rfl) (fun _ _ _ h => h) (by rfl) ?h10 (by assumption) ?_
      case h10 => intro w hSw; go_simp; rw [G2.out]; try with_reducible rfl
      simp only [List.setIfInBounds_toArray, List.set_cons_zero, List.set_cons_succ]
      refine wpAnyH_ready (rs := [11]) (by as_aux_lemma => kernel_rfl) (by simp) (AllReadyH.cons rfl (fun K hK => ?_) AllReadyH.nil)
      go_simp
      have hbA := bel_alloc wr (.cells #[.int .u8 (p : Int), .int .u8 (q : Int)] 5)
      have hownA := own_later hown hbA.drew
      have hbB := (hbel.alloc (by omega) (.cells #[.int .u8 (p : Int), .int .u8 (q : Int)] 5)).drew
      have hS1 : Below (w.heap.size + 1) wr (wr.alloc (.cells #[.int .u8 (p : Int), .int .u8 (q : Int)] 5)).drew := hbA.drew.mono (by omega)
      have hnews : ∀ (j : Nat) (u : Value), [Value.int .u8 (p : Int), Value.int .u8 (q : Int)][j]? = some u → (wr.alloc (.cells #[.int .u8 (p : Int), .int .u8 (q : Int)] 5)).drew.cell? (Addr.add ⟨wr.heap.size, 0, none⟩ j) = some u := fun j u h => two_new wr p q j u h
      have hszA : w.heap.size + 1 ≤ (wr.alloc (.cells #[.int .u8 (p : Int), .int .u8 (q : Int)] 5)).drew.heap.size := by have := hbB.size; omega
      refine hK.out _ _ hS1 (fun _ => ?_)
      clear hK K hS hbA hcell
      generalize (wr.alloc (.cells #[.int .u8 (p : Int), .int .u8 (q : Int)] 5)).drew = wA at *
      refine wpAnyH_ready (rs := [12]) (by as_aux_lemma => kernel_rfl) (by simp) (AllReadyH.cons rfl (fun K hK => ?_) AllReadyH.nil)
      refine wp_append_own _ (.tmp 9) (.tmp 20) 22 rfl (w.heap.size + 1) 5 i0 (.int .u8 0) 1 1 Tryd.underlying22 hi hz0 hz1 hz2 rfl (by decide) u3 (2 * k) _ rfl hownA ⟨wr.heap.size, 0, none⟩ 2 2 [.int .u8 (p : Int), .int .u8 (q : Int)] rfl rfl hnews (two_cell _ _) (by unfold maxLen; omega) (by omega) hszA ?_
      intro v' w2 hown' hgrow _
      have hb2 := hbB.grown hgrow hszA (fun j hj => (hownA.lt j hj).1)
      have hS2 : Below (w.heap.size + 1) wr w2 := hS1.grown hgrow hszA (fun j hj => (hownA.lt j hj).1)
      have R : w2.ownsRow (w.heap.size + 1) 5 1 v' (2 * (k + 1)) (V (textN (d.take (k + 1)))) := by
        rw [HT.out, ← V_snoc, ← V_snoc, List.append_assoc]
        exact hown'
      have HR := hid R
      have HB2 := hid hb2
      clear hown' hgrow hown hownA hnews hbB R hb2
      refine hK.out _ _ hS2 (fun _ => ?_)
      clear hK K hS1
      refine Ord.take (i := 13) (d := 3) (v := v') rfl rfl (by as_aux_lemma => kernel_rfl) (by as_aux_lemma => kernel_rfl) (by as_aux_lemma => kernel_rfl) (fun _ _ _ h => h) (by rfl) ?h13 (by assumption) ?_
      case h13 => intro w hSw; go_simp; try with_reducible rfl
      simp only [List.setIfInBounds_toArray, List.set_cons_zero, List.set_cons_succ]
      refine wpAnyH_done (by as_aux_lemma => kernel_rfl) ?_ _
      clear hS2
      go_wp2
      exact ⟨⟨k + 1, by omega, by go_num, HR.out, HB2.out⟩, by simp [intOf]; omega⟩
    · obtain rfl : k = 32 := by omega
      rw [List.take_of_length_le (by rw [HL.out]; exact Nat.le_refl _)] at hown
      have hlen : (textN d).length = 2 * 32 := by rw [textN_length, HL.out]
      rw [← hlen] at hown
      obtain ⟨g, c, rfl, _, hrd⟩ := rd_own hown (by rw [hlen]; omega) ((all_lt _).2 (textN_lt d))
      have ht := hrd.text wr (Below.refl _ _)
      rw [str_bytes] at ht
      clear hlen
      clear hown hrd
      generalize (textN d).length = tn at *
      have HB := hid (Bn b1 (hbel.mono (by omega)))
      go_wp2
      go_ret
      exact ⟨rfl, HB.out⟩
end Go.Proofs.YtkipepodgmfbnaaDoor
