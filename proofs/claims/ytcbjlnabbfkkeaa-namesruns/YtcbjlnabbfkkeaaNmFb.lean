/-
  Rows of digests appended in a drawn region; digests held against each other. The mathematics of both Digests: rising rows of digests, and what Into makes of them. The document's Less (72): digests by bytes.
-/
import Derived.Test.YtcbjlnabbfkkeaaNmEb
namespace Go.Proofs.Ytcbjlnabbfkkeaa
open Go.ChangeShapes Go.WideShapes Go.ChangeAt Go.RowKit Go.Deep Go.Lib

def ltI : List Int → List Int → Bool
  | x :: a, y :: b => if x = y then ltI a b else decide (x < y)
  | _, _ => false
theorem ltI_drop (x y : List Int) (k : Nat) (hx : k < x.length) (hy : k < y.length) : ltI (x.drop k) (y.drop k) = if x.getD k 0 = y.getD k 0 then ltI (x.drop (k + 1)) (y.drop (k + 1)) else decide (x.getD k 0 < y.getD k 0) := by
  rw [List.drop_eq_getElem_cons hx, List.drop_eq_getElem_cons hy, ltI]
  simp [List.getD, List.getElem?_eq_getElem hx, List.getElem?_eq_getElem hy]
theorem u8_cell {w : World} {b : Nat} {t : TypeId} {x : List Int} (h : w.heap[b]? = some (.cells (u8A x) t)) {k : Nat} (hk : k < x.length) : w.cell? ⟨b, k, none⟩ = some (.int .u8 (x.getD k 0)) := by
  refine (Joins.cell_of_block h k).trans ?_
  unfold u8A
  simp [List.getD, List.getElem?_eq_getElem hk]
set_option maxHeartbeats 3200000 in
set_option maxRecDepth 100000 in
theorem less_word (x y : List Int) (hx : x.length = 32) (hy : y.length = 32) (w : World) : Calls Try.prog 72 #[.agg (u8A x), .agg (u8A y)] w fun e w' => e = .returned (.bool (ltI x y)) ∧ Below w.heap.size w w' := by
  have HX := hid hx
  have HY := hid hy
  clear hx hy
  obtain ⟨W2, hW2⟩ : ∃ W2, W2 = (w.alloc (.cells (u8A x) 32)).alloc (.cells (u8A y) 32) := ⟨_, rfl⟩
  have HW2 := hid hW2
  have hs1 : (w.alloc (.cells (u8A x) 32)).heap.size = w.heap.size + 1 := by simp
  have g1 : W2.heap[w.heap.size]? = some (.cells (u8A x) 32) := by rw [hW2]; exact heap_old _ _ (heap_alc w _)
  have g2 : W2.heap[w.heap.size + 1]? = some (.cells (u8A y) 32) := by
    rw [hW2]
    have := heap_alc (w.alloc (.cells (u8A x) 32)) (.cells (u8A y) 32)
    rwa [hs1] at this
  have HB2 : Hid (Below w.heap.size w W2) := by
    show Below _ _ _
    rw [hW2]
    exact Bn (bel_alc w _) (bel_alc _ _)
  have HG1 := hid g1
  have HG2 := hid g2
  clear hW2 hs1 g1 g2
  go_enter Try.func72, Try.ntmps72
  go_wp2
  rw [← HW2.out]
  go_loopw [5] (fun x5 wr => ∃ k : Nat, k ≤ 32 ∧ x5 = .int .i64 (k : Int) ∧ Hid (ltI (x.drop k) (y.drop k) = ltI x y) ∧ Hid (Below W2.heap.size W2 wr)) (fun x5 _ => 32 - (intOf x5).toNat)
  case atStart => exact ⟨0, by omega, rfl, rfl, Below.refl _ _⟩
  case round =>
    obtain ⟨k, hk, rfl, HL, HB⟩ := hrel
    by_cases hlt : k < 32
    · have hkz : (k : Int) < 32 := by omega
      have HCA := hid (fun X (hX : Below W2.heap.size W2 X) => u8_cell (blk_later HG1.out hX) (k := k) (by rw [HX.out]; exact hlt))
      have HCB := hid (fun X (hX : Below W2.heap.size W2 X) => u8_cell (blk_later HG2.out hX) (k := k) (by rw [HY.out]; exact hlt))
      have HST := hid (ltI_drop x y k (by rw [HX.out]; exact hlt) (by rw [HY.out]; exact hlt))
      generalize x.getD k 0 = xk at *
      generalize y.getD k 0 = yk at *
      by_cases hxy : xk = yk
      · have HEQ : Hid (ltI (x.drop (k + 1)) (y.drop (k + 1)) = ltI x y) := by
          show _ = _
          rw [← HL.out, HST.out, if_pos hxy]
        go_wp2_with fail
        refine wp_region_held_drew (S := fun X => Below W2.heap.size W2 X) (by kernel_rfl) (bel_drewS HB.out) (fun hS_v0 => ?_)
        generalize wr.drew = v0 at *
        simp only [List.size_toArray, List.length_cons, List.length_nil, Nat.reduceAdd]
        refine Ord.take (i := 0) (d := 10) (v := ?vE0) rfl rfl (by as_aux_lemma => kernel_rfl) (by as_aux_lemma => kernel_rfl) (by as_aux_lemma => kernel_rfl) (fun _ _ _ h => h) (by rfl) ?hE0 (by assumption) ?_
        case hE0 => intro wx hSw; go_simp; try with_reducible rfl
        try simp only [List.setIfInBounds_toArray, List.set_cons_zero, List.set_cons_succ]
        refine Ord.take (i := 1) (d := 11) (v := .pointer (some ⟨w.heap.size, k, none⟩)) rfl rfl (by as_aux_lemma => kernel_rfl) (by as_aux_lemma => kernel_rfl) (by as_aux_lemma => kernel_rfl) (fun _ _ _ h => h) (by rfl) ?hE1 (by assumption) ?_
        case hE1 => intro wx hSw; go_simp; try with_reducible rfl
        try simp only [List.setIfInBounds_toArray, List.set_cons_zero, List.set_cons_succ]
        refine Ord.take (i := 2) (d := 12) (v := .int .u8 xk) rfl rfl (by as_aux_lemma => kernel_rfl) (by as_aux_lemma => kernel_rfl) (by as_aux_lemma => kernel_rfl) (fun _ _ _ h => h) (by rfl) ?hE2 (by assumption) ?_
        case hE2 => intro wx hSw; have hc := HCA.out _ hSw; go_simp; try with_reducible rfl
        try simp only [List.setIfInBounds_toArray, List.set_cons_zero, List.set_cons_succ]
        refine Ord.take (i := 3) (d := 13) (v := ?vE3) rfl rfl (by as_aux_lemma => kernel_rfl) (by as_aux_lemma => kernel_rfl) (by as_aux_lemma => kernel_rfl) (fun _ _ _ h => h) (by rfl) ?hE3 (by assumption) ?_
        case hE3 => intro wx hSw; go_simp; try with_reducible rfl
        try simp only [List.setIfInBounds_toArray, List.set_cons_zero, List.set_cons_succ]
        refine Ord.take (i := 4) (d := 14) (v := .pointer (some ⟨w.heap.size + 1, k, none⟩)) rfl rfl (by as_aux_lemma => kernel_rfl) (by as_aux_lemma => kernel_rfl) (by as_aux_lemma => kernel_rfl) (fun _ _ _ h => h) (by rfl) ?hE4 (by assumption) ?_
        case hE4 => intro wx hSw; go_simp; try with_reducible rfl
        try simp only [List.setIfInBounds_toArray, List.set_cons_zero, List.set_cons_succ]
        refine Ord.take (i := 5) (d := 15) (v := .int .u8 yk) rfl rfl (by as_aux_lemma => kernel_rfl) (by as_aux_lemma => kernel_rfl) (by as_aux_lemma => kernel_rfl) (fun _ _ _ h => h) (by rfl) ?hE5 (by assumption) ?_
        case hE5 => intro wx hSw; have hc := HCB.out _ hSw; go_simp; try with_reducible rfl
        try simp only [List.setIfInBounds_toArray, List.set_cons_zero, List.set_cons_succ]
        refine Ord.take (i := 6) (d := 16) (v := .bool false) rfl rfl (by as_aux_lemma => kernel_rfl) (by as_aux_lemma => kernel_rfl) (by as_aux_lemma => kernel_rfl) (fun _ _ _ h => h) (by rfl) ?hE6 (by assumption) ?_
        case hE6 => intro wx hSw; go_simp; try with_reducible rfl
        try simp only [List.setIfInBounds_toArray, List.set_cons_zero, List.set_cons_succ]
        refine wpAnyH_done (by as_aux_lemma => kernel_rfl) ?_ _
        have HS0 := hid hS_v0
        go_wp2
        go_roundw
        case rel => exact ⟨k + 1, by omega, by go_num, HEQ.out, HS0.out⟩
        case measure => simp [intOf]; omega
      · have HEQ : Hid (decide (xk < yk) = ltI x y) := by
          show _ = _
          rw [← HL.out, HST.out, if_neg hxy]
        have hne : (xk == yk) = false := beq_eq_false_iff_ne.2 hxy
        go_wp2_with fail
        refine wp_region_held_drew (S := fun X => Below W2.heap.size W2 X) (by kernel_rfl) (bel_drewS HB.out) (fun hS_v0 => ?_)
        generalize wr.drew = v0 at *
        simp only [List.size_toArray, List.length_cons, List.length_nil, Nat.reduceAdd]
        refine Ord.take (i := 0) (d := 10) (v := ?vN0) rfl rfl (by as_aux_lemma => kernel_rfl) (by as_aux_lemma => kernel_rfl) (by as_aux_lemma => kernel_rfl) (fun _ _ _ h => h) (by rfl) ?hN0 (by assumption) ?_
        case hN0 => intro wx hSw; go_simp; try with_reducible rfl
        try simp only [List.setIfInBounds_toArray, List.set_cons_zero, List.set_cons_succ]
        refine Ord.take (i := 1) (d := 11) (v := .pointer (some ⟨w.heap.size, k, none⟩)) rfl rfl (by as_aux_lemma => kernel_rfl) (by as_aux_lemma => kernel_rfl) (by as_aux_lemma => kernel_rfl) (fun _ _ _ h => h) (by rfl) ?hN1 (by assumption) ?_
        case hN1 => intro wx hSw; go_simp; try with_reducible rfl
        try simp only [List.setIfInBounds_toArray, List.set_cons_zero, List.set_cons_succ]
        refine Ord.take (i := 2) (d := 12) (v := .int .u8 xk) rfl rfl (by as_aux_lemma => kernel_rfl) (by as_aux_lemma => kernel_rfl) (by as_aux_lemma => kernel_rfl) (fun _ _ _ h => h) (by rfl) ?hN2 (by assumption) ?_
        case hN2 => intro wx hSw; have hc := HCA.out _ hSw; go_simp; try with_reducible rfl
        try simp only [List.setIfInBounds_toArray, List.set_cons_zero, List.set_cons_succ]
        refine Ord.take (i := 3) (d := 13) (v := ?vN3) rfl rfl (by as_aux_lemma => kernel_rfl) (by as_aux_lemma => kernel_rfl) (by as_aux_lemma => kernel_rfl) (fun _ _ _ h => h) (by rfl) ?hN3 (by assumption) ?_
        case hN3 => intro wx hSw; go_simp; try with_reducible rfl
        try simp only [List.setIfInBounds_toArray, List.set_cons_zero, List.set_cons_succ]
        refine Ord.take (i := 4) (d := 14) (v := .pointer (some ⟨w.heap.size + 1, k, none⟩)) rfl rfl (by as_aux_lemma => kernel_rfl) (by as_aux_lemma => kernel_rfl) (by as_aux_lemma => kernel_rfl) (fun _ _ _ h => h) (by rfl) ?hN4 (by assumption) ?_
        case hN4 => intro wx hSw; go_simp; try with_reducible rfl
        try simp only [List.setIfInBounds_toArray, List.set_cons_zero, List.set_cons_succ]
        refine Ord.take (i := 5) (d := 15) (v := .int .u8 yk) rfl rfl (by as_aux_lemma => kernel_rfl) (by as_aux_lemma => kernel_rfl) (by as_aux_lemma => kernel_rfl) (fun _ _ _ h => h) (by rfl) ?hN5 (by assumption) ?_
        case hN5 => intro wx hSw; have hc := HCB.out _ hSw; go_simp; try with_reducible rfl
        try simp only [List.setIfInBounds_toArray, List.set_cons_zero, List.set_cons_succ]
        refine Ord.take (i := 6) (d := 16) (v := .bool true) rfl rfl (by as_aux_lemma => kernel_rfl) (by as_aux_lemma => kernel_rfl) (by as_aux_lemma => kernel_rfl) (fun _ _ _ h => h) (by rfl) ?hN6 (by assumption) ?_
        case hN6 => intro wx hSw; go_simp; try with_reducible rfl
        try simp only [List.setIfInBounds_toArray, List.set_cons_zero, List.set_cons_succ]
        refine wpAnyH_done (by as_aux_lemma => kernel_rfl) ?_ _
        go_wp2_with fail
        refine wp_region_held_drew (S := fun X => Below W2.heap.size W2 X) (by kernel_rfl) (bel_drewS hS_v0) (fun hS_v1 => ?_)
        generalize v0.drew = v1 at *
        simp only [List.size_toArray, List.length_cons, List.length_nil, Nat.reduceAdd]
        refine Ord.take (i := 0) (d := 17) (v := ?vNb0) rfl rfl (by as_aux_lemma => kernel_rfl) (by as_aux_lemma => kernel_rfl) (by as_aux_lemma => kernel_rfl) (fun _ _ _ h => h) (by rfl) ?hNb0 (by assumption) ?_
        case hNb0 => intro wx hSw; go_simp; try with_reducible rfl
        try simp only [List.setIfInBounds_toArray, List.set_cons_zero, List.set_cons_succ]
        refine Ord.take (i := 1) (d := 18) (v := .pointer (some ⟨w.heap.size, k, none⟩)) rfl rfl (by as_aux_lemma => kernel_rfl) (by as_aux_lemma => kernel_rfl) (by as_aux_lemma => kernel_rfl) (fun _ _ _ h => h) (by rfl) ?hNb1 (by assumption) ?_
        case hNb1 => intro wx hSw; go_simp; try with_reducible rfl
        try simp only [List.setIfInBounds_toArray, List.set_cons_zero, List.set_cons_succ]
        refine Ord.take (i := 2) (d := 19) (v := .int .u8 xk) rfl rfl (by as_aux_lemma => kernel_rfl) (by as_aux_lemma => kernel_rfl) (by as_aux_lemma => kernel_rfl) (fun _ _ _ h => h) (by rfl) ?hNb2 (by assumption) ?_
        case hNb2 => intro wx hSw; have hc := HCA.out _ hSw; go_simp; try with_reducible rfl
        try simp only [List.setIfInBounds_toArray, List.set_cons_zero, List.set_cons_succ]
        refine Ord.take (i := 3) (d := 20) (v := ?vNb3) rfl rfl (by as_aux_lemma => kernel_rfl) (by as_aux_lemma => kernel_rfl) (by as_aux_lemma => kernel_rfl) (fun _ _ _ h => h) (by rfl) ?hNb3 (by assumption) ?_
        case hNb3 => intro wx hSw; go_simp; try with_reducible rfl
        try simp only [List.setIfInBounds_toArray, List.set_cons_zero, List.set_cons_succ]
        refine Ord.take (i := 4) (d := 21) (v := .pointer (some ⟨w.heap.size + 1, k, none⟩)) rfl rfl (by as_aux_lemma => kernel_rfl) (by as_aux_lemma => kernel_rfl) (by as_aux_lemma => kernel_rfl) (fun _ _ _ h => h) (by rfl) ?hNb4 (by assumption) ?_
        case hNb4 => intro wx hSw; go_simp; try with_reducible rfl
        try simp only [List.setIfInBounds_toArray, List.set_cons_zero, List.set_cons_succ]
        refine Ord.take (i := 5) (d := 22) (v := .int .u8 yk) rfl rfl (by as_aux_lemma => kernel_rfl) (by as_aux_lemma => kernel_rfl) (by as_aux_lemma => kernel_rfl) (fun _ _ _ h => h) (by rfl) ?hNb5 (by assumption) ?_
        case hNb5 => intro wx hSw; have hc := HCB.out _ hSw; go_simp; try with_reducible rfl
        try simp only [List.setIfInBounds_toArray, List.set_cons_zero, List.set_cons_succ]
        refine Ord.take (i := 6) (d := 23) (v := .bool (decide (xk < yk))) rfl rfl (by as_aux_lemma => kernel_rfl) (by as_aux_lemma => kernel_rfl) (by as_aux_lemma => kernel_rfl) (fun _ _ _ h => h) (by rfl) ?hNb6 (by assumption) ?_
        case hNb6 => intro wx hSw; go_simp; try with_reducible rfl
        try simp only [List.setIfInBounds_toArray, List.set_cons_zero, List.set_cons_succ]
        refine Ord.take (i := 7) (d := 4) (v := ?vNb7) rfl rfl (by as_aux_lemma => kernel_rfl) (by as_aux_lemma => kernel_rfl) (by as_aux_lemma => kernel_rfl) (fun _ _ _ h => h) (by rfl) ?hNb7 (by assumption) ?_
        case hNb7 => intro wx hSw; go_simp; try with_reducible rfl
        try simp only [List.setIfInBounds_toArray, List.set_cons_zero, List.set_cons_succ]
        refine wpAnyH_done (by as_aux_lemma => kernel_rfl) ?_ _
        have HS1 := hid (HB2.out.trans (hS_v1.mono HB2.out.size))
        go_wp2
        go_ret
        exact ⟨by rw [← HEQ.out]; rfl, HS1.out⟩
    · have hke : k = 32 := by omega
      subst hke
      have HEQ : Hid (ltI x y = false) := by
        show _ = _
        rw [← HL.out, List.drop_eq_nil_of_le (by rw [HX.out]; exact Nat.le_refl _)]
        rfl
      have HS1 := hid (HB2.out.trans (HB.out.mono HB2.out.size))
      go_wp2
      go_ret
      exact ⟨by rw [HEQ.out]; rfl, HS1.out⟩
end Go.Proofs.Ytcbjlnabbfkkeaa
namespace Go.Proofs.Ytcbjlnabbfkkeaa
open Go.ChangeShapes Go.WideShapes Go.ChangeAt Go.RowKit Go.Deep Go.Lib

theorem ltI_irr : ∀ x : List Int, ltI x x = false
  | [] => rfl
  | x :: a => by rw [ltI, if_pos rfl, ltI_irr a]
theorem ltI_trans : ∀ x y z : List Int, ltI x y = true → ltI y z = true → ltI x z = true
  | [], _, _, h, _ => by simp [ltI] at h
  | _ :: _, [], _, h, _ => by simp [ltI] at h
  | _ :: _, _ :: _, [], _, h => by simp [ltI] at h
  | x :: a, y :: b, z :: c, h1, h2 => by
    rw [ltI] at h1 h2 ⊢
    by_cases e1 : x = y
    · subst e1
      rw [if_pos rfl] at h1
      by_cases e2 : x = z
      · subst e2
        rw [if_pos rfl] at h2 ⊢
        exact ltI_trans a b c h1 h2
      · rw [if_neg e2] at h2 ⊢
        exact h2
    · rw [if_neg e1, decide_eq_true_eq] at h1
      by_cases e2 : y = z
      · subst e2
        rw [if_neg e1]
        simpa using h1
      · rw [if_neg e2, decide_eq_true_eq] at h2
        rw [if_neg (by omega), decide_eq_true_eq]
        omega
theorem ltI_tri : ∀ x y : List Int, x.length = y.length → ltI x y = false → ltI y x = false → x = y
  | [], [], _, _, _ => rfl
  | [], _ :: _, h, _, _ => by simp at h
  | _ :: _, [], h, _, _ => by simp at h
  | x :: a, y :: b, h, h1, h2 => by
    rw [ltI] at h1 h2
    by_cases e : x = y
    · subst e
      rw [if_pos rfl] at h1 h2
      rw [ltI_tri a b (by simpa using h) h1 h2]
    · rw [if_neg e, decide_eq_false_iff_not] at h1
      rw [if_neg (fun h => e h.symm), decide_eq_false_iff_not] at h2
      omega
/-- A digest into a rising row, once. -/
def intoL (D : List Int) : List (List Int) → List (List Int)
  | [] => [D]
  | x :: l => if ltI x D = true then x :: intoL D l else if x = D then x :: l else D :: x :: l
theorem into_mem (D : List Int) : ∀ (l : List (List Int)) (y : List Int), y ∈ intoL D l ↔ y = D ∨ y ∈ l
  | [], y => by simp [intoL]
  | x :: l, y => by
    rw [intoL]
    split
    · rw [List.mem_cons, into_mem D l, List.mem_cons]
      constructor
      · rintro (h | h | h) <;> simp [h]
      · rintro (h | h | h) <;> simp [h]
    · split
      · rename_i h
        subst h
        simp
      · simp
/-- A row of digests, rising. -/
def RiseD (l : List (List Int)) : Prop := l.Pairwise fun x y => ltI x y = true
theorem into_rise (D : List Int) (hD : D.length = 32) : ∀ l : List (List Int), (∀ x ∈ l, x.length = 32) → RiseD l → RiseD (intoL D l)
  | [], _, _ => List.pairwise_singleton ..
  | x :: l, h32, h => by
    have h := List.pairwise_cons.1 h
    rw [intoL]
    split
    · rename_i hx
      refine List.pairwise_cons.2 ⟨fun y hy => ?_, into_rise D hD l (fun z hz => h32 z (List.mem_cons_of_mem _ hz)) h.2⟩
      rcases (into_mem D l y).1 hy with rfl | hy
      · exact hx
      · exact h.1 y hy
    · rename_i hx
      split
      · exact List.pairwise_cons.2 h
      · rename_i hne
        have hx' : ltI x D = false := by simpa using hx
        have hDx : ltI D x = true := by
          cases h3 : ltI D x with
          | true => rfl
          | false => exact absurd (ltI_tri x D (by rw [h32 x (List.mem_cons_self ..), hD]) hx' h3) hne
        refine List.pairwise_cons.2 ⟨fun y hy => ?_, List.pairwise_cons.2 h⟩
        rcases List.mem_cons.1 hy with rfl | hy
        · exact hDx
        · exact ltI_trans _ _ _ hDx (h.1 y hy)
theorem rise_one : ∀ (A B : List (List Int)), RiseD A → RiseD B → (∀ s, s ∈ A ↔ s ∈ B) → A = B
  | [], [], _, _, _ => rfl
  | [], b :: B, _, _, h => by have := (h b).2 (by simp); cases this
  | a :: A, [], _, _, h => by have := (h a).1 (by simp); cases this
  | a :: A, b :: B, ha, hb, h => by
    have ha := List.pairwise_cons.1 ha
    have hb := List.pairwise_cons.1 hb
    have irr : ∀ x, ¬ ltI x x = true := fun x hx => by rw [ltI_irr] at hx; cases hx
    have hab : a = b := by
      rcases List.mem_cons.1 ((h a).1 (by simp)) with h1 | h1
      · exact h1
      · rcases List.mem_cons.1 ((h b).2 (by simp)) with h2 | h2
        · exact h2.symm
        · exact absurd (ltI_trans _ _ _ (ha.1 b h2) (hb.1 a h1)) (irr a)
    subst hab
    rw [rise_one A B ha.2 hb.2 (fun s => ⟨fun hs => ?_, fun hs => ?_⟩)]
    · rcases List.mem_cons.1 ((h s).1 (List.mem_cons_of_mem _ hs)) with e | e
      · subst e; exact absurd (ha.1 s hs) (irr s)
      · exact e
    · rcases List.mem_cons.1 ((h s).2 (List.mem_cons_of_mem _ hs)) with e | e
      · subst e; exact absurd (hb.1 s hs) (irr s)
      · exact e
/-- The digests of a row of files, by the document. -/
def digL (L : List Fi) : List (List Int) := (L.flatMap fun i => i.ps).foldl (fun A p => intoL p.1 A) []
theorem dig_fold (P : List Pc) : ∀ (A : List (List Int)), (∀ x ∈ A, x.length = 32) → (∀ p ∈ P, p.1.length = 32) → RiseD A →
    (∀ x ∈ P.foldl (fun A p => intoL p.1 A) A, x.length = 32) ∧ RiseD (P.foldl (fun A p => intoL p.1 A) A) ∧ ∀ y, y ∈ P.foldl (fun A p => intoL p.1 A) A ↔ y ∈ A ∨ ∃ p ∈ P, p.1 = y := by
  induction P with
  | nil => intro A h1 _ h2; exact ⟨h1, h2, fun y => by simp⟩
  | cons p P ih =>
    intro A h1 hp h2
    have hp0 := hp p (List.mem_cons_self ..)
    obtain ⟨g1, g2, g3⟩ := ih (intoL p.1 A) (fun x hx => by
      rcases (into_mem p.1 A x).1 hx with rfl | hx
      · exact hp0
      · exact h1 x hx) (fun q hq => hp q (List.mem_cons_of_mem _ hq)) (into_rise p.1 hp0 A h1 h2)
    refine ⟨g1, g2, fun y => ?_⟩
    rw [List.foldl_cons, g3, into_mem]
    constructor
    · rintro ((h | h) | ⟨q, hq, e⟩)
      · exact .inr ⟨p, List.mem_cons_self .., h.symm⟩
      · exact .inl h
      · exact .inr ⟨q, List.mem_cons_of_mem _ hq, e⟩
    · rintro (h | ⟨q, hq, e⟩)
      · exact .inl (.inr h)
      · rcases List.mem_cons.1 hq with rfl | hq
        · exact .inl (.inl e.symm)
        · exact .inr ⟨q, hq, e⟩
/-- Any rising row of just the digests of the files is the document's. -/
theorem dig_one {L : List Fi} (hL : ∀ i ∈ L, ∀ p ∈ i.ps, p.1.length = 32) {A : List (List Int)} (hA : RiseD A) (hm : ∀ y, y ∈ A ↔ ∃ i ∈ L, ∃ p ∈ i.ps, p.1 = y) : A = digL L := by
  have hp : ∀ p ∈ L.flatMap (fun i => i.ps), p.1.length = 32 := fun p hp => by
    obtain ⟨i, hi, h⟩ := List.mem_flatMap.1 hp
    exact hL i hi p h
  obtain ⟨_, g2, g3⟩ := dig_fold (L.flatMap fun i => i.ps) [] (fun x hx => by cases hx) hp List.Pairwise.nil
  refine rise_one A _ hA g2 (fun y => ?_)
  rw [hm]
  refine Iff.trans ?_ (g3 y).symm
  constructor
  · rintro ⟨i, hi, p, hp, e⟩
    exact .inr ⟨p, List.mem_flatMap.2 ⟨i, hi, hp⟩, e⟩
  · rintro (h | ⟨p, hp, e⟩)
    · cases h
    · obtain ⟨i, hi, h⟩ := List.mem_flatMap.1 hp
      exact ⟨i, hi, p, h, e⟩
/-- Where a digest goes in. -/
theorem into_at (D : List Int) : ∀ (A : List (List Int)) (k : Nat), k ≤ A.length → (∀ j, j < k → ltI (A.getD j []) D = true) → intoL D A = A.take k ++ intoL D (A.drop k)
  | _, 0, _, _ => by simp
  | [], k + 1, h, _ => by simp at h
  | x :: A, k + 1, hk, h => by
    have h0 : ltI x D = true := h 0 (by omega)
    rw [intoL, if_pos h0, List.take_succ_cons, List.drop_succ_cons, List.cons_append]
    rw [into_at D A k (by simp at hk; omega) (fun j hj => h (j + 1) (by omega))]
end Go.Proofs.Ytcbjlnabbfkkeaa
namespace Go.Proofs.Ytcbjlnabbfkkeaa
open Go.ChangeShapes Go.WideShapes Go.ChangeAt Go.RowKit Go.Deep Go.Lib

theorem Try.info32 : (Try.prog.info? 32).map (fun i => (i.zero, i.size, i.bytes)) = some (some (.agg (u8A z32)), 32, 32) := by kernel_rfl
theorem guard32 : Try.prog.eqGuardType Try.prog.depth 32 = false := by kernel_rfl
theorem run_eql_op {P : Program} {oi : Oper} {ρ : Operand → Value} {t t2 : TypeId} {x y : Operand} (ho : oi.op = .binOp .eql t x y t2) {xs ys : Array Value} {b : Bool} (hx : ρ x = .agg xs) (hy : ρ y = .agg ys) (hg : P.eqGuardType P.depth t = false) {w : World}
    (h : (Op.equalIn 10000 t (.agg xs) (.agg ys)).run P w = .ok b w) : (execOp ρ oi).run P w = .ok (.value (.bool b)) w := by
  unfold execOp
  simp only [ho, hx, hy, Sem.run_bind, run_eqGuard_agg w .eql t x y xs ys hg, run_eql_struct w t xs ys, h, Result.andThen_ok]
  rfl
theorem dgC_len {x : List Int} (h : x.length = 32) : (dgC x).length = 32 := by unfold dgC; rw [List.length_map]; exact h
theorem dgC_one (x : List Int) : ∀ u ∈ dgC x, u.oneCell' = true := fun u hu => by
  obtain ⟨z, _, rfl⟩ := List.mem_map.1 hu
  rfl
theorem flatD_len (l : List (List Int)) (h : ∀ x ∈ l, x.length = 32) : (l.flatMap dgC).length = l.length * 32 := by
  induction l with
  | nil => rfl
  | cons x l ih => rw [List.flatMap_cons, List.length_append, dgC_len (h x (by simp)), ih (fun y hy => h y (by simp [hy])), List.length_cons]; omega
theorem flatD_back : ∀ (l : List (List Int)), (∀ x ∈ l, x.length = 32) → ∀ {j : Nat} {u : Value}, (l.flatMap dgC)[j]? = some u → j / 32 < l.length ∧ (dgC (l.getD (j / 32) []))[j % 32]? = some u
  | [], _, j, u, hj => by simp at hj
  | x :: l, h, j, u, hj => by
    have hx := dgC_len (h x (by simp))
    rw [List.flatMap_cons] at hj
    by_cases hlt : j < 32
    · rw [List.getElem?_append_left (by omega)] at hj
      rw [Nat.div_eq_of_lt hlt, Nat.mod_eq_of_lt hlt]
      exact ⟨by simp, hj⟩
    · rw [List.getElem?_append_right (by omega), hx] at hj
      obtain ⟨h1, h2⟩ := flatD_back l (fun y hy => h y (by simp [hy])) hj
      have e1 : j / 32 = (j - 32) / 32 + 1 := by omega
      have e2 : j % 32 = (j - 32) % 32 := by omega
      rw [e1, e2]
      exact ⟨by simp; omega, h2⟩
/-- A row of digests appended to an own one. -/
theorem wp_append_dg {o : Oper} {a : Act} {w : World} {K : Act → World → Prop} {Q : Exit → Act → World → Prop} (s x : Operand)
    (ho : o.op = .call { callee := .builtin .append, args := #[s, x], argTypes := #[71, 71] }) (base : Nat) (v : Value) (n : Nat) (xs : List Value) (hs : a.eval s = v) (hown : w.ownsRow base 32 32 v n xs)
    (ad : Addr) (cap : Nat) (l : List (List Int)) (hx : a.eval x = .slice (some ad) l.length cap) (h32 : ∀ x ∈ l, x.length = 32) (hc : ∀ j, j < l.length → ∀ i u, (dgC (l.getD j []))[i]? = some u → w.cell? (ad.add (j * 32 + i)) = some u) (hn : n + l.length ≤ 1000000) (hbase : base ≤ w.heap.size)
    (h : ∀ v' w', Hid (w'.ownsRow base 32 32 v' (n + l.length) (xs ++ l.flatMap dgC)) → Hid (w.grownBy w' v.ownBlock) → K (a.put o.dst v') w') : o.wp Try.prog a w K Q := by
  obtain ⟨i0, hi, hz0, hz1, hz2⟩ := info_parts Try.info32
  refine wp_append_own w s x 71 ho base 32 i0 _ 32 32 Try.underlying71 hi hz0 hz1 hz2 rfl (by decide) v n xs hs hown ad l.length cap (l.flatMap dgC) hx (flatD_len l h32) (fun j u hu => ?_) (fun u hu => ?_) (by unfold maxLen; omega) (by omega) hbase (fun v' w' h2 h3 _ => h v' w' h2 h3)
  · obtain ⟨hq, hd⟩ := flatD_back l h32 hu
    have := hc (j / 32) hq (j % 32) u hd
    rwa [show j / 32 * 32 + j % 32 = j from by omega] at this
  · obtain ⟨r, _, hu⟩ := List.mem_flatMap.1 hu
    exact dgC_one r u hu
theorem wp_buildEmptyD {o : Oper} {a : Act} {w : World} {K : Act → World → Prop} {Q : Exit → Act → World → Prop} (ho : o.op = .buildSlice 71 0 #[]) (B N : Nat) (hB : B ≤ w.heap.size) (hN : N = w.heap.size)
    (h : ∀ W', Hid (W'.ownsRow B 32 32 (.slice (some ⟨N, 0, none⟩) 0 0) 0 []) → Hid (Below N w W') → K (a.put o.dst (.slice (some ⟨N, 0, none⟩) 0 0)) W') : o.wp Try.prog a w K Q := by
  subst hN
  obtain ⟨i0, hi, hz0, hz1, hz2⟩ := info_parts Try.info32
  have hr : (Instr.buildSlice 71 0 #[]).run Try.prog w = .ok (.slice (some ⟨w.heap.size, 0, none⟩) 0 0) (w.alloc (.cells #[] 32)) := by
    simp [Instr.buildSlice, run_underlying Try.underlying71, sizeOf, typeInfo, hi, newRow, Instr.fill]
    exact congrArg (fun x => w.alloc (.cells x 32)) (Array.eq_empty_of_size_eq_zero (by simp))
  unfold Oper.wp execOp
  simp only [ho, Sem.run_bind, List.map_toArray, List.map_nil, hr, Result.andThen_ok]
  refine h _ ?_ (bel_alc w _)
  show World.ownsRow _ _ _ _ _ _ _
  exact World.ownsRow_lit (e := 32) (size := 32) w #[] 0 hB (by unfold maxLen; omega) rfl
end Go.Proofs.Ytcbjlnabbfkkeaa
