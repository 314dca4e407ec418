/-
  Rows of digests held against each other: SameDigests (36).
-/
import Derived.Test.YtcbjlnabbfkkeaaNmV
namespace Go.Proofs.Ytcbjlnabbfkkeaa
open Go.ChangeShapes Go.WideShapes Go.ChangeAt Go.RowKit Go.Deep Go.Lib

def dgC (x : List Int) : List Value := x.map (Value.int .u8)
theorem Try.size32' : (Try.prog.info? 32).map (·.size) = some 32 := by kernel_rfl
set_option maxHeartbeats 6400000 in
set_option maxRecDepth 100000 in
theorem sdig_word (A B : List (List Int)) (a b : Option Addr) (ca cb : Nat) (W : World) (hA : Rw 32 dgC [] W a ca A) (hB : Rw 32 dgC [] W b cb B) (h1 : ∀ x ∈ A, x.length = 32) (h2 : ∀ x ∈ B, x.length = 32) :
    Calls Try.prog 36 #[.slice a A.length ca, .slice b B.length cb] W fun e w' => ∃ q : Bool, e = .returned (.bool q) ∧ (q = true ↔ A.length = B.length ∧ ∀ i, i < A.length → A.getD i [] = B.getD i []) ∧ Below W.heap.size W w' := by
  have hma : A.length ≤ maxLen := Nat.le_trans hA.room hA.most
  have hmb : B.length ≤ maxLen := Nat.le_trans hB.room hB.most
  have hra := hA.room
  have hrb := hB.room
  unfold maxLen at hma hmb
  have HA := hid hA
  have HB := hid hB
  have HL1 := hid h1
  have HL2 := hid h2
  obtain ⟨na, hna⟩ : ∃ k, k = A.length := ⟨_, rfl⟩
  obtain ⟨nb, hnb⟩ : ∃ k, k = B.length := ⟨_, rfl⟩
  have HNA := hid hna
  have HNB := hid hnb
  rw [← hna] at hma hra ⊢
  rw [← hnb] at hmb hrb ⊢
  clear hA hB hna hnb h1 h2
  by_cases hab : na = nb
  · subst hab
    go_enter Try.func36, Try.ntmps36
    go_wp2
    go_loopw [5] (fun x5 wr => ∃ i : Nat, i ≤ na ∧ x5 = .int .i64 (i : Int) ∧ Hid (∀ j, j < i → A.getD j [] = B.getD j []) ∧ Hid (Below W.heap.size W wr)) (fun x5 _ => na - (intOf x5).toNat)
    case atStart => exact ⟨0, by omega, rfl, (fun j hj => by omega), Below.refl _ _⟩
    case round =>
      obtain ⟨k, hk, rfl, HE, HX⟩ := hrel
      by_cases hkl : k < na
      · have hkz : (k : Int) < (na : Int) := by omega
        obtain ⟨b3, o3, rfl, hb3, hr3⟩ := HA.out.cells (by rw [← HNA.out]; omega)
        obtain ⟨b4, o4, rfl, hb4, hr4⟩ := HB.out.cells (by rw [← HNB.out]; omega)
        have hx3 := hr3 k (by rw [← HNA.out]; exact hkl)
        have hx4 := hr4 k (by rw [← HNB.out]; exact hkl)
        have hok3 : (A.getD k []).length = 32 := HL1.out _ (by simp [List.getD, List.getElem?_eq_getElem (show k < A.length by rw [← HNA.out]; exact hkl)])
        have hok4 : (B.getD k []).length = 32 := HL2.out _ (by simp [List.getD, List.getElem?_eq_getElem (show k < B.length by rw [← HNB.out]; exact hkl)])
        obtain ⟨x, hx⟩ : ∃ x, x = A.getD k [] := ⟨_, rfl⟩
        obtain ⟨y, hy⟩ : ∃ y, y = B.getD k [] := ⟨_, rfl⟩
        rw [← hx] at hx3 hok3
        rw [← hy] at hx4 hok4
        have HR3 : Hid (∀ X, Below W.heap.size W X → X.rangeAt b3 (o3 + k * 32) (dgC x)) := fun X hX => range_later hx3 hX hb3
        have HR4 : Hid (∀ X, Below W.heap.size W X → X.rangeAt b4 (o4 + k * 32) (dgC y)) := fun X hX => range_later hx4 hX hb4
        have HL3 := hid hok3
        have HL4 := hid hok4
        have HC3 : Hid ((dgC x).length = 32) := by show _ = _; unfold dgC; rw [List.length_map]; exact hok3
        have HC4 : Hid ((dgC y).length = 32) := by show _ = _; unfold dgC; rw [List.length_map]; exact hok4
        have HXX := hid hx
        have HYY := hid hy
        clear hx3 hx4 hok3 hok4 hr3 hr4 hb3 hb4 hx hy
        go_wp2_with fail
        refine wp_region_held_drew (S := fun X => Below W.heap.size W X) (by kernel_rfl) (bel_drewS HX.out) (fun hS0 => ?_)
        generalize wr.drew = v0 at *
        simp only [List.size_toArray, List.length_cons, List.length_nil, Nat.reduceAdd]
        refine Ord.take (i := 0) (d := 17) (v := ?vA0) rfl rfl (by as_aux_lemma => kernel_rfl) (by as_aux_lemma => kernel_rfl) (by as_aux_lemma => kernel_rfl) (fun _ _ _ h => h) (by rfl) ?hA0 (by assumption) ?_
        case hA0 => intro w hSw; go_simp; try with_reducible rfl
        simp only [List.setIfInBounds_toArray, List.set_cons_zero, List.set_cons_succ]
        refine Ord.take (i := 1) (d := 18) (v := ?vA1) rfl rfl (by as_aux_lemma => kernel_rfl) (by as_aux_lemma => kernel_rfl) (by as_aux_lemma => kernel_rfl) (fun _ _ _ h => h) (by rfl) ?hA1 (by assumption) ?_
        case hA1 => intro w hSw; go_simp; try with_reducible rfl
        simp only [List.setIfInBounds_toArray, List.set_cons_zero, List.set_cons_succ]
        refine Ord.take (i := 2) (d := 19) (v := .pointer (some ⟨b3, o3 + k * 32, none⟩)) rfl rfl (by as_aux_lemma => kernel_rfl) (by as_aux_lemma => kernel_rfl) (by as_aux_lemma => kernel_rfl) (fun _ _ _ h => h) (by rfl) ?hA2 (by assumption) ?_
        case hA2 => intro w hSw; go_simp; try with_reducible rfl
        simp only [List.setIfInBounds_toArray, List.set_cons_zero, List.set_cons_succ]
        refine Ord.take (i := 3) (d := 20) (v := .agg (u8A x)) rfl rfl (by as_aux_lemma => kernel_rfl) (by as_aux_lemma => kernel_rfl) (by as_aux_lemma => kernel_rfl) (fun _ _ _ h => h) (by rfl) ?hA3 (by assumption) ?_
        case hA3 => intro w hSw; exact exec_load 32 (.tmp 19) rfl b3 (o3 + k * 32) rfl (run_loadVar_mid w b3 (o3 + k * 32) 32 (dgC x) _ (HR3.out _ hSw) Try.underlying32 rfl (by rw [HC3.out]; exact Try.size32'))
        simp only [List.setIfInBounds_toArray, List.set_cons_zero, List.set_cons_succ]
        refine Ord.take (i := 4) (d := 21) (v := ?vA4) rfl rfl (by as_aux_lemma => kernel_rfl) (by as_aux_lemma => kernel_rfl) (by as_aux_lemma => kernel_rfl) (fun _ _ _ h => h) (by rfl) ?hA4 (by assumption) ?_
        case hA4 => intro w hSw; go_simp; try with_reducible rfl
        simp only [List.setIfInBounds_toArray, List.set_cons_zero, List.set_cons_succ]
        refine Ord.take (i := 5) (d := 22) (v := ?vA5) rfl rfl (by as_aux_lemma => kernel_rfl) (by as_aux_lemma => kernel_rfl) (by as_aux_lemma => kernel_rfl) (fun _ _ _ h => h) (by rfl) ?hA5 (by assumption) ?_
        case hA5 => intro w hSw; go_simp; try with_reducible rfl
        simp only [List.setIfInBounds_toArray, List.set_cons_zero, List.set_cons_succ]
        refine Ord.take (i := 6) (d := 23) (v := .pointer (some ⟨b4, o4 + k * 32, none⟩)) rfl rfl (by as_aux_lemma => kernel_rfl) (by as_aux_lemma => kernel_rfl) (by as_aux_lemma => kernel_rfl) (fun _ _ _ h => h) (by rfl) ?hA6 (by assumption) ?_
        case hA6 => intro w hSw; go_simp; try with_reducible rfl
        simp only [List.setIfInBounds_toArray, List.set_cons_zero, List.set_cons_succ]
        refine Ord.take (i := 7) (d := 24) (v := .agg (u8A y)) rfl rfl (by as_aux_lemma => kernel_rfl) (by as_aux_lemma => kernel_rfl) (by as_aux_lemma => kernel_rfl) (fun _ _ _ h => h) (by rfl) ?hA7 (by assumption) ?_
        case hA7 => intro w hSw; exact exec_load 32 (.tmp 23) rfl b4 (o4 + k * 32) rfl (run_loadVar_mid w b4 (o4 + k * 32) 32 (dgC y) _ (HR4.out _ hSw) Try.underlying32 rfl (by rw [HC4.out]; exact Try.size32'))
        simp only [List.setIfInBounds_toArray, List.set_cons_zero, List.set_cons_succ]
        refine Ord.take (i := 8) (d := 25) (v := .bool (!decide (x = y))) rfl rfl (by as_aux_lemma => kernel_rfl) (by as_aux_lemma => kernel_rfl) (by as_aux_lemma => kernel_rfl) (fun _ _ _ h => h) (by rfl) ?hA8 (by assumption) ?_
        case hA8 => intro w hSw; exact run_neq_op rfl rfl rfl guard37 (eq37 x y HL3.out HL4.out w)
        simp only [List.setIfInBounds_toArray, List.set_cons_zero, List.set_cons_succ]
        refine wpAnyH_done (by as_aux_lemma => kernel_rfl) ?_ _
        by_cases hxy : x = y
        · have HXY : Hid (decide (x = y) = true) := decide_eq_true hxy
          rw [HXY.out]
          go_wp2
          go_roundw
          case rel => exact ⟨k + 1, by omega, by go_num, (fun j hj => by
            by_cases hjk : j < k
            · exact HE.out j hjk
            · have : j = k := by omega
              subst this
              rw [← HXX.out, ← HYY.out]; exact hxy), hS0⟩
          case measure => simp [intOf]; omega
        · have HXY : Hid (decide (x = y) = false) := decide_eq_false hxy
          rw [HXY.out]
          have HNE : ¬ A.getD k [] = B.getD k [] := fun h => hxy (by rw [HXX.out, HYY.out, h])
          go_wp2
          go_ret
          exact ⟨false, rfl, ⟨(fun h => by cases h), fun h => absurd (h.2 k hkl) HNE⟩, hS0⟩
      · have hin : k = na := by omega
        subst hin
        have hiz : ¬ (k : Int) < (k : Int) := by omega
        go_wp2
        go_ret
        exact .inr ⟨rfl, (fun j hj => HE.out j hj), HX.out⟩
  · have habz : ¬ (na : Int) = (nb : Int) := by omega
    go_enter Try.func36, Try.ntmps36
    go_wp2
    go_ret
    exact ⟨false, rfl, ⟨(fun h => by cases h), fun h => absurd h.1 hab⟩, Below.refl _ _⟩
end Go.Proofs.Ytcbjlnabbfkkeaa
