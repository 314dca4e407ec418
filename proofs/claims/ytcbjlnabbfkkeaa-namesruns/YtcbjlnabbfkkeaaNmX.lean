/-
  Rows of parts held against each other: SameParts (34).
-/
import Derived.Test.YtcbjlnabbfkkeaaNmV
namespace Go.Proofs.Ytcbjlnabbfkkeaa
open Go.ChangeShapes Go.WideShapes Go.ChangeAt Go.RowKit Go.Deep Go.Lib

theorem Try.fields64 : Try.prog.underlying 64 = some (.struct (Try.prog.fieldsOf 64)) := by kernel_rfl
theorem guard64 : Try.prog.eqGuardType Try.prog.depth 64 = false := by kernel_rfl
theorem Try.size64' : (Try.prog.info? 64).map (·.size) = some 35 := by kernel_rfl
set_option maxRecDepth 100000 in
theorem partD64 (x : Pt) (hx : x.x.1.length = 32) (w : World) : (part 32 (ptC x).toArray 0).run Try.prog w = .ok (.agg (u8A x.x.1)) w := by
  obtain ⟨⟨l, n⟩, f, t⟩ := x
  obtain ⟨a0, a1, a2, a3, a4, a5, a6, a7, a8, a9, a10, a11, a12, a13, a14, a15, a16, a17, a18, a19, a20, a21, a22, a23, a24, a25, a26, a27, a28, a29, a30, a31, h⟩ := list32 l hx
  subst h
  kernel_rfl
set_option maxRecDepth 100000 in
theorem partI64 (x : Pt) (hx : x.x.1.length = 32) (w : World) : (part 3 (ptC x).toArray 32).run Try.prog w = .ok (.int .i64 x.x.2) w ∧ (part 3 (ptC x).toArray 33).run Try.prog w = .ok (.int .i64 x.from_) w ∧ (part 3 (ptC x).toArray 34).run Try.prog w = .ok (.int .i64 x.to_) w := by
  obtain ⟨⟨l, n⟩, f, t⟩ := x
  obtain ⟨a0, a1, a2, a3, a4, a5, a6, a7, a8, a9, a10, a11, a12, a13, a14, a15, a16, a17, a18, a19, a20, a21, a22, a23, a24, a25, a26, a27, a28, a29, a30, a31, h⟩ := list32 l hx
  subst h
  exact ⟨by kernel_rfl, by kernel_rfl, by kernel_rfl⟩
set_option maxRecDepth 100000 in
theorem eq64 (x y : Pt) (hx : x.x.1.length = 32) (hy : y.x.1.length = 32) (w : World) : (Op.equalIn 10000 64 (.agg (ptC x).toArray) (.agg (ptC y).toArray)).run Try.prog w = .ok (decide (x.x = y.x ∧ x.from_ = y.from_ ∧ x.to_ = y.to_)) w := by
  rw [show (10000 : Nat) = 9999 + 1 from rfl, run_equalIn_struct w 9999 64 _ _ Try.fields64 (by kernel_rfl)]
  have hf : ∃ f0 f1 f2 f3 : Field, (Try.prog.fieldsOf 64).toList = [f0, f1, f2, f3] ∧ f0.type = 32 ∧ f0.offset = 0 ∧ f1.type = 3 ∧ f1.offset = 32 ∧ f2.type = 3 ∧ f2.offset = 33 ∧ f3.type = 3 ∧ f3.offset = 34 ∧ f0.name ≠ "_" ∧ f1.name ≠ "_" ∧ f2.name ≠ "_" ∧ f3.name ≠ "_" := ⟨_, _, _, _, rfl, rfl, rfl, rfl, rfl, rfl, rfl, rfl, rfl, by decide, by decide, by decide, by decide⟩
  obtain ⟨f0, f1, f2, f3, hl, t0, o0, t1, o1, t2, o2, t3, o3, n0, n1, n2, n3⟩ := hf
  rw [hl]
  have ei : ∀ a b : Int, (Op.equalIn 9999 3 (.int .i64 a) (.int .i64 b)).run Try.prog w = .ok (a == b) w := fun a b => run_equalIn_int w 9998 3 .i64 .i64 a b Try.underlying3
  simp only [Op.eqFields, n0, n1, n2, n3, ne_eq, not_false_eq_true, if_true, Sem.run_bind, t0, o0, t1, o1, t2, o2, t3, o3, partD64 x hx, partD64 y hy, (partI64 x hx w).1, (partI64 y hy w).1, (partI64 x hx w).2.1, (partI64 y hy w).2.1, (partI64 x hx w).2.2, (partI64 y hy w).2.2, Result.andThen_ok, eqD 9997 x.x.1 y.x.1 hx hy, Sem.run_ite, ei]
  obtain ⟨⟨x1, x2⟩, x3, x4⟩ := x
  obtain ⟨⟨y1, y2⟩, y3, y4⟩ := y
  by_cases h1 : x1 = y1
  · by_cases h2 : x2 = y2
    · by_cases h3 : x3 = y3
      · by_cases h4 : x4 = y4
        · subst h1 h2 h3 h4; simp
        · subst h1 h2 h3
          have hb : (x4 == y4) = false := by rw [beq_eq_false_iff_ne]; exact h4
          simp [h4, hb]
      · subst h1 h2
        have hb : (x3 == y3) = false := by rw [beq_eq_false_iff_ne]; exact h3
        simp [h3, hb]
    · subst h1
      have hb : (x2 == y2) = false := by rw [beq_eq_false_iff_ne]; exact h2
      simp [h2, hb]
  · simp [h1]
/-- Parts that are alike. -/
def Ps2 (x y : Pt) : Prop := x.x = y.x ∧ x.from_ = y.from_ ∧ x.to_ = y.to_
set_option maxHeartbeats 6400000 in
set_option maxRecDepth 100000 in
theorem sprt_word (A B : List Pt) (a b : Option Addr) (ca cb : Nat) (W : World) (hA : Rw 35 ptC ptZ W a ca A) (hB : Rw 35 ptC ptZ W b cb B) (h1 : ∀ x ∈ A, x.x.1.length = 32) (h2 : ∀ x ∈ B, x.x.1.length = 32) :
    Calls Try.prog 34 #[.slice a A.length ca, .slice b B.length cb] W fun e w' => ∃ q : Bool, e = .returned (.bool q) ∧ (q = true ↔ A.length = B.length ∧ ∀ i, i < A.length → Ps2 (A.getD i ptZ) (B.getD i ptZ)) ∧ Below W.heap.size W w' := by
  have hma : A.length ≤ maxLen := Nat.le_trans hA.room hA.most
  have hmb : B.length ≤ maxLen := Nat.le_trans hB.room hB.most
  have hra := hA.room
  have hrb := hB.room
  unfold maxLen at hma hmb
  have HA := hid hA
  have HB := hid hB
  have HL1 := hid h1
  have HL2 := hid h2
  obtain ⟨na, hna⟩ : ∃ k, k = A.length := ⟨_, rfl⟩
  obtain ⟨nb, hnb⟩ : ∃ k, k = B.length := ⟨_, rfl⟩
  have HNA := hid hna
  have HNB := hid hnb
  rw [← hna] at hma hra ⊢
  rw [← hnb] at hmb hrb ⊢
  clear hA hB hna hnb h1 h2
  by_cases hab : na = nb
  · subst hab
    go_enter Try.func34, Try.ntmps34
    go_wp2
    go_loopw [5] (fun x5 wr => ∃ i : Nat, i ≤ na ∧ x5 = .int .i64 (i : Int) ∧ Hid (∀ j, j < i → Ps2 (A.getD j ptZ) (B.getD j ptZ)) ∧ Hid (Below W.heap.size W wr)) (fun x5 _ => na - (intOf x5).toNat)
    case atStart => exact ⟨0, by omega, rfl, (fun j hj => by omega), Below.refl _ _⟩
    case round =>
      obtain ⟨k, hk, rfl, HE, HX⟩ := hrel
      by_cases hkl : k < na
      · have hkz : (k : Int) < (na : Int) := by omega
        obtain ⟨b3, o3, rfl, hb3, hr3⟩ := HA.out.cells (by rw [← HNA.out]; omega)
        obtain ⟨b4, o4, rfl, hb4, hr4⟩ := HB.out.cells (by rw [← HNB.out]; omega)
        have hx3 := hr3 k (by rw [← HNA.out]; exact hkl)
        have hx4 := hr4 k (by rw [← HNB.out]; exact hkl)
        have hok3 : (A.getD k ptZ).x.1.length = 32 := HL1.out _ (by simp [List.getD, List.getElem?_eq_getElem (show k < A.length by rw [← HNA.out]; exact hkl)])
        have hok4 : (B.getD k ptZ).x.1.length = 32 := HL2.out _ (by simp [List.getD, List.getElem?_eq_getElem (show k < B.length by rw [← HNB.out]; exact hkl)])
        obtain ⟨x, hx⟩ : ∃ x, x = A.getD k ptZ := ⟨_, rfl⟩
        obtain ⟨y, hy⟩ : ∃ y, y = B.getD k ptZ := ⟨_, rfl⟩
        rw [← hx] at hx3 hok3
        rw [← hy] at hx4 hok4
        have HR3 : Hid (∀ X, Below W.heap.size W X → X.rangeAt b3 (o3 + k * 35) (ptC x)) := fun X hX => range_later hx3 hX hb3
        have HR4 : Hid (∀ X, Below W.heap.size W X → X.rangeAt b4 (o4 + k * 35) (ptC y)) := fun X hX => range_later hx4 hX hb4
        have HL3 := hid hok3
        have HL4 := hid hok4
        have HC3 : Hid ((ptC x).length = 35) := by show _ = _; unfold ptC; rw [List.length_append, pcC_len hok3]; rfl
        have HC4 : Hid ((ptC y).length = 35) := by show _ = _; unfold ptC; rw [List.length_append, pcC_len hok4]; rfl
        have HXX := hid hx
        have HYY := hid hy
        clear hx3 hx4 hok3 hok4 hr3 hr4 hb3 hb4 hx hy
        go_wp2_with fail
        refine wp_region_held_drew (S := fun X => Below W.heap.size W X) (by kernel_rfl) (bel_drewS HX.out) (fun hS0 => ?_)
        generalize wr.drew = v0 at *
        simp only [List.size_toArray, List.length_cons, List.length_nil, Nat.reduceAdd]
        refine Ord.take (i := 0) (d := 17) (v := ?vA0) rfl rfl (by as_aux_lemma => kernel_rfl) (by as_aux_lemma => kernel_rfl) (by as_aux_lemma => kernel_rfl) (fun _ _ _ h => h) (by rfl) ?hA0 (by assumption) ?_
        case hA0 => intro w hSw; go_simp; try with_reducible rfl
        simp only [List.setIfInBounds_toArray, List.set_cons_zero, List.set_cons_succ]
        refine Ord.take (i := 1) (d := 18) (v := ?vA1) rfl rfl (by as_aux_lemma => kernel_rfl) (by as_aux_lemma => kernel_rfl) (by as_aux_lemma => kernel_rfl) (fun _ _ _ h => h) (by rfl) ?hA1 (by assumption) ?_
        case hA1 => intro w hSw; go_simp; try with_reducible rfl
        simp only [List.setIfInBounds_toArray, List.set_cons_zero, List.set_cons_succ]
        refine Ord.take (i := 2) (d := 19) (v := .pointer (some ⟨b3, o3 + k * 35, none⟩)) rfl rfl (by as_aux_lemma => kernel_rfl) (by as_aux_lemma => kernel_rfl) (by as_aux_lemma => kernel_rfl) (fun _ _ _ h => h) (by rfl) ?hA2 (by assumption) ?_
        case hA2 => intro w hSw; go_simp; try with_reducible rfl
        simp only [List.setIfInBounds_toArray, List.set_cons_zero, List.set_cons_succ]
        refine Ord.take (i := 3) (d := 20) (v := .agg (ptC x).toArray) rfl rfl (by as_aux_lemma => kernel_rfl) (by as_aux_lemma => kernel_rfl) (by as_aux_lemma => kernel_rfl) (fun _ _ _ h => h) (by rfl) ?hA3 (by assumption) ?_
        case hA3 => intro w hSw; exact exec_load 64 (.tmp 19) rfl b3 (o3 + k * 35) rfl (run_loadVar_mid w b3 (o3 + k * 35) 64 (ptC x) _ (HR3.out _ hSw) Try.underlying64 rfl (by rw [HC3.out]; exact Try.size64'))
        simp only [List.setIfInBounds_toArray, List.set_cons_zero, List.set_cons_succ]
        refine Ord.take (i := 4) (d := 21) (v := ?vA4) rfl rfl (by as_aux_lemma => kernel_rfl) (by as_aux_lemma => kernel_rfl) (by as_aux_lemma => kernel_rfl) (fun _ _ _ h => h) (by rfl) ?hA4 (by assumption) ?_
        case hA4 => intro w hSw; go_simp; try with_reducible rfl
        simp only [List.setIfInBounds_toArray, List.set_cons_zero, List.set_cons_succ]
        refine Ord.take (i := 5) (d := 22) (v := ?vA5) rfl rfl (by as_aux_lemma => kernel_rfl) (by as_aux_lemma => kernel_rfl) (by as_aux_lemma => kernel_rfl) (fun _ _ _ h => h) (by rfl) ?hA5 (by assumption) ?_
        case hA5 => intro w hSw; go_simp; try with_reducible rfl
        simp only [List.setIfInBounds_toArray, List.set_cons_zero, List.set_cons_succ]
        refine Ord.take (i := 6) (d := 23) (v := .pointer (some ⟨b4, o4 + k * 35, none⟩)) rfl rfl (by as_aux_lemma => kernel_rfl) (by as_aux_lemma => kernel_rfl) (by as_aux_lemma => kernel_rfl) (fun _ _ _ h => h) (by rfl) ?hA6 (by assumption) ?_
        case hA6 => intro w hSw; go_simp; try with_reducible rfl
        simp only [List.setIfInBounds_toArray, List.set_cons_zero, List.set_cons_succ]
        refine Ord.take (i := 7) (d := 24) (v := .agg (ptC y).toArray) rfl rfl (by as_aux_lemma => kernel_rfl) (by as_aux_lemma => kernel_rfl) (by as_aux_lemma => kernel_rfl) (fun _ _ _ h => h) (by rfl) ?hA7 (by assumption) ?_
        case hA7 => intro w hSw; exact exec_load 64 (.tmp 23) rfl b4 (o4 + k * 35) rfl (run_loadVar_mid w b4 (o4 + k * 35) 64 (ptC y) _ (HR4.out _ hSw) Try.underlying64 rfl (by rw [HC4.out]; exact Try.size64'))
        simp only [List.setIfInBounds_toArray, List.set_cons_zero, List.set_cons_succ]
        refine Ord.take (i := 8) (d := 25) (v := .bool (!decide (x.x = y.x ∧ x.from_ = y.from_ ∧ x.to_ = y.to_))) rfl rfl (by as_aux_lemma => kernel_rfl) (by as_aux_lemma => kernel_rfl) (by as_aux_lemma => kernel_rfl) (fun _ _ _ h => h) (by rfl) ?hA8 (by assumption) ?_
        case hA8 => intro w hSw; exact run_neq_op rfl rfl rfl guard64 (eq64 x y HL3.out HL4.out w)
        simp only [List.setIfInBounds_toArray, List.set_cons_zero, List.set_cons_succ]
        refine wpAnyH_done (by as_aux_lemma => kernel_rfl) ?_ _
        by_cases hxy : x.x = y.x ∧ x.from_ = y.from_ ∧ x.to_ = y.to_
        · have HXY : Hid (decide (x.x = y.x ∧ x.from_ = y.from_ ∧ x.to_ = y.to_) = true) := decide_eq_true hxy
          rw [HXY.out]
          go_wp2
          go_roundw
          case rel => exact ⟨k + 1, by omega, by go_num, (fun j hj => by
            by_cases hjk : j < k
            · exact HE.out j hjk
            · have : j = k := by omega
              subst this
              rw [← HXX.out, ← HYY.out]; exact hxy), hS0⟩
          case measure => simp [intOf]; omega
        · have HXY : Hid (decide (x.x = y.x ∧ x.from_ = y.from_ ∧ x.to_ = y.to_) = false) := decide_eq_false hxy
          rw [HXY.out]
          have HNE : ¬ Ps2 (A.getD k ptZ) (B.getD k ptZ) := fun h => hxy (by rw [HXX.out, HYY.out]; exact h)
          go_wp2
          go_ret
          exact ⟨false, rfl, ⟨(fun h => by cases h), fun h => absurd (h.2 k hkl) HNE⟩, hS0⟩
      · have hin : k = na := by omega
        subst hin
        have hiz : ¬ (k : Int) < (k : Int) := by omega
        go_wp2
        go_ret
        exact .inr ⟨rfl, (fun j hj => HE.out j hj), HX.out⟩
  · have habz : ¬ (na : Int) = (nb : Int) := by omega
    go_enter Try.func34, Try.ntmps34
    go_wp2
    go_ret
    exact ⟨false, rfl, ⟨(fun h => by cases h), fun h => absurd h.1 hab⟩, Below.refl _ _⟩
end Go.Proofs.Ytcbjlnabbfkkeaa
