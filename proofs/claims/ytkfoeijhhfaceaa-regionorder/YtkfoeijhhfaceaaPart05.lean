/-
  Which extents a row holds, which it meets: the contracts of region's holds and meets.
-/
import Derived.Test.YtkfoeijhhfaceaaPart04
import Derived.Test.YtkfoeijhhfaceaaPart02
namespace Go.Proofs.Ytkfoeijhhfaceaa
open Go.RowKit Go.Shelf
attribute [local go_sem] Oper.semAt_some

def hldB (l : List Ext) (e : Ext) : Bool := l.any fun x => decide (x.1 ≤ e.1) && decide (e.1 + e.2 ≤ x.1 + x.2)
def metB (l : List Ext) (e : Ext) : Bool := l.any fun x => decide (x.1 < e.1 + e.2) && decide (e.1 < x.1 + x.2)
theorem hldB_snoc (l : List Ext) (x e : Ext) : hldB (l ++ [x]) e = (hldB l e || (decide (x.1 ≤ e.1) && decide (e.1 + e.2 ≤ x.1 + x.2))) := by simp [hldB]
theorem metB_snoc (l : List Ext) (x e : Ext) : metB (l ++ [x]) e = (metB l e || (decide (x.1 < e.1 + e.2) && decide (e.1 < x.1 + x.2))) := by simp [metB]
theorem hldB_pre (l m : List Ext) (e : Ext) (h : hldB l e = true) : hldB (l ++ m) e = true := by
  unfold hldB at *
  rw [List.any_append, h]; rfl
theorem metB_pre (l m : List Ext) (e : Ext) (h : metB l e = true) : metB (l ++ m) e = true := by
  unfold metB at *
  rw [List.any_append, h]; rfl

set_option maxHeartbeats 6400000 in
set_option maxRecDepth 100000 in
theorem holds_word (e0 e1 : Int) (a : Option Addr) (cap : Nat) (l : List Ext) (w : World) (hr : Rx w a cap l) (hrow : Row 4096 l) (he0 : 0 ≤ e0) (he1 : 1 ≤ e1) (he2 : e0 + e1 ≤ 4096) :
    Calls Try.prog 34 #[.slice a l.length cap, .agg #[.int .i64 e0, .int .i64 e1]] w fun e w' => e = .returned (.bool (hldB l (e0, e1))) ∧ Below w.heap.size w w' := by
  obtain ⟨o, ho⟩ : ∃ o : Bool, o = hldB l (e0, e1) := ⟨_, rfl⟩
  have HO := hid ho
  rw [← ho]
  clear ho
  have hxB := (Bn (Bn (Bn (bel_alloc w (.cells #[.int .i64 e0, .int .i64 e1] 24)) (bel_alloc _ (.cells #[.bool false] 4))) (bel_alloc _ (.cells #[.slice a l.length cap] 22))) (bel_alloc _ (.cells #[.slice (some ⟨w.heap.size + 1 + 1, 0, none⟩) 1 1] 58)))
  have x0 := (heap_old _ (.cells #[.slice (some ⟨w.heap.size + 1 + 1, 0, none⟩) 1 1] 58) (heap_old _ (.cells #[.slice a l.length cap] 22) (heap_old _ (.cells #[.bool false] 4) (heap_new w (.cells #[.int .i64 e0, .int .i64 e1] 24)))))
  have x1 := (heap_old _ (.cells #[.slice (some ⟨w.heap.size + 1 + 1, 0, none⟩) 1 1] 58) (heap_old _ (.cells #[.slice a l.length cap] 22) (heap_new (w.alloc (.cells #[.int .i64 e0, .int .i64 e1] 24)) (.cells #[.bool false] 4))))
  have x2 := (heap_old _ (.cells #[.slice (some ⟨w.heap.size + 1 + 1, 0, none⟩) 1 1] 58) (heap_new ((w.alloc (.cells #[.int .i64 e0, .int .i64 e1] 24)).alloc (.cells #[.bool false] 4)) (.cells #[.slice a l.length cap] 22)))
  have x3 := (heap_new (((w.alloc (.cells #[.int .i64 e0, .int .i64 e1] 24)).alloc (.cells #[.bool false] 4)).alloc (.cells #[.slice a l.length cap] 22)) (.cells #[.slice (some ⟨w.heap.size + 1 + 1, 0, none⟩) 1 1] 58))
  have xS : ((((w.alloc (.cells #[.int .i64 e0, .int .i64 e1] 24)).alloc (.cells #[.bool false] 4)).alloc (.cells #[.slice a l.length cap] 22)).alloc (.cells #[.slice (some ⟨w.heap.size + 1 + 1, 0, none⟩) 1 1] 58)).heap.size = w.heap.size + 1 + 1 + 1 + 1 := by simp only [World.size_alloc]
  simp only [World.size_alloc] at x1 x2 x3
  have HX0 := hid x0
  have HX1 := hid x1
  have HX2 := hid x2
  have HX3 := hid x3
  have HXB := hid hxB
  have HXS := hid xS
  clear hxB x0 x1 x2 x3 xS
  have HR := hid hr
  have HRW := hid hrow
  clear hr hrow
  refine (callsIn_wide (n := 10)).1 ?_
  refine callsIn_of_wp_marks Try.func34 rfl trivial ?_ rfl
  simp only [Try.ntmps34, List.size_toArray, List.length_cons, List.length_nil, Nat.reduceAdd, Nat.reduceSub, Array.replicate_succ, Array.replicate_zero, List.push_toArray, List.append_toArray, List.nil_append, List.cons_append]
  gi_wp2_with fail
  refine ⟨trivial, ?_⟩
  refine (callsIn_wide.2 (each_word _ 1 1 _)).mono ?_
  rintro _ w4 ⟨rfl, hw4⟩
  simp only [World.size_alloc] at hw4 ⊢
  subst hw4
  gi_wp2_with fail
  generalize ((((w.alloc (.cells #[.int .i64 e0, .int .i64 e1] 24)).alloc (.cells #[.bool false] 4)).alloc (.cells #[.slice a l.length cap] 22)).alloc (.cells #[.slice (some ⟨w.heap.size + 1 + 1, 0, none⟩) 1 1] 58)) = W5 at *
  have hR5 := HR.out.later HXB.out
  have hsz5 := HXS.out
  obtain ⟨s, hs⟩ : ∃ s, s = w.heap.size := ⟨_, rfl⟩
  rw [← hs] at HX0 HX1 HX2 HX3 hsz5 ⊢
  refine range_each (d := 5) (fun x => 0 ≤ x.1 ∧ 1 ≤ x.2 ∧ x.1 + x.2 ≤ 4096) [(a, cap, l)] (fun i => i = s + 1) s (s + 1 + 1) (s + 1 + 1 + 1) 1
    (Ro.one HX2.out ⟨by omega, by omega⟩ hR5 (HR.out.kept (by omega) (by rw [← hs]; rintro i rfl; omega))) (by rw [flat_one]; exact fun x hx => ⟨(HRW.out.nrm.pos x hx).1, (HRW.out.nrm.pos x hx).2, HRW.out.upto x hx⟩) (by simp) (by simp) HX3.out rfl (by omega)
    (fun pre W => Boxed W (s + 1) 4 (.bool false) ∧ Xb W s (e0, e1) ∧ hldB pre (e0, e1) = false)
    (fun c pre W => c = .ret ∧ Boxed W (s + 1) 4 (.bool true) ∧ hldB pre (e0, e1) = true)
    (fun pre W W' row h hg hr => ⟨box_own h.1 hg hr, h.2.1.own hg hr, h.2.2⟩)
    (fun c pre W W' row h hg hr => ⟨h.1, box_own h.2.1 hg hr, h.2.2⟩)
    ⟨HX1.out, HX0.out, rfl⟩ ?assign ?body ?done ?stop
  case assign =>
    intro ll y z W K hK
    simp only [List.setIfInBounds_toArray, List.set_cons_zero, List.set_cons_succ] at hK ⊢
    gi_wp2
    exact hK
  case body =>
    rintro ll pre y z B W ⟨h1, h2, h3⟩ ⟨p1, p2, p3⟩ _ _ hX hsW _
    have HHS := hid hs
    have HSW := hid hsW
    have HS5 := hid hsz5
    have H1 := hid h1
    have H2 := hid h2
    have H3 := hid h3
    have HX := hid hX
    clear hs hsW hsz5 HX0 HX1 HX2 HX3 h1 h2 h3 hX
    dsimp only at p1 p2 p3
    simp only [List.setIfInBounds_toArray, List.set_cons_zero, List.set_cons_succ]
    have HEE : Hid (∀ V, Calls Try.prog 32 #[.agg #[.int .i64 e0, .int .i64 e1]] V fun e w' => e = .returned (.int .i64 (e0 + e1)) ∧ Below V.heap.size V w') := fun V => end_word (e0, e1) V (by dsimp only; omega) (by dsimp only; omega)
    have HEX : Hid (∀ V, Calls Try.prog 32 #[.agg #[.int .i64 y, .int .i64 z]] V fun e w' => e = .returned (.int .i64 (y + z)) ∧ Below V.heap.size V w') := fun V => end_word (y, z) V (by dsimp only; omega) (by dsimp only; omega)
    have HSN := hid (hldB_snoc pre (y, z) (e0, e1))
    rw [H3.out, Bool.false_or] at HSN
    dsimp only at HSN
    gi_wp2_with fail
    by_cases hc1 : y ≤ e0
    · have hd1 : decide (y ≤ e0) = true := decide_eq_true hc1
      rw [hd1, Bool.true_and] at HSN
      rename_i K0 hK0
      refine Go.wpIn_mono (Q := Exit.then K0 (fun _ _ _ => False)) ?_ (fun e a' w' h => by cases e <;> first | exact h | exact h.elim)
      refine round_held (S := (fun W => Xb W B (y, z) ∧ Xb W s (e0, e1))) (by kernel_rfl) (by kernel_rfl) (fun _ _ h => h) ⟨HX.out, H2.out⟩ (fun hS0 => ?_)
      have HF0 : Hid (Fb s W5.heap.size (fun i => i = s + 1) W W.drew) := Fb.below (Below.refl _ W).drew (by have := HS5.out; omega) HSW.out
      have HK0 : Hid (Boxed W.drew (s + 1) 4 (.bool false)) := H1.out
      refine Ord.take (i := 0) (d := 10) (v := ?vht0) rfl rfl (by as_aux_lemma => kernel_rfl) (by as_aux_lemma => kernel_rfl) (by as_aux_lemma => kernel_rfl) (fun _ _ _ h => h) (by rfl) ?hht0 (by assumption) ?_
      case hht0 => intro w hSw; go_simp; try with_reducible rfl
      simp only [List.setIfInBounds_toArray, List.set_cons_zero, List.set_cons_succ]
      refine Ord.take (i := 1) (d := 11) (v := .int .i64 y) rfl rfl (by as_aux_lemma => kernel_rfl) (by as_aux_lemma => kernel_rfl) (by as_aux_lemma => kernel_rfl) (fun _ _ _ h => h) (by rfl) ?hht1 (by assumption) ?_
      case hht1 => intro w hSw; have e := hSw.1.cells.1; go_simp; try with_reducible rfl
      simp only [List.setIfInBounds_toArray, List.set_cons_zero, List.set_cons_succ]
      refine Ord.take (i := 2) (d := 12) (v := ?vht2) rfl rfl (by as_aux_lemma => kernel_rfl) (by as_aux_lemma => kernel_rfl) (by as_aux_lemma => kernel_rfl) (fun _ _ _ h => h) (by rfl) ?hht2 (by assumption) ?_
      case hht2 => intro w hSw; go_simp; try with_reducible rfl
      simp only [List.setIfInBounds_toArray, List.set_cons_zero, List.set_cons_succ]
      refine Ord.take (i := 3) (d := 13) (v := .int .i64 e0) rfl rfl (by as_aux_lemma => kernel_rfl) (by as_aux_lemma => kernel_rfl) (by as_aux_lemma => kernel_rfl) (fun _ _ _ h => h) (by rfl) ?hht3 (by assumption) ?_
      case hht3 => intro w hSw; have e := hSw.2.cells.1; have e' := hSw.2.cells.2; go_simp; try with_reducible rfl
      simp only [List.setIfInBounds_toArray, List.set_cons_zero, List.set_cons_succ]
      refine Ord.take (i := 4) (d := 14) (v := .bool true) rfl rfl (by as_aux_lemma => kernel_rfl) (by as_aux_lemma => kernel_rfl) (by as_aux_lemma => kernel_rfl) (fun _ _ _ h => h) (by rfl) ?hht4 (by assumption) ?_
      case hht4 => intro w hSw; go_simp; try with_reducible rfl
      simp only [List.setIfInBounds_toArray, List.set_cons_zero, List.set_cons_succ]
      refine Ord.take (i := 5) (d := 15) (v := ?vht5) rfl rfl (by as_aux_lemma => kernel_rfl) (by as_aux_lemma => kernel_rfl) (by as_aux_lemma => kernel_rfl) (fun _ _ _ h => h) (by rfl) ?hht5 (by assumption) ?_
      case hht5 => intro w hSw; go_simp; try with_reducible rfl
      simp only [List.setIfInBounds_toArray, List.set_cons_zero, List.set_cons_succ]
      refine Ord.take (i := 6) (d := 16) (v := .agg #[.int .i64 e0, .int .i64 e1]) rfl rfl (by as_aux_lemma => kernel_rfl) (by as_aux_lemma => kernel_rfl) (by as_aux_lemma => kernel_rfl) (fun _ _ _ h => h) (by rfl) ?hht6 (by assumption) ?_
      case hht6 => intro w hSw; have e := hSw.2.cells.1; have e' := hSw.2.cells.2; go_simp; try with_reducible rfl
      simp only [List.setIfInBounds_toArray, List.set_cons_zero, List.set_cons_succ]
      refine Ord.take (i := 8) (d := 18) (v := .agg #[.int .i64 y, .int .i64 z]) rfl rfl (by as_aux_lemma => kernel_rfl) (by as_aux_lemma => kernel_rfl) (by as_aux_lemma => kernel_rfl) (fun _ _ _ h => h) (by rfl) ?hht8 (by assumption) ?_
      case hht8 => intro w hSw; have e := hSw.1.cells.1; have e' := hSw.1.cells.2; go_simp; try with_reducible rfl
      simp only [List.setIfInBounds_toArray, List.set_cons_zero, List.set_cons_succ]
      refine wpAnyH_ready (rs := [7]) (by as_aux_lemma => kernel_rfl) (by simp) (AllReadyH.cons rfl (fun K hK => ?_) AllReadyH.nil)
      go_simp
      refine (HEE.out _).mono ?_
      rintro _ v1 ⟨rfl, hb1⟩
      have hS1 : Xb v1 B (y, z) ∧ Xb v1 s (e0, e1) := ⟨hS0.1.later hb1, hS0.2.later hb1⟩
      have HF1 := hid (HF0.out.trans (Fb.below (T := fun i => i = s + 1) (n₀ := s) (base := W5.heap.size) hb1 (by have := HS5.out; omega) (Nat.le_trans HSW.out HF0.out.bel.size)))
      have HK1 := hid (box_later HK0.out hb1)
      refine hK.out _ _ hS1 (fun _ => ?_)
      clear hK K
      try simp only [List.setIfInBounds_toArray, List.set_cons_zero, List.set_cons_succ]
      refine wpAnyH_ready (rs := [9]) (by as_aux_lemma => kernel_rfl) (by simp) (AllReadyH.cons rfl (fun K hK => ?_) AllReadyH.nil)
      go_simp
      refine (HEX.out _).mono ?_
      rintro _ v2 ⟨rfl, hb2⟩
      have hS2 : Xb v2 B (y, z) ∧ Xb v2 s (e0, e1) := ⟨hS1.1.later hb2, hS1.2.later hb2⟩
      have HF2 := hid (HF1.out.trans (Fb.below (T := fun i => i = s + 1) (n₀ := s) (base := W5.heap.size) hb2 (by have := HS5.out; omega) (Nat.le_trans HSW.out HF1.out.bel.size)))
      have HK2 := hid (box_later HK1.out hb2)
      refine hK.out _ _ hS2 (fun _ => ?_)
      clear hK K
      try simp only [List.setIfInBounds_toArray, List.set_cons_zero, List.set_cons_succ]
      refine Ord.take (i := 10) (d := 20) (v := .bool (decide (e0 + e1 ≤ y + z))) rfl rfl (by as_aux_lemma => kernel_rfl) (by as_aux_lemma => kernel_rfl) (by as_aux_lemma => kernel_rfl) (fun _ _ _ h => h) (by rfl) ?hht10 (by assumption) ?_
      case hht10 => intro w hSw; go_simp; try with_reducible rfl
      simp only [List.setIfInBounds_toArray, List.set_cons_zero, List.set_cons_succ]
      refine Ord.take (i := 11) (d := 21) (v := .bool (decide (e0 + e1 ≤ y + z))) rfl rfl (by as_aux_lemma => kernel_rfl) (by as_aux_lemma => kernel_rfl) (by as_aux_lemma => kernel_rfl) (fun _ _ _ h => h) (by rfl) ?hht11 (by assumption) ?_
      case hht11 => intro w hSw; go_simp; try with_reducible rfl
      simp only [List.setIfInBounds_toArray, List.set_cons_zero, List.set_cons_succ]
      refine wpAnyH_done (by as_aux_lemma => kernel_rfl) ?_ _
      refine hK0 _ _ ?_
      have HKE := hid HK2.out
      have HFE := hid HF2.out
      have HSE := hid hS2.2
      clear hK0 K0
      clear hS0 hS1 hS2 HK0 HF0 HK1 HF1 HK2 HF2
      by_cases hc2 : e0 + e1 ≤ y + z
      · have hd2 : decide (e0 + e1 ≤ y + z) = true := decide_eq_true hc2
        rw [hd2] at HSN
        rw [hd2]
        have fk := HKE.out.frozen
        have ck := HKE.out.cell
        gi_wp2_with fail
        exact ⟨HFE.out.trans (Fb.set _ _ (by omega) (.inl rfl)), rfl, HKE.out.set _, HSN.out⟩
      · have hd2 : decide (e0 + e1 ≤ y + z) = false := decide_eq_false hc2
        rw [hd2] at HSN
        rw [hd2]
        gi_wp2_with fail
        exact ⟨HFE.out, HKE.out, HSE.out, HSN.out⟩
    · have hd1 : decide (y ≤ e0) = false := decide_eq_false hc1
      rw [hd1, Bool.false_and] at HSN
      rename_i K0 hK0
      refine Go.wpIn_mono (Q := Exit.then K0 (fun _ _ _ => False)) ?_ (fun e a' w' h => by cases e <;> first | exact h | exact h.elim)
      refine round_held (S := (fun W => Xb W B (y, z) ∧ Xb W s (e0, e1))) (by kernel_rfl) (by kernel_rfl) (fun _ _ h => h) ⟨HX.out, H2.out⟩ (fun hS0 => ?_)
      have HF0 : Hid (Fb s W5.heap.size (fun i => i = s + 1) W W.drew) := Fb.below (Below.refl _ W).drew (by have := HS5.out; omega) HSW.out
      have HK0 : Hid (Boxed W.drew (s + 1) 4 (.bool false)) := H1.out
      refine Ord.take (i := 0) (d := 10) (v := ?vhf0) rfl rfl (by as_aux_lemma => kernel_rfl) (by as_aux_lemma => kernel_rfl) (by as_aux_lemma => kernel_rfl) (fun _ _ _ h => h) (by rfl) ?hhf0 (by assumption) ?_
      case hhf0 => intro w hSw; go_simp; try with_reducible rfl
      simp only [List.setIfInBounds_toArray, List.set_cons_zero, List.set_cons_succ]
      refine Ord.take (i := 1) (d := 11) (v := .int .i64 y) rfl rfl (by as_aux_lemma => kernel_rfl) (by as_aux_lemma => kernel_rfl) (by as_aux_lemma => kernel_rfl) (fun _ _ _ h => h) (by rfl) ?hhf1 (by assumption) ?_
      case hhf1 => intro w hSw; have e := hSw.1.cells.1; go_simp; try with_reducible rfl
      simp only [List.setIfInBounds_toArray, List.set_cons_zero, List.set_cons_succ]
      refine Ord.take (i := 2) (d := 12) (v := ?vhf2) rfl rfl (by as_aux_lemma => kernel_rfl) (by as_aux_lemma => kernel_rfl) (by as_aux_lemma => kernel_rfl) (fun _ _ _ h => h) (by rfl) ?hhf2 (by assumption) ?_
      case hhf2 => intro w hSw; go_simp; try with_reducible rfl
      simp only [List.setIfInBounds_toArray, List.set_cons_zero, List.set_cons_succ]
      refine Ord.take (i := 3) (d := 13) (v := .int .i64 e0) rfl rfl (by as_aux_lemma => kernel_rfl) (by as_aux_lemma => kernel_rfl) (by as_aux_lemma => kernel_rfl) (fun _ _ _ h => h) (by rfl) ?hhf3 (by assumption) ?_
      case hhf3 => intro w hSw; have e := hSw.2.cells.1; have e' := hSw.2.cells.2; go_simp; try with_reducible rfl
      simp only [List.setIfInBounds_toArray, List.set_cons_zero, List.set_cons_succ]
      refine Ord.take (i := 4) (d := 14) (v := .bool false) rfl rfl (by as_aux_lemma => kernel_rfl) (by as_aux_lemma => kernel_rfl) (by as_aux_lemma => kernel_rfl) (fun _ _ _ h => h) (by rfl) ?hhf4 (by assumption) ?_
      case hhf4 => intro w hSw; go_simp; try with_reducible rfl
      simp only [List.setIfInBounds_toArray, List.set_cons_zero, List.set_cons_succ]
      refine Ord.take (i := 5) (d := 15) (v := ?vhf5) rfl rfl (by as_aux_lemma => kernel_rfl) (by as_aux_lemma => kernel_rfl) (by as_aux_lemma => kernel_rfl) (fun _ _ _ h => h) (by rfl) ?hhf5 (by assumption) ?_
      case hhf5 => intro w hSw; go_simp; try with_reducible rfl
      simp only [List.setIfInBounds_toArray, List.set_cons_zero, List.set_cons_succ]
      refine Ord.skip (i := 6) (d := 16) rfl rfl (by as_aux_lemma => kernel_rfl) (by as_aux_lemma => kernel_rfl) (by as_aux_lemma => kernel_rfl) (fun _ _ _ h => h) (by rfl) (by assumption) ?_
      simp only [List.setIfInBounds_toArray, List.set_cons_zero, List.set_cons_succ]
      refine Ord.skip (i := 8) (d := 18) rfl rfl (by as_aux_lemma => kernel_rfl) (by as_aux_lemma => kernel_rfl) (by as_aux_lemma => kernel_rfl) (fun _ _ _ h => h) (by rfl) (by assumption) ?_
      simp only [List.setIfInBounds_toArray, List.set_cons_zero, List.set_cons_succ]
      refine Ord.skip (i := 7) (d := 17) rfl rfl (by as_aux_lemma => kernel_rfl) (by as_aux_lemma => kernel_rfl) (by as_aux_lemma => kernel_rfl) (fun _ _ _ h => h) (by rfl) (by assumption) ?_
      simp only [List.setIfInBounds_toArray, List.set_cons_zero, List.set_cons_succ]
      refine Ord.skip (i := 9) (d := 19) rfl rfl (by as_aux_lemma => kernel_rfl) (by as_aux_lemma => kernel_rfl) (by as_aux_lemma => kernel_rfl) (fun _ _ _ h => h) (by rfl) (by assumption) ?_
      simp only [List.setIfInBounds_toArray, List.set_cons_zero, List.set_cons_succ]
      refine Ord.skip (i := 10) (d := 20) rfl rfl (by as_aux_lemma => kernel_rfl) (by as_aux_lemma => kernel_rfl) (by as_aux_lemma => kernel_rfl) (fun _ _ _ h => h) (by rfl) (by assumption) ?_
      simp only [List.setIfInBounds_toArray, List.set_cons_zero, List.set_cons_succ]
      refine Ord.take (i := 11) (d := 21) (v := ?vhf11) rfl rfl (by as_aux_lemma => kernel_rfl) (by as_aux_lemma => kernel_rfl) (by as_aux_lemma => kernel_rfl) (fun _ _ _ h => h) (by rfl) ?hhf11 (by assumption) ?_
      case hhf11 => intro w hSw; go_simp; try with_reducible rfl
      simp only [List.setIfInBounds_toArray, List.set_cons_zero, List.set_cons_succ]
      refine wpAnyH_done (by as_aux_lemma => kernel_rfl) ?_ _
      refine hK0 _ _ ?_
      have HKE := hid HK0.out
      have HFE := hid HF0.out
      have HSE := hid hS0.2
      clear hK0 K0
      clear hS0 HK0 HF0
      gi_wp2_with fail
      exact ⟨HFE.out, HKE.out, HSE.out, HSN.out⟩
  case done =>
    rintro D W hD ⟨h1, _, h4⟩ hB hd
    rw [flat_one] at h4
    have f2 := h1.frozen
    have g2 := h1.cell
    have H2 := hid h1
    have HHS := hid hs
    have HFB := hid ((HXB.out.mono (by omega)).trans (hB.trans ((Below.refl s W).setCell (p := ⟨s + 1, 0, none⟩) (by show s ≤ s + 1; omega) (.bool false))))
    have HDD := hid hD
    have ho := HO.out
    rw [h4] at ho
    subst ho
    have HD2 : Hid ((W.setCell ⟨s + 1, 0, none⟩ (.bool false)).heap[D]? = some (.deferred (some []))) := by
      refine (Below.heap_setCell W ⟨s + 1, 0, none⟩ _ D (fun e => ?_)).trans hd
      have e : D = s + 1 := e
      omega
    have HS5 := hid hsz5
    clear hd h1 hs hsz5 hB hD
    gi_wp2_with fail
    refine ⟨by simp, .inl ⟨_, _, rfl, run_takeDeferred HD2.out, ?_⟩⟩
    have hq := load_box (ty := 4) (putObj_cells (o := .deferred none) (H2.out.set (.bool false)) HD2.out) Try.underlying4 rfl
    refine ⟨_, results_box rfl _ _ (s + 1) _ rfl hq, rfl, ?_⟩
    have hs := HHS.out
    have := HDD.out
    have := HS5.out
    rw [← hs]
    exact HFB.out.trans (belowK_b (w := w) (by omega) _ D _ _ (by omega) HD2.out rfl rfl)
  case stop =>
    rintro D c pre W hD hpre ⟨rfl, h2, h4⟩ hB hd
    rw [flat_one] at hpre
    have hyes : hldB l (e0, e1) = true := by
      obtain ⟨m, rfl⟩ := hpre
      exact hldB_pre pre m _ h4
    have ho := HO.out
    rw [hyes] at ho
    subst ho
    have HD := hid hd
    have H2 := hid h2
    have HHS := hid hs
    have HS5 := hid hsz5
    have HDD := hid hD
    have HFB := hid ((HXB.out.mono (by omega)).trans hB)
    clear hd hs hsz5 h2 hB hpre hyes hD
    gi_wp2_with fail
    refine ⟨by simp, .inl ⟨_, _, rfl, run_takeDeferred HD.out, ?_⟩⟩
    have hq := load_box (ty := 4) (putObj_cells (o := .deferred none) H2.out HD.out) Try.underlying4 rfl
    refine ⟨_, results_box rfl _ _ (s + 1) _ rfl hq, rfl, ?_⟩
    have hs := HHS.out
    have := HDD.out
    have := HS5.out
    rw [← hs]
    exact HFB.out.trans (belowK_b (w := w) (by omega) _ D _ _ (by omega) HD.out rfl rfl)
set_option maxHeartbeats 6400000 in
set_option maxRecDepth 100000 in
theorem meets_word (e0 e1 : Int) (a : Option Addr) (cap : Nat) (l : List Ext) (w : World) (hr : Rx w a cap l) (hrow : Row 4096 l) (he0 : 0 ≤ e0) (he1 : 1 ≤ e1) (he2 : e0 + e1 ≤ 4096) :
    Calls Try.prog 40 #[.slice a l.length cap, .agg #[.int .i64 e0, .int .i64 e1]] w fun e w' => e = .returned (.bool (metB l (e0, e1))) ∧ Below w.heap.size w w' := by
  obtain ⟨o, ho⟩ : ∃ o : Bool, o = metB l (e0, e1) := ⟨_, rfl⟩
  have HO := hid ho
  rw [← ho]
  clear ho
  have hxB := (Bn (Bn (Bn (bel_alloc w (.cells #[.int .i64 e0, .int .i64 e1] 24)) (bel_alloc _ (.cells #[.bool false] 4))) (bel_alloc _ (.cells #[.slice a l.length cap] 22))) (bel_alloc _ (.cells #[.slice (some ⟨w.heap.size + 1 + 1, 0, none⟩) 1 1] 58)))
  have x0 := (heap_old _ (.cells #[.slice (some ⟨w.heap.size + 1 + 1, 0, none⟩) 1 1] 58) (heap_old _ (.cells #[.slice a l.length cap] 22) (heap_old _ (.cells #[.bool false] 4) (heap_new w (.cells #[.int .i64 e0, .int .i64 e1] 24)))))
  have x1 := (heap_old _ (.cells #[.slice (some ⟨w.heap.size + 1 + 1, 0, none⟩) 1 1] 58) (heap_old _ (.cells #[.slice a l.length cap] 22) (heap_new (w.alloc (.cells #[.int .i64 e0, .int .i64 e1] 24)) (.cells #[.bool false] 4))))
  have x2 := (heap_old _ (.cells #[.slice (some ⟨w.heap.size + 1 + 1, 0, none⟩) 1 1] 58) (heap_new ((w.alloc (.cells #[.int .i64 e0, .int .i64 e1] 24)).alloc (.cells #[.bool false] 4)) (.cells #[.slice a l.length cap] 22)))
  have x3 := (heap_new (((w.alloc (.cells #[.int .i64 e0, .int .i64 e1] 24)).alloc (.cells #[.bool false] 4)).alloc (.cells #[.slice a l.length cap] 22)) (.cells #[.slice (some ⟨w.heap.size + 1 + 1, 0, none⟩) 1 1] 58))
  have xS : ((((w.alloc (.cells #[.int .i64 e0, .int .i64 e1] 24)).alloc (.cells #[.bool false] 4)).alloc (.cells #[.slice a l.length cap] 22)).alloc (.cells #[.slice (some ⟨w.heap.size + 1 + 1, 0, none⟩) 1 1] 58)).heap.size = w.heap.size + 1 + 1 + 1 + 1 := by simp only [World.size_alloc]
  simp only [World.size_alloc] at x1 x2 x3
  have HX0 := hid x0
  have HX1 := hid x1
  have HX2 := hid x2
  have HX3 := hid x3
  have HXB := hid hxB
  have HXS := hid xS
  clear hxB x0 x1 x2 x3 xS
  have HR := hid hr
  have HRW := hid hrow
  clear hr hrow
  refine (callsIn_wide (n := 10)).1 ?_
  refine callsIn_of_wp_marks Try.func40 rfl trivial ?_ rfl
  simp only [Try.ntmps40, List.size_toArray, List.length_cons, List.length_nil, Nat.reduceAdd, Nat.reduceSub, Array.replicate_succ, Array.replicate_zero, List.push_toArray, List.append_toArray, List.nil_append, List.cons_append]
  gi_wp2_with fail
  refine ⟨trivial, ?_⟩
  refine (callsIn_wide.2 (each_word _ 1 1 _)).mono ?_
  rintro _ w4 ⟨rfl, hw4⟩
  simp only [World.size_alloc] at hw4 ⊢
  subst hw4
  gi_wp2_with fail
  generalize ((((w.alloc (.cells #[.int .i64 e0, .int .i64 e1] 24)).alloc (.cells #[.bool false] 4)).alloc (.cells #[.slice a l.length cap] 22)).alloc (.cells #[.slice (some ⟨w.heap.size + 1 + 1, 0, none⟩) 1 1] 58)) = W5 at *
  have hR5 := HR.out.later HXB.out
  have hsz5 := HXS.out
  obtain ⟨s, hs⟩ : ∃ s, s = w.heap.size := ⟨_, rfl⟩
  rw [← hs] at HX0 HX1 HX2 HX3 hsz5 ⊢
  refine range_each (d := 5) (fun x => 0 ≤ x.1 ∧ 1 ≤ x.2 ∧ x.1 + x.2 ≤ 4096) [(a, cap, l)] (fun i => i = s + 1) s (s + 1 + 1) (s + 1 + 1 + 1) 1
    (Ro.one HX2.out ⟨by omega, by omega⟩ hR5 (HR.out.kept (by omega) (by rw [← hs]; rintro i rfl; omega))) (by rw [flat_one]; exact fun x hx => ⟨(HRW.out.nrm.pos x hx).1, (HRW.out.nrm.pos x hx).2, HRW.out.upto x hx⟩) (by simp) (by simp) HX3.out rfl (by omega)
    (fun pre W => Boxed W (s + 1) 4 (.bool false) ∧ Xb W s (e0, e1) ∧ metB pre (e0, e1) = false)
    (fun c pre W => c = .ret ∧ Boxed W (s + 1) 4 (.bool true) ∧ metB pre (e0, e1) = true)
    (fun pre W W' row h hg hr => ⟨box_own h.1 hg hr, h.2.1.own hg hr, h.2.2⟩)
    (fun c pre W W' row h hg hr => ⟨h.1, box_own h.2.1 hg hr, h.2.2⟩)
    ⟨HX1.out, HX0.out, rfl⟩ ?assign ?body ?done ?stop
  case assign =>
    intro ll y z W K hK
    simp only [List.setIfInBounds_toArray, List.set_cons_zero, List.set_cons_succ] at hK ⊢
    gi_wp2
    exact hK
  case body =>
    rintro ll pre y z B W ⟨h1, h2, h3⟩ ⟨p1, p2, p3⟩ _ _ hX hsW _
    have HHS := hid hs
    have HSW := hid hsW
    have HS5 := hid hsz5
    have H1 := hid h1
    have H2 := hid h2
    have H3 := hid h3
    have HX := hid hX
    clear hs hsW hsz5 HX0 HX1 HX2 HX3 h1 h2 h3 hX
    dsimp only at p1 p2 p3
    simp only [List.setIfInBounds_toArray, List.set_cons_zero, List.set_cons_succ]
    have HEE : Hid (∀ V, Calls Try.prog 32 #[.agg #[.int .i64 e0, .int .i64 e1]] V fun e w' => e = .returned (.int .i64 (e0 + e1)) ∧ Below V.heap.size V w') := fun V => end_word (e0, e1) V (by dsimp only; omega) (by dsimp only; omega)
    have HEX : Hid (∀ V, Calls Try.prog 32 #[.agg #[.int .i64 y, .int .i64 z]] V fun e w' => e = .returned (.int .i64 (y + z)) ∧ Below V.heap.size V w') := fun V => end_word (y, z) V (by dsimp only; omega) (by dsimp only; omega)
    have HSN := hid (metB_snoc pre (y, z) (e0, e1))
    rw [H3.out, Bool.false_or] at HSN
    dsimp only at HSN
    gi_wp2_with fail
    by_cases hc1 : y < e0 + e1
    · have hd1 : decide (y < e0 + e1) = true := decide_eq_true hc1
      rw [hd1, Bool.true_and] at HSN
      rename_i K0 hK0
      refine Go.wpIn_mono (Q := Exit.then K0 (fun _ _ _ => False)) ?_ (fun e a' w' h => by cases e <;> first | exact h | exact h.elim)
      refine round_held (S := (fun W => Xb W B (y, z) ∧ Xb W s (e0, e1))) (by kernel_rfl) (by kernel_rfl) (fun _ _ h => h) ⟨HX.out, H2.out⟩ (fun hS0 => ?_)
      have HF0 : Hid (Fb s W5.heap.size (fun i => i = s + 1) W W.drew) := Fb.below (Below.refl _ W).drew (by have := HS5.out; omega) HSW.out
      have HK0 : Hid (Boxed W.drew (s + 1) 4 (.bool false)) := H1.out
      refine Ord.take (i := 0) (d := 10) (v := ?vmt0) rfl rfl (by as_aux_lemma => kernel_rfl) (by as_aux_lemma => kernel_rfl) (by as_aux_lemma => kernel_rfl) (fun _ _ _ h => h) (by rfl) ?hmt0 (by assumption) ?_
      case hmt0 => intro w hSw; go_simp; try with_reducible rfl
      simp only [List.setIfInBounds_toArray, List.set_cons_zero, List.set_cons_succ]
      refine Ord.take (i := 1) (d := 11) (v := .int .i64 y) rfl rfl (by as_aux_lemma => kernel_rfl) (by as_aux_lemma => kernel_rfl) (by as_aux_lemma => kernel_rfl) (fun _ _ _ h => h) (by rfl) ?hmt1 (by assumption) ?_
      case hmt1 => intro w hSw; have e := hSw.1.cells.1; go_simp; try with_reducible rfl
      simp only [List.setIfInBounds_toArray, List.set_cons_zero, List.set_cons_succ]
      refine Ord.take (i := 2) (d := 12) (v := .agg #[.int .i64 e0, .int .i64 e1]) rfl rfl (by as_aux_lemma => kernel_rfl) (by as_aux_lemma => kernel_rfl) (by as_aux_lemma => kernel_rfl) (fun _ _ _ h => h) (by rfl) ?hmt2 (by assumption) ?_
      case hmt2 => intro w hSw; have e := hSw.2.cells.1; have e' := hSw.2.cells.2; go_simp; try with_reducible rfl
      simp only [List.setIfInBounds_toArray, List.set_cons_zero, List.set_cons_succ]
      refine wpAnyH_ready (rs := [3]) (by as_aux_lemma => kernel_rfl) (by simp) (AllReadyH.cons rfl (fun K hK => ?_) AllReadyH.nil)
      go_simp
      refine (HEE.out _).mono ?_
      rintro _ v1 ⟨rfl, hb1⟩
      have hS1 : Xb v1 B (y, z) ∧ Xb v1 s (e0, e1) := ⟨hS0.1.later hb1, hS0.2.later hb1⟩
      have HF1 := hid (HF0.out.trans (Fb.below (T := fun i => i = s + 1) (n₀ := s) (base := W5.heap.size) hb1 (by have := HS5.out; omega) (Nat.le_trans HSW.out HF0.out.bel.size)))
      have HK1 := hid (box_later HK0.out hb1)
      refine hK.out _ _ hS1 (fun _ => ?_)
      clear hK K
      try simp only [List.setIfInBounds_toArray, List.set_cons_zero, List.set_cons_succ]
      refine Ord.take (i := 4) (d := 14) (v := .bool true) rfl rfl (by as_aux_lemma => kernel_rfl) (by as_aux_lemma => kernel_rfl) (by as_aux_lemma => kernel_rfl) (fun _ _ _ h => h) (by rfl) ?hmt4 (by assumption) ?_
      case hmt4 => intro w hSw; go_simp; try with_reducible rfl
      simp only [List.setIfInBounds_toArray, List.set_cons_zero, List.set_cons_succ]
      refine Ord.take (i := 5) (d := 15) (v := ?vmt5) rfl rfl (by as_aux_lemma => kernel_rfl) (by as_aux_lemma => kernel_rfl) (by as_aux_lemma => kernel_rfl) (fun _ _ _ h => h) (by rfl) ?hmt5 (by assumption) ?_
      case hmt5 => intro w hSw; go_simp; try with_reducible rfl
      simp only [List.setIfInBounds_toArray, List.set_cons_zero, List.set_cons_succ]
      refine Ord.take (i := 6) (d := 16) (v := ?vmt6) rfl rfl (by as_aux_lemma => kernel_rfl) (by as_aux_lemma => kernel_rfl) (by as_aux_lemma => kernel_rfl) (fun _ _ _ h => h) (by rfl) ?hmt6 (by assumption) ?_
      case hmt6 => intro w hSw; go_simp; try with_reducible rfl
      simp only [List.setIfInBounds_toArray, List.set_cons_zero, List.set_cons_succ]
      refine Ord.take (i := 7) (d := 17) (v := .int .i64 e0) rfl rfl (by as_aux_lemma => kernel_rfl) (by as_aux_lemma => kernel_rfl) (by as_aux_lemma => kernel_rfl) (fun _ _ _ h => h) (by rfl) ?hmt7 (by assumption) ?_
      case hmt7 => intro w hSw; have e := hSw.2.cells.1; have e' := hSw.2.cells.2; go_simp; try with_reducible rfl
      simp only [List.setIfInBounds_toArray, List.set_cons_zero, List.set_cons_succ]
      refine Ord.take (i := 8) (d := 18) (v := .agg #[.int .i64 y, .int .i64 z]) rfl rfl (by as_aux_lemma => kernel_rfl) (by as_aux_lemma => kernel_rfl) (by as_aux_lemma => kernel_rfl) (fun _ _ _ h => h) (by rfl) ?hmt8 (by assumption) ?_
      case hmt8 => intro w hSw; have e := hSw.1.cells.1; have e' := hSw.1.cells.2; go_simp; try with_reducible rfl
      simp only [List.setIfInBounds_toArray, List.set_cons_zero, List.set_cons_succ]
      refine wpAnyH_ready (rs := [9]) (by as_aux_lemma => kernel_rfl) (by simp) (AllReadyH.cons rfl (fun K hK => ?_) AllReadyH.nil)
      go_simp
      refine (HEX.out _).mono ?_
      rintro _ v2 ⟨rfl, hb2⟩
      have hS2 : Xb v2 B (y, z) ∧ Xb v2 s (e0, e1) := ⟨hS1.1.later hb2, hS1.2.later hb2⟩
      have HF2 := hid (HF1.out.trans (Fb.below (T := fun i => i = s + 1) (n₀ := s) (base := W5.heap.size) hb2 (by have := HS5.out; omega) (Nat.le_trans HSW.out HF1.out.bel.size)))
      have HK2 := hid (box_later HK1.out hb2)
      refine hK.out _ _ hS2 (fun _ => ?_)
      clear hK K
      try simp only [List.setIfInBounds_toArray, List.set_cons_zero, List.set_cons_succ]
      refine Ord.take (i := 10) (d := 20) (v := .bool (decide (e0 < y + z))) rfl rfl (by as_aux_lemma => kernel_rfl) (by as_aux_lemma => kernel_rfl) (by as_aux_lemma => kernel_rfl) (fun _ _ _ h => h) (by rfl) ?hmt10 (by assumption) ?_
      case hmt10 => intro w hSw; go_simp; try with_reducible rfl
      simp only [List.setIfInBounds_toArray, List.set_cons_zero, List.set_cons_succ]
      refine Ord.take (i := 11) (d := 21) (v := .bool (decide (e0 < y + z))) rfl rfl (by as_aux_lemma => kernel_rfl) (by as_aux_lemma => kernel_rfl) (by as_aux_lemma => kernel_rfl) (fun _ _ _ h => h) (by rfl) ?hmt11 (by assumption) ?_
      case hmt11 => intro w hSw; go_simp; try with_reducible rfl
      simp only [List.setIfInBounds_toArray, List.set_cons_zero, List.set_cons_succ]
      refine wpAnyH_done (by as_aux_lemma => kernel_rfl) ?_ _
      refine hK0 _ _ ?_
      have HKE := hid HK2.out
      have HFE := hid HF2.out
      have HSE := hid hS2.2
      clear hK0 K0
      clear hS0 hS1 hS2 HK0 HF0 HK1 HF1 HK2 HF2
      by_cases hc2 : e0 < y + z
      · have hd2 : decide (e0 < y + z) = true := decide_eq_true hc2
        rw [hd2] at HSN
        rw [hd2]
        have fk := HKE.out.frozen
        have ck := HKE.out.cell
        gi_wp2_with fail
        exact ⟨HFE.out.trans (Fb.set _ _ (by omega) (.inl rfl)), rfl, HKE.out.set _, HSN.out⟩
      · have hd2 : decide (e0 < y + z) = false := decide_eq_false hc2
        rw [hd2] at HSN
        rw [hd2]
        gi_wp2_with fail
        exact ⟨HFE.out, HKE.out, HSE.out, HSN.out⟩
    · have hd1 : decide (y < e0 + e1) = false := decide_eq_false hc1
      rw [hd1, Bool.false_and] at HSN
      rename_i K0 hK0
      refine Go.wpIn_mono (Q := Exit.then K0 (fun _ _ _ => False)) ?_ (fun e a' w' h => by cases e <;> first | exact h | exact h.elim)
      refine round_held (S := (fun W => Xb W B (y, z) ∧ Xb W s (e0, e1))) (by kernel_rfl) (by kernel_rfl) (fun _ _ h => h) ⟨HX.out, H2.out⟩ (fun hS0 => ?_)
      have HF0 : Hid (Fb s W5.heap.size (fun i => i = s + 1) W W.drew) := Fb.below (Below.refl _ W).drew (by have := HS5.out; omega) HSW.out
      have HK0 : Hid (Boxed W.drew (s + 1) 4 (.bool false)) := H1.out
      refine Ord.take (i := 0) (d := 10) (v := ?vmf0) rfl rfl (by as_aux_lemma => kernel_rfl) (by as_aux_lemma => kernel_rfl) (by as_aux_lemma => kernel_rfl) (fun _ _ _ h => h) (by rfl) ?hmf0 (by assumption) ?_
      case hmf0 => intro w hSw; go_simp; try with_reducible rfl
      simp only [List.setIfInBounds_toArray, List.set_cons_zero, List.set_cons_succ]
      refine Ord.take (i := 1) (d := 11) (v := .int .i64 y) rfl rfl (by as_aux_lemma => kernel_rfl) (by as_aux_lemma => kernel_rfl) (by as_aux_lemma => kernel_rfl) (fun _ _ _ h => h) (by rfl) ?hmf1 (by assumption) ?_
      case hmf1 => intro w hSw; have e := hSw.1.cells.1; go_simp; try with_reducible rfl
      simp only [List.setIfInBounds_toArray, List.set_cons_zero, List.set_cons_succ]
      refine Ord.take (i := 2) (d := 12) (v := .agg #[.int .i64 e0, .int .i64 e1]) rfl rfl (by as_aux_lemma => kernel_rfl) (by as_aux_lemma => kernel_rfl) (by as_aux_lemma => kernel_rfl) (fun _ _ _ h => h) (by rfl) ?hmf2 (by assumption) ?_
      case hmf2 => intro w hSw; have e := hSw.2.cells.1; have e' := hSw.2.cells.2; go_simp; try with_reducible rfl
      simp only [List.setIfInBounds_toArray, List.set_cons_zero, List.set_cons_succ]
      refine wpAnyH_ready (rs := [3]) (by as_aux_lemma => kernel_rfl) (by simp) (AllReadyH.cons rfl (fun K hK => ?_) AllReadyH.nil)
      go_simp
      refine (HEE.out _).mono ?_
      rintro _ v1 ⟨rfl, hb1⟩
      have hS1 : Xb v1 B (y, z) ∧ Xb v1 s (e0, e1) := ⟨hS0.1.later hb1, hS0.2.later hb1⟩
      have HF1 := hid (HF0.out.trans (Fb.below (T := fun i => i = s + 1) (n₀ := s) (base := W5.heap.size) hb1 (by have := HS5.out; omega) (Nat.le_trans HSW.out HF0.out.bel.size)))
      have HK1 := hid (box_later HK0.out hb1)
      refine hK.out _ _ hS1 (fun _ => ?_)
      clear hK K
      try simp only [List.setIfInBounds_toArray, List.set_cons_zero, List.set_cons_succ]
      refine Ord.take (i := 4) (d := 14) (v := .bool false) rfl rfl (by as_aux_lemma => kernel_rfl) (by as_aux_lemma => kernel_rfl) (by as_aux_lemma => kernel_rfl) (fun _ _ _ h => h) (by rfl) ?hmf4 (by assumption) ?_
      case hmf4 => intro w hSw; go_simp; try with_reducible rfl
      simp only [List.setIfInBounds_toArray, List.set_cons_zero, List.set_cons_succ]
      refine Ord.take (i := 5) (d := 15) (v := ?vmf5) rfl rfl (by as_aux_lemma => kernel_rfl) (by as_aux_lemma => kernel_rfl) (by as_aux_lemma => kernel_rfl) (fun _ _ _ h => h) (by rfl) ?hmf5 (by assumption) ?_
      case hmf5 => intro w hSw; go_simp; try with_reducible rfl
      simp only [List.setIfInBounds_toArray, List.set_cons_zero, List.set_cons_succ]
      refine Ord.skip (i := 6) (d := 16) rfl rfl (by as_aux_lemma => kernel_rfl) (by as_aux_lemma => kernel_rfl) (by as_aux_lemma => kernel_rfl) (fun _ _ _ h => h) (by rfl) (by assumption) ?_
      simp only [List.setIfInBounds_toArray, List.set_cons_zero, List.set_cons_succ]
      refine Ord.skip (i := 7) (d := 17) rfl rfl (by as_aux_lemma => kernel_rfl) (by as_aux_lemma => kernel_rfl) (by as_aux_lemma => kernel_rfl) (fun _ _ _ h => h) (by rfl) (by assumption) ?_
      simp only [List.setIfInBounds_toArray, List.set_cons_zero, List.set_cons_succ]
      refine Ord.skip (i := 8) (d := 18) rfl rfl (by as_aux_lemma => kernel_rfl) (by as_aux_lemma => kernel_rfl) (by as_aux_lemma => kernel_rfl) (fun _ _ _ h => h) (by rfl) (by assumption) ?_
      simp only [List.setIfInBounds_toArray, List.set_cons_zero, List.set_cons_succ]
      refine Ord.skip (i := 9) (d := 19) rfl rfl (by as_aux_lemma => kernel_rfl) (by as_aux_lemma => kernel_rfl) (by as_aux_lemma => kernel_rfl) (fun _ _ _ h => h) (by rfl) (by assumption) ?_
      simp only [List.setIfInBounds_toArray, List.set_cons_zero, List.set_cons_succ]
      refine Ord.skip (i := 10) (d := 20) rfl rfl (by as_aux_lemma => kernel_rfl) (by as_aux_lemma => kernel_rfl) (by as_aux_lemma => kernel_rfl) (fun _ _ _ h => h) (by rfl) (by assumption) ?_
      simp only [List.setIfInBounds_toArray, List.set_cons_zero, List.set_cons_succ]
      refine Ord.take (i := 11) (d := 21) (v := ?vmf11) rfl rfl (by as_aux_lemma => kernel_rfl) (by as_aux_lemma => kernel_rfl) (by as_aux_lemma => kernel_rfl) (fun _ _ _ h => h) (by rfl) ?hmf11 (by assumption) ?_
      case hmf11 => intro w hSw; go_simp; try with_reducible rfl
      simp only [List.setIfInBounds_toArray, List.set_cons_zero, List.set_cons_succ]
      refine wpAnyH_done (by as_aux_lemma => kernel_rfl) ?_ _
      refine hK0 _ _ ?_
      have HKE := hid HK1.out
      have HFE := hid HF1.out
      have HSE := hid hS1.2
      clear hK0 K0
      clear hS0 hS1 HK0 HF0 HK1 HF1
      gi_wp2_with fail
      exact ⟨HFE.out, HKE.out, HSE.out, HSN.out⟩
  case done =>
    rintro D W hD ⟨h1, _, h4⟩ hB hd
    rw [flat_one] at h4
    have f2 := h1.frozen
    have g2 := h1.cell
    have H2 := hid h1
    have HHS := hid hs
    have HFB := hid ((HXB.out.mono (by omega)).trans (hB.trans ((Below.refl s W).setCell (p := ⟨s + 1, 0, none⟩) (by show s ≤ s + 1; omega) (.bool false))))
    have HDD := hid hD
    have ho := HO.out
    rw [h4] at ho
    subst ho
    have HD2 : Hid ((W.setCell ⟨s + 1, 0, none⟩ (.bool false)).heap[D]? = some (.deferred (some []))) := by
      refine (Below.heap_setCell W ⟨s + 1, 0, none⟩ _ D (fun e => ?_)).trans hd
      have e : D = s + 1 := e
      omega
    have HS5 := hid hsz5
    clear hd h1 hs hsz5 hB hD
    gi_wp2_with fail
    refine ⟨by simp, .inl ⟨_, _, rfl, run_takeDeferred HD2.out, ?_⟩⟩
    have hq := load_box (ty := 4) (putObj_cells (o := .deferred none) (H2.out.set (.bool false)) HD2.out) Try.underlying4 rfl
    refine ⟨_, results_box rfl _ _ (s + 1) _ rfl hq, rfl, ?_⟩
    have hs := HHS.out
    have := HDD.out
    have := HS5.out
    rw [← hs]
    exact HFB.out.trans (belowK_b (w := w) (by omega) _ D _ _ (by omega) HD2.out rfl rfl)
  case stop =>
    rintro D c pre W hD hpre ⟨rfl, h2, h4⟩ hB hd
    rw [flat_one] at hpre
    have hyes : metB l (e0, e1) = true := by
      obtain ⟨m, rfl⟩ := hpre
      exact metB_pre pre m _ h4
    have ho := HO.out
    rw [hyes] at ho
    subst ho
    have HD := hid hd
    have H2 := hid h2
    have HHS := hid hs
    have HS5 := hid hsz5
    have HDD := hid hD
    have HFB := hid ((HXB.out.mono (by omega)).trans hB)
    clear hd hs hsz5 h2 hB hpre hyes hD
    gi_wp2_with fail
    refine ⟨by simp, .inl ⟨_, _, rfl, run_takeDeferred HD.out, ?_⟩⟩
    have hq := load_box (ty := 4) (putObj_cells (o := .deferred none) H2.out HD.out) Try.underlying4 rfl
    refine ⟨_, results_box rfl _ _ (s + 1) _ rfl hq, rfl, ?_⟩
    have hs := HHS.out
    have := HDD.out
    have := HS5.out
    rw [← hs]
    exact HFB.out.trans (belowK_b (w := w) (by omega) _ D _ _ (by omega) HD.out rfl rfl)
end Go.Proofs.Ytkfoeijhhfaceaa
