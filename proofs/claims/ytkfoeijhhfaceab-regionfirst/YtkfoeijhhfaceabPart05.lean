/-
  Which extents a row holds, which it meets: the contracts of region's holds and meets.
-/
import Derived.Test.YtkfoeijhhfaceabPart04
import Derived.Test.YtkfoeijhhfaceabPart02
namespace Go.Proofs.Ytkfoeijhhfaceab
open Go.RowKit Go.Shelf
attribute [local go_sem] Oper.semAt_some

def hldB (l : List Ext) (e : Ext) : Bool := l.any fun x => decide (x.1 ≤ e.1) && decide (e.1 + e.2 ≤ x.1 + x.2)
def metB (l : List Ext) (e : Ext) : Bool := l.any fun x => decide (x.1 < e.1 + e.2) && decide (e.1 < x.1 + x.2)
theorem hldB_snoc (l : List Ext) (x e : Ext) : hldB (l ++ [x]) e = (hldB l e || (decide (x.1 ≤ e.1) && decide (e.1 + e.2 ≤ x.1 + x.2))) := by simp [hldB]
theorem metB_snoc (l : List Ext) (x e : Ext) : metB (l ++ [x]) e = (metB l e || (decide (x.1 < e.1 + e.2) && decide (e.1 < x.1 + x.2))) := by simp [metB]
theorem hldB_pre (l m : List Ext) (e : Ext) (h : hldB l e = true) : hldB (l ++ m) e = true := by
  unfold hldB at *
  rw [List.any_append, h]; rfl
theorem metB_pre (l m : List Ext) (e : Ext) (h : metB l e = true) : metB (l ++ m) e = true := by
  unfold metB at *
  rw [List.any_append, h]; rfl

set_option maxHeartbeats 6400000 in
set_option maxRecDepth 100000 in
theorem meets_word (e0 e1 : Int) (a : Option Addr) (cap : Nat) (l : List Ext) (w : World) (hr : Rx w a cap l) (hrow : Row 4096 l) (he0 : 0 ≤ e0) (he1 : 1 ≤ e1) (he2 : e0 + e1 ≤ 4096) :
    Calls Try.prog 15 #[.slice a l.length cap, .agg #[.int .i64 e0, .int .i64 e1]] w fun e w' => e = .returned (.bool (metB l (e0, e1))) ∧ Below w.heap.size w w' := by
  obtain ⟨o, ho⟩ : ∃ o : Bool, o = metB l (e0, e1) := ⟨_, rfl⟩
  have HO := hid ho
  rw [← ho]
  clear ho
  have hxB := (Bn (Bn (Bn (bel_alloc w (.cells #[.int .i64 e0, .int .i64 e1] 29)) (bel_alloc _ (.cells #[.bool false] 4))) (bel_alloc _ (.cells #[.slice a l.length cap] 22))) (bel_alloc _ (.cells #[.slice (some ⟨w.heap.size + 1 + 1, 0, none⟩) 1 1] 42)))
  have x0 := (heap_old _ (.cells #[.slice (some ⟨w.heap.size + 1 + 1, 0, none⟩) 1 1] 42) (heap_old _ (.cells #[.slice a l.length cap] 22) (heap_old _ (.cells #[.bool false] 4) (heap_new w (.cells #[.int .i64 e0, .int .i64 e1] 29)))))
  have x1 := (heap_old _ (.cells #[.slice (some ⟨w.heap.size + 1 + 1, 0, none⟩) 1 1] 42) (heap_old _ (.cells #[.slice a l.length cap] 22) (heap_new (w.alloc (.cells #[.int .i64 e0, .int .i64 e1] 29)) (.cells #[.bool false] 4))))
  have x2 := (heap_old _ (.cells #[.slice (some ⟨w.heap.size + 1 + 1, 0, none⟩) 1 1] 42) (heap_new ((w.alloc (.cells #[.int .i64 e0, .int .i64 e1] 29)).alloc (.cells #[.bool false] 4)) (.cells #[.slice a l.length cap] 22)))
  have x3 := (heap_new (((w.alloc (.cells #[.int .i64 e0, .int .i64 e1] 29)).alloc (.cells #[.bool false] 4)).alloc (.cells #[.slice a l.length cap] 22)) (.cells #[.slice (some ⟨w.heap.size + 1 + 1, 0, none⟩) 1 1] 42))
  have xS : ((((w.alloc (.cells #[.int .i64 e0, .int .i64 e1] 29)).alloc (.cells #[.bool false] 4)).alloc (.cells #[.slice a l.length cap] 22)).alloc (.cells #[.slice (some ⟨w.heap.size + 1 + 1, 0, none⟩) 1 1] 42)).heap.size = w.heap.size + 1 + 1 + 1 + 1 := by simp only [World.size_alloc]
  simp only [World.size_alloc] at x1 x2 x3
  have HX0 := hid x0
  have HX1 := hid x1
  have HX2 := hid x2
  have HX3 := hid x3
  have HXB := hid hxB
  have HXS := hid xS
  clear hxB x0 x1 x2 x3 xS
  have HR := hid hr
  have HRW := hid hrow
  clear hr hrow
  refine (callsIn_wide (n := 10)).1 ?_
  refine callsIn_of_wp_marks Try.func15 rfl trivial ?_ rfl
  simp only [Try.ntmps15, List.size_toArray, List.length_cons, List.length_nil, Nat.reduceAdd, Nat.reduceSub, Array.replicate_succ, Array.replicate_zero, List.push_toArray, List.append_toArray, List.nil_append, List.cons_append]
  gi_wp2_with fail
  refine ⟨trivial, ?_⟩
  refine (callsIn_wide.2 (each_word _ 1 1 _)).mono ?_
  rintro _ w4 ⟨rfl, hw4⟩
  simp only [World.size_alloc] at hw4 ⊢
  subst hw4
  gi_wp2_with fail
  generalize ((((w.alloc (.cells #[.int .i64 e0, .int .i64 e1] 29)).alloc (.cells #[.bool false] 4)).alloc (.cells #[.slice a l.length cap] 22)).alloc (.cells #[.slice (some ⟨w.heap.size + 1 + 1, 0, none⟩) 1 1] 42)) = W5 at *
  have hR5 := HR.out.later HXB.out
  have hsz5 := HXS.out
  obtain ⟨s, hs⟩ : ∃ s, s = w.heap.size := ⟨_, rfl⟩
  rw [← hs] at HX0 HX1 HX2 HX3 hsz5 ⊢
  refine range_each (d := 5) (fun x => 0 ≤ x.1 ∧ 1 ≤ x.2 ∧ x.1 + x.2 ≤ 4096) [(a, cap, l)] (fun i => i = s + 1) s (s + 1 + 1) (s + 1 + 1 + 1) 1
    (Ro.one HX2.out ⟨by omega, by omega⟩ hR5 (HR.out.kept (by omega) (by rw [← hs]; rintro i rfl; omega))) (by rw [flat_one]; exact fun x hx => ⟨(HRW.out.nrm.pos x hx).1, (HRW.out.nrm.pos x hx).2, HRW.out.upto x hx⟩) (by simp) (by simp) HX3.out rfl (by omega)
    (fun pre W => Boxed W (s + 1) 4 (.bool false) ∧ Xb W s (e0, e1) ∧ metB pre (e0, e1) = false)
    (fun c pre W => c = .ret ∧ Boxed W (s + 1) 4 (.bool true) ∧ metB pre (e0, e1) = true)
    (fun pre W W' row h hg hr => ⟨box_own h.1 hg hr, h.2.1.own hg hr, h.2.2⟩)
    (fun c pre W W' row h hg hr => ⟨h.1, box_own h.2.1 hg hr, h.2.2⟩)
    ⟨HX1.out, HX0.out, rfl⟩ ?assign ?body ?done ?stop
  case assign =>
    intro ll y z W K hK
    simp only [List.setIfInBounds_toArray, List.set_cons_zero, List.set_cons_succ] at hK ⊢
    gi_wp2
    exact hK
  case body =>
    rintro ll pre y z B W ⟨h1, h2, h3⟩ ⟨p1, p2, p3⟩ _ _ hX hsW _
    have HHS := hid hs
    have HSW := hid hsW
    have HS5 := hid hsz5
    have H1 := hid h1
    have H2 := hid h2
    have H3 := hid h3
    have HX := hid hX
    clear hs hsW hsz5 HX0 HX1 HX2 HX3 h1 h2 h3 hX
    dsimp only at p1 p2 p3
    simp only [List.setIfInBounds_toArray, List.set_cons_zero, List.set_cons_succ]
    have HEE : Hid (∀ V, Calls Try.prog 18 #[.agg #[.int .i64 e0, .int .i64 e1]] V fun e w' => e = .returned (.int .i64 (e0 + e1)) ∧ Below V.heap.size V w') := fun V => end_word (e0, e1) V (by dsimp only; omega) (by dsimp only; omega)
    have HEX : Hid (∀ V, Calls Try.prog 18 #[.agg #[.int .i64 y, .int .i64 z]] V fun e w' => e = .returned (.int .i64 (y + z)) ∧ Below V.heap.size V w') := fun V => end_word (y, z) V (by dsimp only; omega) (by dsimp only; omega)
    have HSN := hid (metB_snoc pre (y, z) (e0, e1))
    rw [H3.out, Bool.false_or] at HSN
    dsimp only at HSN
    gi_wp2_with fail
    by_cases hc1 : y < e0 + e1
    · have hd1 : decide (y < e0 + e1) = true := decide_eq_true hc1
      rw [hd1, Bool.true_and] at HSN
      rename_i K0 hK0
      refine Go.wpIn_mono (Q := Exit.then K0 (fun _ _ _ => False)) ?_ (fun e a' w' h => by cases e <;> first | exact h | exact h.elim)
      refine round_held (S := (fun W => Xb W B (y, z) ∧ Xb W s (e0, e1))) (by kernel_rfl) (by kernel_rfl) (fun _ _ h => h) ⟨HX.out, H2.out⟩ (fun hS0 => ?_)
      have HF0 : Hid (Fb s W5.heap.size (fun i => i = s + 1) W W.drew) := Fb.below (Below.refl _ W).drew (by have := HS5.out; omega) HSW.out
      have HK0 : Hid (Boxed W.drew (s + 1) 4 (.bool false)) := H1.out
      refine Ord.take (i := 0) (d := 10) (v := ?vmt0) rfl rfl (by as_aux_lemma => kernel_rfl) (by as_aux_lemma => kernel_rfl) (by as_aux_lemma => kernel_rfl) (fun _ _ _ h => h) (by rfl) ?hmt0 (by assumption) ?_
      case hmt0 => intro w hSw; go_simp; try with_reducible rfl
      simp only [List.setIfInBounds_toArray, List.set_cons_zero, List.set_cons_succ]
      refine Ord.take (i := 1) (d := 11) (v := .int .i64 y) rfl rfl (by as_aux_lemma => kernel_rfl) (by as_aux_lemma => kernel_rfl) (by as_aux_lemma => kernel_rfl) (fun _ _ _ h => h) (by rfl) ?hmt1 (by assumption) ?_
      case hmt1 => intro w hSw; have e := hSw.1.cells.1; go_simp; try with_reducible rfl
      simp only [List.setIfInBounds_toArray, List.set_cons_zero, List.set_cons_succ]
      refine Ord.take (i := 2) (d := 12) (v := .agg #[.int .i64 e0, .int .i64 e1]) rfl rfl (by as_aux_lemma => kernel_rfl) (by as_aux_lemma => kernel_rfl) (by as_aux_lemma => kernel_rfl) (fun _ _ _ h => h) (by rfl) ?hmt2 (by assumption) ?_
      case hmt2 => intro w hSw; have e := hSw.2.cells.1; have e' := hSw.2.cells.2; go_simp; try with_reducible rfl
      simp only [List.setIfInBounds_toArray, List.set_cons_zero, List.set_cons_succ]
      refine wpAnyH_ready (rs := [3]) (by as_aux_lemma => kernel_rfl) (by simp) (AllReadyH.cons rfl (fun K hK => ?_) AllReadyH.nil)
      go_simp
      refine (HEE.out _).mono ?_
      rintro _ v1 ⟨rfl, hb1⟩
      have hS1 : Xb v1 B (y, z) ∧ Xb v1 s (e0, e1) := ⟨hS0.1.later hb1, hS0.2.later hb1⟩
      have HF1 := hid (HF0.out.trans (Fb.below (T := fun i => i = s + 1) (n₀ := s) (base := W5.heap.size) hb1 (by have := HS5.out; omega) (Nat.le_trans HSW.out HF0.out.bel.size)))
      have HK1 := hid (box_later HK0.out hb1)
      refine hK.out _ _ hS1 (fun _ => ?_)
      clear hK K
      try simp only [List.setIfInBounds_toArray, List.set_cons_zero, List.set_cons_succ]
      refine Ord.take (i := 4) (d := 14) (v := .bool true) rfl rfl (by as_aux_lemma => kernel_rfl) (by as_aux_lemma => kernel_rfl) (by as_aux_lemma => kernel_rfl) (fun _ _ _ h => h) (by rfl) ?hmt4 (by assumption) ?_
      case hmt4 => intro w hSw; go_simp; try with_reducible rfl
      simp only [List.setIfInBounds_toArray, List.set_cons_zero, List.set_cons_succ]
      refine Ord.take (i := 5) (d := 15) (v := ?vmt5) rfl rfl (by as_aux_lemma => kernel_rfl) (by as_aux_lemma => kernel_rfl) (by as_aux_lemma => kernel_rfl) (fun _ _ _ h => h) (by rfl) ?hmt5 (by assumption) ?_
      case hmt5 => intro w hSw; go_simp; try with_reducible rfl
      simp only [List.setIfInBounds_toArray, List.set_cons_zero, List.set_cons_succ]
      refine Ord.take (i := 6) (d := 16) (v := ?vmt6) rfl rfl (by as_aux_lemma => kernel_rfl) (by as_aux_lemma => kernel_rfl) (by as_aux_lemma => kernel_rfl) (fun _ _ _ h => h) (by rfl) ?hmt6 (by assumption) ?_
      case hmt6 => intro w hSw; go_simp; try with_reducible rfl
      simp only [List.setIfInBounds_toArray, List.set_cons_zero, List.set_cons_succ]
      refine Ord.take (i := 7) (d := 17) (v := .int .i64 e0) rfl rfl (by as_aux_lemma => kernel_rfl) (by as_aux_lemma => kernel_rfl) (by as_aux_lemma => kernel_rfl) (fun _ _ _ h => h) (by rfl) ?hmt7 (by assumption) ?_
      case hmt7 => intro w hSw; have e := hSw.2.cells.1; have e' := hSw.2.cells.2; go_simp; try with_reducible rfl
      simp only [List.setIfInBounds_toArray, List.set_cons_zero, List.set_cons_succ]
      refine Ord.take (i := 8) (d := 18) (v := .agg #[.int .i64 y, .int .i64 z]) rfl rfl (by as_aux_lemma => kernel_rfl) (by as_aux_lemma => kernel_rfl) (by as_aux_lemma => kernel_rfl) (fun _ _ _ h => h) (by rfl) ?hmt8 (by assumption) ?_
      case hmt8 => intro w hSw; have e := hSw.1.cells.1; have e' := hSw.1.cells.2; go_simp; try with_reducible rfl
      simp only [List.setIfInBounds_toArray, List.set_cons_zero, List.set_cons_succ]
      refine wpAnyH_ready (rs := [9]) (by as_aux_lemma => kernel_rfl) (by simp) (AllReadyH.cons rfl (fun K hK => ?_) AllReadyH.nil)
      go_simp
      refine (HEX.out _).mono ?_
      rintro _ v2 ⟨rfl, hb2⟩
      have hS2 : Xb v2 B (y, z) ∧ Xb v2 s (e0, e1) := ⟨hS1.1.later hb2, hS1.2.later hb2⟩
      have HF2 := hid (HF1.out.trans (Fb.below (T := fun i => i = s + 1) (n₀ := s) (base := W5.heap.size) hb2 (by have := HS5.out; omega) (Nat.le_trans HSW.out HF1.out.bel.size)))
      have HK2 := hid (box_later HK1.out hb2)
      refine hK.out _ _ hS2 (fun _ => ?_)
      clear hK K
      try simp only [List.setIfInBounds_toArray, List.set_cons_zero, List.set_cons_succ]
      refine Ord.take (i := 10) (d := 20) (v := .bool (decide (e0 < y + z))) rfl rfl (by as_aux_lemma => kernel_rfl) (by as_aux_lemma => kernel_rfl) (by as_aux_lemma => kernel_rfl) (fun _ _ _ h => h) (by rfl) ?hmt10 (by assumption) ?_
      case hmt10 => intro w hSw; go_simp; try with_reducible rfl
      simp only [List.setIfInBounds_toArray, List.set_cons_zero, List.set_cons_succ]
      refine Ord.take (i := 11) (d := 21) (v := .bool (decide (e0 < y + z))) rfl rfl (by as_aux_lemma => kernel_rfl) (by as_aux_lemma => kernel_rfl) (by as_aux_lemma => kernel_rfl) (fun _ _ _ h => h) (by rfl) ?hmt11 (by assumption) ?_
      case hmt11 => intro w hSw; go_simp; try with_reducible rfl
      simp only [List.setIfInBounds_toArray, List.set_cons_zero, List.set_cons_succ]
      refine wpAnyH_done (by as_aux_lemma => kernel_rfl) ?_ _
      refine hK0 _ _ ?_
      have HKE := hid HK2.out
      have HFE := hid HF2.out
      have HSE := hid hS2.2
      clear hK0 K0
      clear hS0 hS1 hS2 HK0 HF0 HK1 HF1 HK2 HF2
      by_cases hc2 : e0 < y + z
      · have hd2 : decide (e0 < y + z) = true := decide_eq_true hc2
        rw [hd2] at HSN
        rw [hd2]
        have fk := HKE.out.frozen
        have ck := HKE.out.cell
        gi_wp2_with fail
        exact ⟨HFE.out.trans (Fb.set _ _ (by omega) (.inl rfl)), rfl, HKE.out.set _, HSN.out⟩
      · have hd2 : decide (e0 < y + z) = false := decide_eq_false hc2
        rw [hd2] at HSN
        rw [hd2]
        gi_wp2_with fail
        exact ⟨HFE.out, HKE.out, HSE.out, HSN.out⟩
    · have hd1 : decide (y < e0 + e1) = false := decide_eq_false hc1
      rw [hd1, Bool.false_and] at HSN
      rename_i K0 hK0
      refine Go.wpIn_mono (Q := Exit.then K0 (fun _ _ _ => False)) ?_ (fun e a' w' h => by cases e <;> first | exact h | exact h.elim)
      refine round_held (S := (fun W => Xb W B (y, z) ∧ Xb W s (e0, e1))) (by kernel_rfl) (by kernel_rfl) (fun _ _ h => h) ⟨HX.out, H2.out⟩ (fun hS0 => ?_)
      have HF0 : Hid (Fb s W5.heap.size (fun i => i = s + 1) W W.drew) := Fb.below (Below.refl _ W).drew (by have := HS5.out; omega) HSW.out
      have HK0 : Hid (Boxed W.drew (s + 1) 4 (.bool false)) := H1.out
      refine Ord.take (i := 0) (d := 10) (v := ?vmf0) rfl rfl (by as_aux_lemma => kernel_rfl) (by as_aux_lemma => kernel_rfl) (by as_aux_lemma => kernel_rfl) (fun _ _ _ h => h) (by rfl) ?hmf0 (by assumption) ?_
      case hmf0 => intro w hSw; go_simp; try with_reducible rfl
      simp only [List.setIfInBounds_toArray, List.set_cons_zero, List.set_cons_succ]
      refine Ord.take (i := 1) (d := 11) (v := .int .i64 y) rfl rfl (by as_aux_lemma => kernel_rfl) (by as_aux_lemma => kernel_rfl) (by as_aux_lemma => kernel_rfl) (fun _ _ _ h => h) (by rfl) ?hmf1 (by assumption) ?_
      case hmf1 => intro w hSw; have e := hSw.1.cells.1; go_simp; try with_reducible rfl
      simp only [List.setIfInBounds_toArray, List.set_cons_zero, List.set_cons_succ]
      refine Ord.take (i := 2) (d := 12) (v := .agg #[.int .i64 e0, .int .i64 e1]) rfl rfl (by as_aux_lemma => kernel_rfl) (by as_aux_lemma => kernel_rfl) (by as_aux_lemma => kernel_rfl) (fun _ _ _ h => h) (by rfl) ?hmf2 (by assumption) ?_
      case hmf2 => intro w hSw; have e := hSw.2.cells.1; have e' := hSw.2.cells.2; go_simp; try with_reducible rfl
      simp only [List.setIfInBounds_toArray, List.set_cons_zero, List.set_cons_succ]
      refine wpAnyH_ready (rs := [3]) (by as_aux_lemma => kernel_rfl) (by simp) (AllReadyH.cons rfl (fun K hK => ?_) AllReadyH.nil)
      go_simp
      refine (HEE.out _).mono ?_
      rintro _ v1 ⟨rfl, hb1⟩
      have hS1 : Xb v1 B (y, z) ∧ Xb v1 s (e0, e1) := ⟨hS0.1.later hb1, hS0.2.later hb1⟩
      have HF1 := hid (HF0.out.trans (Fb.below (T := fun i => i = s + 1) (n₀ := s) (base := W5.heap.size) hb1 (by have := HS5.out; omega) (Nat.le_trans HSW.out HF0.out.bel.size)))
      have HK1 := hid (box_later HK0.out hb1)
      refine hK.out _ _ hS1 (fun _ => ?_)
      clear hK K
      try simp only [List.setIfInBounds_toArray, List.set_cons_zero, List.set_cons_succ]
      refine Ord.take (i := 4) (d := 14) (v := .bool false) rfl rfl (by as_aux_lemma => kernel_rfl) (by as_aux_lemma => kernel_rfl) (by as_aux_lemma => kernel_rfl) (fun _ _ _ h => h) (by rfl) ?hmf4 (by assumption) ?_
      case hmf4 => intro w hSw; go_simp; try with_reducible rfl
      simp only [List.setIfInBounds_toArray, List.set_cons_zero, List.set_cons_succ]
      refine Ord.take (i := 5) (d := 15) (v := ?vmf5) rfl rfl (by as_aux_lemma => kernel_rfl) (by as_aux_lemma => kernel_rfl) (by as_aux_lemma => kernel_rfl) (fun _ _ _ h => h) (by rfl) ?hmf5 (by assumption) ?_
      case hmf5 => intro w hSw; go_simp; try with_reducible rfl
      simp only [List.setIfInBounds_toArray, List.set_cons_zero, List.set_cons_succ]
      refine Ord.skip (i := 6) (d := 16) rfl rfl (by as_aux_lemma => kernel_rfl) (by as_aux_lemma => kernel_rfl) (by as_aux_lemma => kernel_rfl) (fun _ _ _ h => h) (by rfl) (by assumption) ?_
      simp only [List.setIfInBounds_toArray, List.set_cons_zero, List.set_cons_succ]
      refine Ord.skip (i := 7) (d := 17) rfl rfl (by as_aux_lemma => kernel_rfl) (by as_aux_lemma => kernel_rfl) (by as_aux_lemma => kernel_rfl) (fun _ _ _ h => h) (by rfl) (by assumption) ?_
      simp only [List.setIfInBounds_toArray, List.set_cons_zero, List.set_cons_succ]
      refine Ord.skip (i := 8) (d := 18) rfl rfl (by as_aux_lemma => kernel_rfl) (by as_aux_lemma => kernel_rfl) (by as_aux_lemma => kernel_rfl) (fun _ _ _ h => h) (by rfl) (by assumption) ?_
      simp only [List.setIfInBounds_toArray, List.set_cons_zero, List.set_cons_succ]
      refine Ord.skip (i := 9) (d := 19) rfl rfl (by as_aux_lemma => kernel_rfl) (by as_aux_lemma => kernel_rfl) (by as_aux_lemma => kernel_rfl) (fun _ _ _ h => h) (by rfl) (by assumption) ?_
      simp only [List.setIfInBounds_toArray, List.set_cons_zero, List.set_cons_succ]
      refine Ord.skip (i := 10) (d := 20) rfl rfl (by as_aux_lemma => kernel_rfl) (by as_aux_lemma => kernel_rfl) (by as_aux_lemma => kernel_rfl) (fun _ _ _ h => h) (by rfl) (by assumption) ?_
      simp only [List.setIfInBounds_toArray, List.set_cons_zero, List.set_cons_succ]
      refine Ord.take (i := 11) (d := 21) (v := ?vmf11) rfl rfl (by as_aux_lemma => kernel_rfl) (by as_aux_lemma => kernel_rfl) (by as_aux_lemma => kernel_rfl) (fun _ _ _ h => h) (by rfl) ?hmf11 (by assumption) ?_
      case hmf11 => intro w hSw; go_simp; try with_reducible rfl
      simp only [List.setIfInBounds_toArray, List.set_cons_zero, List.set_cons_succ]
      refine wpAnyH_done (by as_aux_lemma => kernel_rfl) ?_ _
      refine hK0 _ _ ?_
      have HKE := hid HK1.out
      have HFE := hid HF1.out
      have HSE := hid hS1.2
      clear hK0 K0
      clear hS0 hS1 HK0 HF0 HK1 HF1
      gi_wp2_with fail
      exact ⟨HFE.out, HKE.out, HSE.out, HSN.out⟩
  case done =>
    rintro D W hD ⟨h1, _, h4⟩ hB hd
    rw [flat_one] at h4
    have f2 := h1.frozen
    have g2 := h1.cell
    have H2 := hid h1
    have HHS := hid hs
    have HFB := hid ((HXB.out.mono (by omega)).trans (hB.trans ((Below.refl s W).setCell (p := ⟨s + 1, 0, none⟩) (by show s ≤ s + 1; omega) (.bool false))))
    have HDD := hid hD
    have ho := HO.out
    rw [h4] at ho
    subst ho
    have HD2 : Hid ((W.setCell ⟨s + 1, 0, none⟩ (.bool false)).heap[D]? = some (.deferred (some []))) := by
      refine (Below.heap_setCell W ⟨s + 1, 0, none⟩ _ D (fun e => ?_)).trans hd
      have e : D = s + 1 := e
      omega
    have HS5 := hid hsz5
    clear hd h1 hs hsz5 hB hD
    gi_wp2_with fail
    refine ⟨by simp, .inl ⟨_, _, rfl, run_takeDeferred HD2.out, ?_⟩⟩
    have hq := load_box (ty := 4) (putObj_cells (o := .deferred none) (H2.out.set (.bool false)) HD2.out) Try.underlying4 rfl
    refine ⟨_, results_box rfl _ _ (s + 1) _ rfl hq, rfl, ?_⟩
    have hs := HHS.out
    have := HDD.out
    have := HS5.out
    rw [← hs]
    exact HFB.out.trans (belowK_b (w := w) (by omega) _ D _ _ (by omega) HD2.out rfl rfl)
  case stop =>
    rintro D c pre W hD hpre ⟨rfl, h2, h4⟩ hB hd
    rw [flat_one] at hpre
    have hyes : metB l (e0, e1) = true := by
      obtain ⟨m, rfl⟩ := hpre
      exact metB_pre pre m _ h4
    have ho := HO.out
    rw [hyes] at ho
    subst ho
    have HD := hid hd
    have H2 := hid h2
    have HHS := hid hs
    have HS5 := hid hsz5
    have HDD := hid hD
    have HFB := hid ((HXB.out.mono (by omega)).trans hB)
    clear hd hs hsz5 h2 hB hpre hyes hD
    gi_wp2_with fail
    refine ⟨by simp, .inl ⟨_, _, rfl, run_takeDeferred HD.out, ?_⟩⟩
    have hq := load_box (ty := 4) (putObj_cells (o := .deferred none) H2.out HD.out) Try.underlying4 rfl
    refine ⟨_, results_box rfl _ _ (s + 1) _ rfl hq, rfl, ?_⟩
    have hs := HHS.out
    have := HDD.out
    have := HS5.out
    rw [← hs]
    exact HFB.out.trans (belowK_b (w := w) (by omega) _ D _ _ (by omega) HD.out rfl rfl)
end Go.Proofs.Ytkfoeijhhfaceab
/-
  Rows that are made by a closure over them: what is kept, and how great their numbers get.
-/
namespace Go.Proofs.Ytkfoeijhhfaceab
open Go.RowKit Go.Shelf
attribute [local go_sem] Oper.semAt_some

theorem own_own {W W' : World} {base e sz n k : Nat} {v : Value} {xs : List Value} {row : Option Nat} (h : W.ownsRow base e sz v k xs) (hg : W.grownBy W' row) (hr : ∀ r, row = some r → n ≤ r ∧ ∃ o : Obj, W.heap[r]? = some o ∧ o.isCells = false) : W'.ownsRow base e sz v k xs := by
  refine h.kept hg ?_
  rcases h.2 with ⟨rfl, _⟩ | ⟨g, cap, cur, rfl, _, hgb, _⟩
  · exact .inl rfl
  · refine .inr fun e' => ?_
    obtain ⟨_, o, ho, hc⟩ := hr g (by simpa [Value.ownBlock] using e'.symm)
    rw [hgb] at ho; cases ho; cases hc
theorem Pu.ownK {W W' : World} {Bp Bx base n : Nat} {v : Value} {l : List Ext} {row : Option Nat} (h : Pu W Bp Bx base v l) (hg : W.grownBy W' row) (hr : ∀ r, row = some r → n ≤ r ∧ ∃ o : Obj, W.heap[r]? = some o ∧ o.isCells = false) : Pu W' Bp Bx base v l :=
  ⟨box_own h.ptr hg hr, box_own h.box hg hr, own_own h.own hg hr⟩
theorem own_base {w : World} {base base' e sz n : Nat} {v : Value} {xs : List Value} (h : w.ownsRow base e sz v n xs) (hb : base' ≤ base) : w.ownsRow base' e sz v n xs := by
  obtain ⟨h1, h2 | ⟨g, cap, cur, e', h3, h4⟩⟩ := h
  · exact ⟨h1, .inl h2⟩
  · exact ⟨h1, .inr ⟨g, cap, cur, e', Nat.le_trans hb h3, h4⟩⟩
theorem Pu.other {W : World} {Bp Bx base g i : Nat} {v : Value} {l : List Ext} (h : Pu W Bp Bx base v l) (h1 : Bp ≠ g) (h2 : Bx ≠ g) (h3 : g < base) (u : Value) : Pu (W.setCell ⟨g, i, none⟩ u) Bp Bx base v l :=
  ⟨(Below.heap_setCell W ⟨g, i, none⟩ u Bp h1).trans h.ptr, (Below.heap_setCell W ⟨g, i, none⟩ u Bx h2).trans h.box, h.own.kept ⟨rfl, rfl, rfl, (KeepsWalks.setCell W _ u).size, fun k _ hk => Below.heap_setCell _ _ _ k (fun e => hk (by rw [e]))⟩ (.inr (fun e => by have := (own_block h.own g e).1; omega))⟩
theorem Pu.nil {W : World} {Bp Bx base : Nat} (h1 : Boxed W Bp 46 (.pointer (some ⟨Bx, 0, none⟩))) (h2 : Boxed W Bx 22 (.slice none 0 0)) : Pu W Bp Bx base (.slice none 0 0) [] := ⟨h1, h2, ⟨rfl, .inl ⟨rfl, rfl⟩⟩⟩
theorem Fb.keep {n₀ base : Nat} {T : Nat → Prop} {W W' : World} (h : Fb n₀ base T W W') {B : Nat} {cs : Array Value} {t : TypeId} {fr : Nat × Nat} (hB : W.heap[B]? = some (.cells cs t fr)) (h1 : B < base) (h2 : ¬ T B) : W'.heap[B]? = some (.cells cs t fr) := (h.kt.old B h1 h2).trans hB
theorem Fb.defer {n₀ base : Nat} {T : Nat → Prop} {W W' : World} (h : Fb n₀ base T W W') {D : Nat} {o : Obj} (hB : W.heap[D]? = some o) (ho : o.isCells = false) : W'.heap[D]? = some o := h.oth.same D o hB ho

/-- Numbers and lengths behind n puts. -/
structure Bw (n : Nat) (l : List Ext) : Prop where
  all : ∀ z, z ∈ l → 0 ≤ z.1 ∧ z.1 ≤ 8192 ∧ 0 ≤ z.2 ∧ z.2 ≤ 8192 * (n : Int)
  len : l.length ≤ n
theorem bw_nil : Bw 0 [] := ⟨fun z hz => (by cases hz), Nat.le_refl _⟩
theorem Bw.put {n : Nat} {l : List Ext} (h : Bw n l) {f t : Int} (hf : 0 ≤ f) (hf2 : f ≤ 8192) (ht : t ≤ 8192) : Bw (n + 1) (putL l f t) := by
  have up : ∀ z, z ∈ l → 0 ≤ z.1 ∧ z.1 ≤ 8192 ∧ 0 ≤ z.2 ∧ z.2 ≤ 8192 * ((n + 1 : Nat) : Int) := fun z hz => by have := h.all z hz; omega
  refine ⟨fun z hz => ?_, Nat.le_trans (putl_len l f t) (by have := h.len; omega)⟩
  by_cases hft : t ≤ f
  · rw [put_no hft] at hz; exact up z hz
  · rcases snoc_or l with rfl | ⟨m, y, rfl⟩
    · rw [put_nil hft, List.mem_singleton] at hz
      subst hz
      dsimp only
      omega
    · have hy := h.all y (by simp)
      by_cases hyf : y.1 + y.2 = f
      · rw [put_join hft hyf] at hz
        rcases List.mem_append.1 hz with hz | hz
        · exact up z (by simp [hz])
        · rw [List.mem_singleton] at hz
          subst hz
          dsimp only
          omega
      · rw [put_more hft hyf] at hz
        rcases List.mem_append.1 hz with hz | hz
        · exact up z hz
        · rw [List.mem_singleton] at hz
          subst hz
          dsimp only
          omega
theorem Bw.bd {n : Nat} {l : List Ext} (h : Bw n l) (hn : n ≤ 20000) : Bd l := ⟨fun z hz => by have := h.all z hz; omega, by have := h.len; omega⟩
def Ok (x : Ext) : Prop := 0 ≤ x.1 ∧ 1 ≤ x.2 ∧ x.1 + x.2 ≤ 4096
theorem row_ok {b : Int} {l : List Ext} (h : Row b l) : ∀ x, x ∈ l → Ok x := fun x hx => ⟨(h.nrm.pos x hx).1, (h.nrm.pos x hx).2, by have := h.upto x hx; have := h.hi; omega⟩
theorem btw_snoc (pre : List Ext) (x : Ext) : (pre ++ [x]).foldl btwS ([], 0) = btwS (pre.foldl btwS ([], 0)) x := by rw [List.foldl_append]; rfl
theorem btw_bw (pre : List Ext) (h : ∀ x, x ∈ pre → Ok x) : Bw pre.length (pre.foldl btwS ([], 0)).1 ∧ 0 ≤ (pre.foldl btwS ([], 0)).2 ∧ (pre.foldl btwS ([], 0)).2 ≤ 4096 := by
  have key : ∀ (l : List Ext) (n : Nat) (st : List Ext × Int), Bw n st.1 → 0 ≤ st.2 → st.2 ≤ 4096 → (∀ x, x ∈ l → Ok x) → Bw (n + l.length) (l.foldl btwS st).1 ∧ 0 ≤ (l.foldl btwS st).2 ∧ (l.foldl btwS st).2 ≤ 4096 := by
    intro l
    induction l with
    | nil => intro n st h1 h2 h3 _; exact ⟨h1, h2, h3⟩
    | cons x l ih =>
      intro n st h1 h2 h3 hl
      obtain ⟨k1, k2, k3⟩ := hl x (by simp)
      have := ih (n + 1) (btwS st x) (h1.put h2 (by omega) (by omega)) (by unfold btwS; dsimp only; omega) (by unfold btwS; dsimp only; omega) (fun y hy => hl y (by simp [hy]))
      rw [List.foldl_cons, List.length_cons]
      rwa [show n + 1 + l.length = n + (l.length + 1) from by omega] at this
  have := key pre 0 ([], 0) bw_nil (by simp) (by simp) h
  rwa [Nat.zero_add] at this
theorem wout_snoc (e : Ext) (pre : List Ext) (x : Ext) : (pre ++ [x]).foldl (woutS e) [] = woutS e (pre.foldl (woutS e) []) x := by rw [List.foldl_append]; rfl
theorem wout_bw (e : Ext) (he : 0 ≤ e.1) (he1 : 1 ≤ e.2) (he2 : e.1 + e.2 ≤ 4096) (pre : List Ext) (h : ∀ x, x ∈ pre → Ok x) : Bw (2 * pre.length) (pre.foldl (woutS e) []) := by
  have key : ∀ (l : List Ext) (n : Nat) (acc : List Ext), Bw n acc → (∀ x, x ∈ l → Ok x) → Bw (n + 2 * l.length) (l.foldl (woutS e) acc) := by
    intro l
    induction l with
    | nil => intro n acc h1 _; exact h1
    | cons x l ih =>
      intro n acc h1 hl
      obtain ⟨k1, k2, k3⟩ := hl x (by simp)
      have := ih (n + 1 + 1) (woutS e acc x) ((h1.put k1 (by omega) (by omega)).put (by omega) (by omega) (by omega)) (fun y hy => hl y (by simp [hy]))
      rw [List.foldl_cons, List.length_cons]
      rwa [show n + 1 + 1 + 2 * l.length = n + 2 * (l.length + 1) from by omega] at this
  have := key pre 0 [] bw_nil h
  rwa [Nat.zero_add] at this
theorem join_snoc (pre : List Ext) (x : Ext) : (pre ++ [x]).foldl joinS [] = joinS (pre.foldl joinS []) x := by rw [List.foldl_append]; rfl
theorem join_bw (pre : List Ext) (h : ∀ x, x ∈ pre → Ok x) : Bw pre.length (pre.foldl joinS []) := by
  have key : ∀ (l : List Ext) (n : Nat) (acc : List Ext), Bw n acc → (∀ x, x ∈ l → Ok x) → Bw (n + l.length) (l.foldl joinS acc) := by
    intro l
    induction l with
    | nil => intro n acc h1 _; exact h1
    | cons x l ih =>
      intro n acc h1 hl
      obtain ⟨k1, k2, k3⟩ := hl x (by simp)
      have := ih (n + 1) (joinS acc x) (h1.put k1 (by omega) (by omega)) (fun y hy => hl y (by simp [hy]))
      rw [List.foldl_cons, List.length_cons]
      rwa [show n + 1 + l.length = n + (l.length + 1) from by omega] at this
  have := key pre 0 [] bw_nil h
  rwa [Nat.zero_add] at this
/-- The round's variable is not the row that is made. -/
def Zb (Bx : Nat) (B : Nat) (W : World) : Prop := ∃ v, Boxed W Bx 22 v ∧ some B ≠ v.ownBlock
theorem zb_own (Bx n : Nat) : OwnFrom n (Zb Bx) := fun B W W' row h hg hr => by
  obtain ⟨v, hv, hn⟩ := h
  exact ⟨v, box_own hv hg hr, hn⟩
theorem zb_new {W : World} {Bp Bx base : Nat} {v : Value} {l : List Ext} (h : Pu W Bp Bx base v l) (o : Obj) : Zb Bx W.heap.size (W.alloc o) :=
  ⟨v, h.box.alloc o, fun e => by have := (own_block h.own _ e.symm).2; omega⟩
theorem zb_ne {W : World} {Bp Bx base B : Nat} {v : Value} {l : List Ext} (h : Pu W Bp Bx base v l) (hz : Zb Bx B W) : some B ≠ v.ownBlock := by
  obtain ⟨v', hv, hn⟩ := hz
  have e := (show W.heap[Bx]? = _ from h.box).symm.trans hv
  simp at e
  rw [e]
  exact hn
theorem x_not_box {W : World} {B Bx : Nat} {x : Ext} {v : Value} (h : Xb W B x) (k : Boxed W Bx 22 v) : B ≠ Bx := by
  rintro rfl
  have e := (show W.heap[B]? = _ from h).symm.trans k
  simp [extV] at e
/-- A row is handed back. -/
def RowPost (L : List Ext) (w : World) (e : Ending) (w' : World) : Prop := ∃ v, e = .returned v ∧ w'.ownsRow w.heap.size 29 2 v L.length (L.flatMap extC) ∧ Below w.heap.size w w'
end Go.Proofs.Ytkfoeijhhfaceab
