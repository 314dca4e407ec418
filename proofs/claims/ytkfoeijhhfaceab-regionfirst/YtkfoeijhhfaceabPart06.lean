/-
  A row without some blocks: the contract of region's without.
-/
import Derived.Test.YtkfoeijhhfaceabPart05
namespace Go.Proofs.Ytkfoeijhhfaceab
open Go.RowKit Go.Shelf
attribute [local go_sem] Oper.semAt_some

set_option maxHeartbeats 6400000 in
set_option maxRecDepth 100000 in
theorem without_word (e0 e1 : Int) (a : Option Addr) (cap : Nat) (l : List Ext) (w : World) (hr : Rx w a cap l) (hrow : Row 4096 l) (he0 : 0 ≤ e0) (he1 : 1 ≤ e1) (he2 : e0 + e1 ≤ 4096) :
    Calls Try.prog 13 #[.slice a l.length cap, .agg #[.int .i64 e0, .int .i64 e1]] w (RowPost (wout l (e0, e1)) w) := by
  unfold RowPost wout
  have hxB := (Bn (Bn (Bn (Bn (Bn (bel_alloc w (.cells #[.int .i64 e0, .int .i64 e1] 29)) (bel_alloc _ (.cells #[.slice none 0 0] 22))) (bel_alloc _ (.cells #[.pointer (some ⟨w.heap.size + 1, 0, none⟩)] 46))) (bel_alloc _ (.cells #[.func (.func 21) #[] #[.pointer (some ⟨w.heap.size + 1 + 1, 0, none⟩)]] 44))) (bel_alloc _ (.cells #[.slice a l.length cap] 22))) (bel_alloc _ (.cells #[.slice (some ⟨w.heap.size + 1 + 1 + 1 + 1, 0, none⟩) 1 1] 42)))
  have x0 := (heap_old _ (.cells #[.slice (some ⟨w.heap.size + 1 + 1 + 1 + 1, 0, none⟩) 1 1] 42) (heap_old _ (.cells #[.slice a l.length cap] 22) (heap_old _ (.cells #[.func (.func 21) #[] #[.pointer (some ⟨w.heap.size + 1 + 1, 0, none⟩)]] 44) (heap_old _ (.cells #[.pointer (some ⟨w.heap.size + 1, 0, none⟩)] 46) (heap_old _ (.cells #[.slice none 0 0] 22) (heap_new w (.cells #[.int .i64 e0, .int .i64 e1] 29)))))))
  have x1 := (heap_old _ (.cells #[.slice (some ⟨w.heap.size + 1 + 1 + 1 + 1, 0, none⟩) 1 1] 42) (heap_old _ (.cells #[.slice a l.length cap] 22) (heap_old _ (.cells #[.func (.func 21) #[] #[.pointer (some ⟨w.heap.size + 1 + 1, 0, none⟩)]] 44) (heap_old _ (.cells #[.pointer (some ⟨w.heap.size + 1, 0, none⟩)] 46) (heap_new (w.alloc (.cells #[.int .i64 e0, .int .i64 e1] 29)) (.cells #[.slice none 0 0] 22))))))
  have x2 := (heap_old _ (.cells #[.slice (some ⟨w.heap.size + 1 + 1 + 1 + 1, 0, none⟩) 1 1] 42) (heap_old _ (.cells #[.slice a l.length cap] 22) (heap_old _ (.cells #[.func (.func 21) #[] #[.pointer (some ⟨w.heap.size + 1 + 1, 0, none⟩)]] 44) (heap_new ((w.alloc (.cells #[.int .i64 e0, .int .i64 e1] 29)).alloc (.cells #[.slice none 0 0] 22)) (.cells #[.pointer (some ⟨w.heap.size + 1, 0, none⟩)] 46)))))
  have x3 := (heap_old _ (.cells #[.slice (some ⟨w.heap.size + 1 + 1 + 1 + 1, 0, none⟩) 1 1] 42) (heap_old _ (.cells #[.slice a l.length cap] 22) (heap_new (((w.alloc (.cells #[.int .i64 e0, .int .i64 e1] 29)).alloc (.cells #[.slice none 0 0] 22)).alloc (.cells #[.pointer (some ⟨w.heap.size + 1, 0, none⟩)] 46)) (.cells #[.func (.func 21) #[] #[.pointer (some ⟨w.heap.size + 1 + 1, 0, none⟩)]] 44))))
  have x4 := (heap_old _ (.cells #[.slice (some ⟨w.heap.size + 1 + 1 + 1 + 1, 0, none⟩) 1 1] 42) (heap_new ((((w.alloc (.cells #[.int .i64 e0, .int .i64 e1] 29)).alloc (.cells #[.slice none 0 0] 22)).alloc (.cells #[.pointer (some ⟨w.heap.size + 1, 0, none⟩)] 46)).alloc (.cells #[.func (.func 21) #[] #[.pointer (some ⟨w.heap.size + 1 + 1, 0, none⟩)]] 44)) (.cells #[.slice a l.length cap] 22)))
  have x5 := (heap_new (((((w.alloc (.cells #[.int .i64 e0, .int .i64 e1] 29)).alloc (.cells #[.slice none 0 0] 22)).alloc (.cells #[.pointer (some ⟨w.heap.size + 1, 0, none⟩)] 46)).alloc (.cells #[.func (.func 21) #[] #[.pointer (some ⟨w.heap.size + 1 + 1, 0, none⟩)]] 44)).alloc (.cells #[.slice a l.length cap] 22)) (.cells #[.slice (some ⟨w.heap.size + 1 + 1 + 1 + 1, 0, none⟩) 1 1] 42))
  have xS : ((((((w.alloc (.cells #[.int .i64 e0, .int .i64 e1] 29)).alloc (.cells #[.slice none 0 0] 22)).alloc (.cells #[.pointer (some ⟨w.heap.size + 1, 0, none⟩)] 46)).alloc (.cells #[.func (.func 21) #[] #[.pointer (some ⟨w.heap.size + 1 + 1, 0, none⟩)]] 44)).alloc (.cells #[.slice a l.length cap] 22)).alloc (.cells #[.slice (some ⟨w.heap.size + 1 + 1 + 1 + 1, 0, none⟩) 1 1] 42)).heap.size = w.heap.size + 1 + 1 + 1 + 1 + 1 + 1 := by simp only [World.size_alloc]
  simp only [World.size_alloc] at x1 x2 x3 x4 x5
  have HX0 := hid x0
  have HX1 := hid x1
  have HX2 := hid x2
  have HX3 := hid x3
  have HX4 := hid x4
  have HX5 := hid x5
  have HXB := hid hxB
  have HXS := hid xS
  clear hxB x0 x1 x2 x3 x4 x5 xS
  have HR := hid hr
  have HRW := hid hrow
  clear hr hrow
  refine (callsIn_wide (n := 10)).1 ?_
  refine callsIn_of_wp_marks Try.func13 rfl trivial ?_ rfl
  simp only [Try.ntmps13, List.size_toArray, List.length_cons, List.length_nil, Nat.reduceAdd, Nat.reduceSub, Array.replicate_succ, Array.replicate_zero, List.push_toArray, List.append_toArray, List.nil_append, List.cons_append]
  gi_wp2_with fail
  refine ⟨trivial, ?_⟩
  refine (callsIn_wide.2 (putter_word _ _)).mono ?_
  rintro _ w4 ⟨rfl, hw4⟩
  simp only [World.size_alloc] at hw4 ⊢
  subst hw4
  gi_wp2_with fail
  refine ⟨trivial, ?_⟩
  refine (callsIn_wide.2 (each_word _ 1 1 _)).mono ?_
  rintro _ w4 ⟨rfl, hw4⟩
  simp only [World.size_alloc] at hw4 ⊢
  subst hw4
  gi_wp2_with fail
  generalize ((((((w.alloc (.cells #[.int .i64 e0, .int .i64 e1] 29)).alloc (.cells #[.slice none 0 0] 22)).alloc (.cells #[.pointer (some ⟨w.heap.size + 1, 0, none⟩)] 46)).alloc (.cells #[.func (.func 21) #[] #[.pointer (some ⟨w.heap.size + 1 + 1, 0, none⟩)]] 44)).alloc (.cells #[.slice a l.length cap] 22)).alloc (.cells #[.slice (some ⟨w.heap.size + 1 + 1 + 1 + 1, 0, none⟩) 1 1] 42)) = W5 at *
  have hR5 := HR.out.later HXB.out
  have hsz5 := HXS.out
  obtain ⟨s, hs⟩ : ∃ s, s = w.heap.size := ⟨_, rfl⟩
  rw [← hs] at HX0 HX1 HX2 HX3 HX4 HX5 hsz5 ⊢
  refine range_eachZ (d := 7) Ok [(a, cap, l)] (fun i => i = s + 1) s (s + 1 + 1 + 1 + 1) (s + 1 + 1 + 1 + 1 + 1) 1
    (Ro.one HX4.out ⟨by omega, by omega⟩ hR5 (HR.out.kept (by omega) (by rw [← hs]; rintro i rfl; omega))) (by rw [flat_one]; exact row_ok HRW.out) (by simp) (by simp) HX5.out rfl (by omega)
    (fun pre W => (∃ v, Pu W (s + 1 + 1) (s + 1) W5.heap.size v (pre.foldl (woutS (e0, e1)) [])) ∧ Xb W s (e0, e1) ∧ Boxed W (s + 1 + 1 + 1) 44 (.func (.func 21) #[] #[.pointer (some ⟨s + 1 + 1, 0, none⟩)])) (fun c pre W => False)
    (fun pre W W' row h hg hr => ⟨h.1.elim (fun v hv => ⟨v, hv.ownK hg hr⟩), h.2.1.own hg hr, box_own h.2.2 hg hr⟩) (fun c pre W W' row h hg hr => h)
    ⟨⟨_, Pu.nil HX2.out HX1.out⟩, HX0.out, HX3.out⟩ (Zb (s + 1)) (zb_own (s + 1) _) (fun pre W y z h => h.1.elim (fun v hv => zb_new hv _)) ?assign ?body ?done ?stop
  case assign =>
    intro ll y z W K hK
    simp only [List.setIfInBounds_toArray, List.set_cons_zero, List.set_cons_succ] at hK ⊢
    gi_wp2
    exact hK
  case body =>
    rintro ll pre y z B W ⟨⟨v, h1⟩, h2, h3⟩ ⟨p1, p2, p3⟩ hpp hpl hX hz hsW _
    have q1 := wout_bw (e0, e1) he0 he1 he2 pre hpp
    rw [flat_one] at hpl
    have hll := (row_len HRW.out).2
    have HSN0 := wout_snoc (e0, e1) pre (y, z)
    dsimp only at p1 p2 p3
    have HHS := hid hs
    have HSW := hid hsW
    have HS5 := hid hsz5
    have H1 := hid h1
    have H2 := hid h2
    have H3 := hid h3
    have HX := hid hX
    obtain ⟨acc, hacc⟩ : ∃ acc, acc = pre.foldl (woutS (e0, e1)) [] := ⟨_, rfl⟩
    rw [← hacc] at H1 q1 HSN0 h1
    have HSN : Hid ((pre ++ [(y, z)]).foldl (woutS (e0, e1)) [] = putL (putL acc y (min (y + z) e0)) (max y (e0 + e1)) (y + z)) := HSN0
    clear HSN0
    have HNE := hid (zb_ne h1 hz)
    have HNB := hid (x_not_box hX h1.box)
    have HBL : Hid (B < W.heap.size) := (Array.getElem?_eq_some_iff.1 hX).1
    have HEE : Hid (∀ V, Calls Try.prog 18 #[.agg #[.int .i64 e0, .int .i64 e1]] V fun e w' => e = .returned (.int .i64 (e0 + e1)) ∧ Below V.heap.size V w') := fun V => end_word (e0, e1) V (by dsimp only; omega) (by dsimp only; omega)
    have HEX : Hid (∀ V, Calls Try.prog 18 #[.agg #[.int .i64 y, .int .i64 z]] V fun e w' => e = .returned (.int .i64 (y + z)) ∧ Below V.heap.size V w') := fun V => end_word (y, z) V (by dsimp only; omega) (by dsimp only; omega)
    have HQ := hid (q1.put (f := y) (t := min (y + z) e0) p1 (by omega) (by omega))
    have HQ0 := hid q1
    have HPL : Hid (2 * pre.length + 1 ≤ 20000) := by show _ ≤ _; omega
    clear hs hsW hsz5 HX0 HX1 HX2 HX3 HX4 HX5 h1 h2 h3 hpl hll hpp hX q1 hz hacc
    simp only [List.setIfInBounds_toArray, List.set_cons_zero, List.set_cons_succ]
    gi_wp2_with fail
    rename_i K0 hK0
    refine Go.wpIn_mono (Q := Exit.then K0 (fun _ _ _ => False)) ?_ (fun e a' w' h => by cases e <;> first | exact h | exact h.elim)
    refine round_held (S := fun V => Xb V B (y, z) ∧ Xb V s (e0, e1) ∧ Boxed V (s + 1 + 1 + 1) 44 (.func (.func 21) #[] #[.pointer (some ⟨s + 1 + 1, 0, none⟩)])) (by kernel_rfl) (by kernel_rfl) (fun _ _ h => h) ⟨HX.out, H2.out, H3.out⟩ (fun hSA0 => ?_)
    have HZA0 : Hid (Below W.heap.size W W.drew) := (Below.refl _ W).drew
    refine Ord.take (i := 0) (d := 13) (v := ?vA0) rfl rfl (by as_aux_lemma => kernel_rfl) (by as_aux_lemma => kernel_rfl) (by as_aux_lemma => kernel_rfl) (fun _ _ _ h => h) (by rfl) ?hA0 (by assumption) ?_
    case hA0 => intro w hSw; have e := hSw.2.2.cell; go_simp; try with_reducible rfl
    simp only [List.setIfInBounds_toArray, List.set_cons_zero, List.set_cons_succ]
    refine Ord.take (i := 1) (d := 14) (v := ?vA1) rfl rfl (by as_aux_lemma => kernel_rfl) (by as_aux_lemma => kernel_rfl) (by as_aux_lemma => kernel_rfl) (fun _ _ _ h => h) (by rfl) ?hA1 (by assumption) ?_
    case hA1 => intro w hSw; go_simp; try with_reducible rfl
    simp only [List.setIfInBounds_toArray, List.set_cons_zero, List.set_cons_succ]
    refine Ord.take (i := 2) (d := 15) (v := .int .i64 y) rfl rfl (by as_aux_lemma => kernel_rfl) (by as_aux_lemma => kernel_rfl) (by as_aux_lemma => kernel_rfl) (fun _ _ _ h => h) (by rfl) ?hA2 (by assumption) ?_
    case hA2 => intro w hSw; have e := hSw.1.cells.1; have e' := hSw.1.cells.2; go_simp; try with_reducible rfl
    simp only [List.setIfInBounds_toArray, List.set_cons_zero, List.set_cons_succ]
    refine Ord.take (i := 3) (d := 16) (v := .agg #[.int .i64 y, .int .i64 z]) rfl rfl (by as_aux_lemma => kernel_rfl) (by as_aux_lemma => kernel_rfl) (by as_aux_lemma => kernel_rfl) (fun _ _ _ h => h) (by rfl) ?hA3 (by assumption) ?_
    case hA3 => intro w hSw; have e := hSw.1.cells.1; have e' := hSw.1.cells.2; go_simp; try with_reducible rfl
    simp only [List.setIfInBounds_toArray, List.set_cons_zero, List.set_cons_succ]
    refine Ord.take (i := 5) (d := 18) (v := ?vA5) rfl rfl (by as_aux_lemma => kernel_rfl) (by as_aux_lemma => kernel_rfl) (by as_aux_lemma => kernel_rfl) (fun _ _ _ h => h) (by rfl) ?hA5 (by assumption) ?_
    case hA5 => intro w hSw; go_simp; try with_reducible rfl
    simp only [List.setIfInBounds_toArray, List.set_cons_zero, List.set_cons_succ]
    refine Ord.take (i := 6) (d := 19) (v := .int .i64 e0) rfl rfl (by as_aux_lemma => kernel_rfl) (by as_aux_lemma => kernel_rfl) (by as_aux_lemma => kernel_rfl) (fun _ _ _ h => h) (by rfl) ?hA6 (by assumption) ?_
    case hA6 => intro w hSw; have e := hSw.2.1.cells.1; have e' := hSw.2.1.cells.2; go_simp; try with_reducible rfl
    simp only [List.setIfInBounds_toArray, List.set_cons_zero, List.set_cons_succ]
    refine wpAnyH_ready (rs := [4]) (by as_aux_lemma => kernel_rfl) (by simp) (AllReadyH.cons rfl (fun K hK => ?_) AllReadyH.nil)
    go_simp
    refine (HEX.out _).mono ?_
    rintro _ A1 ⟨rfl, hbA1⟩
    have hSA1 : Xb A1 B (y, z) ∧ Xb A1 s (e0, e1) ∧ Boxed A1 (s + 1 + 1 + 1) 44 (.func (.func 21) #[] #[.pointer (some ⟨s + 1 + 1, 0, none⟩)]) := ⟨hSA0.1.later hbA1, hSA0.2.1.later hbA1, box_later hSA0.2.2 hbA1⟩
    have HZA1 := hid (Below.trans HZA0.out (hbA1.mono HZA0.out.size))
    refine hK.out _ _ hSA1 (fun _ => ?_)
    clear hK K
    try simp only [List.setIfInBounds_toArray, List.set_cons_zero, List.set_cons_succ]
    refine Ord.take (i := 7) (d := 20) (v := .int .i64 (min (y + z) e0)) rfl rfl (by as_aux_lemma => kernel_rfl) (by as_aux_lemma => kernel_rfl) (by as_aux_lemma => kernel_rfl) (fun _ _ _ h => h) (by rfl) ?hA7 (by assumption) ?_
    case hA7 => intro w hSw; go_simp; split <;> omega
    simp only [List.setIfInBounds_toArray, List.set_cons_zero, List.set_cons_succ]
    refine wpAnyH_ready (rs := [8]) (by as_aux_lemma => kernel_rfl) (by simp) (AllReadyH.cons rfl (fun K hK => ?_) AllReadyH.nil)
    go_simp
    have HPT := put_any (y) (min (y + z) e0) (s + 1 + 1) (s + 1) W5.heap.size s v (acc) A1 (H1.out.kept HZA1.out) (HQ0.out.bd (by have := HPL.out; omega)) (by omega) (by omega) (by have := HS5.out; omega) (by have := HS5.out; omega) (Nat.le_succ s) (by have := HS5.out; omega) (Nat.le_trans HSW.out HZA1.out.size)
    unfold PutPost at HPT
    refine HPT.mono ?_
    clear HPT
    rintro _ u1 ⟨⟨x, rfl⟩, ⟨vu1, hpu1, hgu1⟩, hfu1, hku1⟩
    have hSu1 : Xb u1 B (y, z) ∧ Xb u1 s (e0, e1) ∧ Boxed u1 (s + 1 + 1 + 1) 44 (.func (.func 21) #[] #[.pointer (some ⟨s + 1 + 1, 0, none⟩)]) := ⟨(hku1 B (Nat.lt_of_lt_of_le HBL.out HZA1.out.size) HNB.out HNE.out).trans hSA1.1, hfu1.keep hSA1.2.1 (by have := HS5.out; omega) (by omega), hfu1.keep hSA1.2.2 (by have := HS5.out; omega) (by omega)⟩
    refine hK.out _ _ hSu1 (fun _ => ?_)
    clear hK K
    refine wpAnyH_done (by as_aux_lemma => kernel_rfl) ?_ _
    refine hK0 _ _ ?_
    have HPU := hid hpu1
    have HNE2 : Hid (some B ≠ vu1.ownBlock) := fun e => (hgu1 B e.symm).elim (fun h => HNE.out h.symm) (fun h => by have := HBL.out; have := HZA1.out.size; omega)
    have HFU := hid ((Fb.below (T := fun i => i = s + 1) (n₀ := s) (base := W5.heap.size) HZA1.out (by have := HS5.out; omega) HSW.out).trans hfu1)
    have HSU := hid hSu1
    have HWU : Hid (W5.heap.size ≤ u1.heap.size) := Nat.le_trans HSW.out HFU.out.bel.size
    clear hK0 K0 hpu1 hfu1 hku1 hgu1 hSu1 hSA0 hSA1 HZA0 HZA1 hbA1 H1 H2 H3 HX HNE
    gi_wp2_with fail
    refine Go.wpIn_mono (Q := Exit.then (fun _ V => Fb s W5.heap.size (fun i => i = s + 1) W V ∧ (∃ v, Pu V (s + 1 + 1) (s + 1) W5.heap.size v ((pre ++ [(y, z)]).foldl (woutS (e0, e1)) [])) ∧ Xb V s (e0, e1) ∧ Boxed V (s + 1 + 1 + 1) 44 (.func (.func 21) #[] #[.pointer (some ⟨s + 1 + 1, 0, none⟩)])) (fun _ _ _ => False)) ?_ (fun e a' w' h => by cases e <;> first | exact h | exact h.elim)
    refine round_held (S := fun V => Xb V B (y, z) ∧ Xb V s (e0, e1) ∧ Boxed V (s + 1 + 1 + 1) 44 (.func (.func 21) #[] #[.pointer (some ⟨s + 1 + 1, 0, none⟩)])) (by kernel_rfl) (by kernel_rfl) (fun _ _ h => h) HSU.out (fun hSC0 => ?_)
    have HZC0 : Hid (Below u1.heap.size u1 u1.drew) := (Below.refl _ u1).drew
    refine Ord.take (i := 0) (d := 22) (v := ?vC0) rfl rfl (by as_aux_lemma => kernel_rfl) (by as_aux_lemma => kernel_rfl) (by as_aux_lemma => kernel_rfl) (fun _ _ _ h => h) (by rfl) ?hC0 (by assumption) ?_
    case hC0 => intro w hSw; have e := hSw.2.2.cell; go_simp; try with_reducible rfl
    simp only [List.setIfInBounds_toArray, List.set_cons_zero, List.set_cons_succ]
    refine Ord.take (i := 1) (d := 23) (v := ?vC1) rfl rfl (by as_aux_lemma => kernel_rfl) (by as_aux_lemma => kernel_rfl) (by as_aux_lemma => kernel_rfl) (fun _ _ _ h => h) (by rfl) ?hC1 (by assumption) ?_
    case hC1 => intro w hSw; go_simp; try with_reducible rfl
    simp only [List.setIfInBounds_toArray, List.set_cons_zero, List.set_cons_succ]
    refine Ord.take (i := 2) (d := 24) (v := .int .i64 y) rfl rfl (by as_aux_lemma => kernel_rfl) (by as_aux_lemma => kernel_rfl) (by as_aux_lemma => kernel_rfl) (fun _ _ _ h => h) (by rfl) ?hC2 (by assumption) ?_
    case hC2 => intro w hSw; have e := hSw.1.cells.1; have e' := hSw.1.cells.2; go_simp; try with_reducible rfl
    simp only [List.setIfInBounds_toArray, List.set_cons_zero, List.set_cons_succ]
    refine Ord.take (i := 3) (d := 25) (v := .agg #[.int .i64 e0, .int .i64 e1]) rfl rfl (by as_aux_lemma => kernel_rfl) (by as_aux_lemma => kernel_rfl) (by as_aux_lemma => kernel_rfl) (fun _ _ _ h => h) (by rfl) ?hC3 (by assumption) ?_
    case hC3 => intro w hSw; have e := hSw.2.1.cells.1; have e' := hSw.2.1.cells.2; go_simp; try with_reducible rfl
    simp only [List.setIfInBounds_toArray, List.set_cons_zero, List.set_cons_succ]
    refine Ord.take (i := 6) (d := 28) (v := .agg #[.int .i64 y, .int .i64 z]) rfl rfl (by as_aux_lemma => kernel_rfl) (by as_aux_lemma => kernel_rfl) (by as_aux_lemma => kernel_rfl) (fun _ _ _ h => h) (by rfl) ?hC6 (by assumption) ?_
    case hC6 => intro w hSw; have e := hSw.1.cells.1; have e' := hSw.1.cells.2; go_simp; try with_reducible rfl
    simp only [List.setIfInBounds_toArray, List.set_cons_zero, List.set_cons_succ]
    refine wpAnyH_ready (rs := [4]) (by as_aux_lemma => kernel_rfl) (by simp) (AllReadyH.cons rfl (fun K hK => ?_) AllReadyH.nil)
    go_simp
    refine (HEE.out _).mono ?_
    rintro _ C1 ⟨rfl, hbC1⟩
    have hSC1 : Xb C1 B (y, z) ∧ Xb C1 s (e0, e1) ∧ Boxed C1 (s + 1 + 1 + 1) 44 (.func (.func 21) #[] #[.pointer (some ⟨s + 1 + 1, 0, none⟩)]) := ⟨hSC0.1.later hbC1, hSC0.2.1.later hbC1, box_later hSC0.2.2 hbC1⟩
    have HZC1 := hid (Below.trans HZC0.out (hbC1.mono HZC0.out.size))
    refine hK.out _ _ hSC1 (fun _ => ?_)
    clear hK K
    try simp only [List.setIfInBounds_toArray, List.set_cons_zero, List.set_cons_succ]
    refine Ord.take (i := 5) (d := 27) (v := .int .i64 (max y (e0 + e1))) rfl rfl (by as_aux_lemma => kernel_rfl) (by as_aux_lemma => kernel_rfl) (by as_aux_lemma => kernel_rfl) (fun _ _ _ h => h) (by rfl) ?hC5 (by assumption) ?_
    case hC5 => intro w hSw; go_simp; split <;> omega
    simp only [List.setIfInBounds_toArray, List.set_cons_zero, List.set_cons_succ]
    refine wpAnyH_ready (rs := [7]) (by as_aux_lemma => kernel_rfl) (by simp) (AllReadyH.cons rfl (fun K hK => ?_) AllReadyH.nil)
    go_simp
    refine (HEX.out _).mono ?_
    rintro _ C2 ⟨rfl, hbC2⟩
    have hSC2 : Xb C2 B (y, z) ∧ Xb C2 s (e0, e1) ∧ Boxed C2 (s + 1 + 1 + 1) 44 (.func (.func 21) #[] #[.pointer (some ⟨s + 1 + 1, 0, none⟩)]) := ⟨hSC1.1.later hbC2, hSC1.2.1.later hbC2, box_later hSC1.2.2 hbC2⟩
    have HZC2 := hid (Below.trans HZC1.out (hbC2.mono HZC1.out.size))
    refine hK.out _ _ hSC2 (fun _ => ?_)
    clear hK K
    try simp only [List.setIfInBounds_toArray, List.set_cons_zero, List.set_cons_succ]
    refine wpAnyH_ready (rs := [8]) (by as_aux_lemma => kernel_rfl) (by simp) (AllReadyH.cons rfl (fun K hK => ?_) AllReadyH.nil)
    go_simp
    have HPT := put_any (max y (e0 + e1)) (y + z) (s + 1 + 1) (s + 1) W5.heap.size s vu1 (putL acc y (min (y + z) e0)) C2 (HPU.out.kept HZC2.out) (HQ.out.bd HPL.out) (by omega) (by omega) (by have := HS5.out; omega) (by have := HS5.out; omega) (Nat.le_succ s) (by have := HS5.out; omega) (Nat.le_trans HWU.out HZC2.out.size)
    unfold PutPost at HPT
    refine HPT.mono ?_
    clear HPT
    rintro _ u2 ⟨⟨x, rfl⟩, ⟨vu2, hpu2, hgu2⟩, hfu2, hku2⟩
    have hSu2 : Xb u2 B (y, z) ∧ Xb u2 s (e0, e1) ∧ Boxed u2 (s + 1 + 1 + 1) 44 (.func (.func 21) #[] #[.pointer (some ⟨s + 1 + 1, 0, none⟩)]) := ⟨(hku2 B (Nat.lt_of_lt_of_le HBL.out (Nat.le_trans HFU.out.bel.size HZC2.out.size)) HNB.out HNE2.out).trans hSC2.1, hfu2.keep hSC2.2.1 (by have := HS5.out; omega) (by omega), hfu2.keep hSC2.2.2 (by have := HS5.out; omega) (by omega)⟩
    refine hK.out _ _ hSu2 (fun _ => ?_)
    clear hK K
    refine wpAnyH_done (by as_aux_lemma => kernel_rfl) ?_ _
    have HPV := hid hpu2
    have HFV := hid (HFU.out.trans ((Fb.below (T := fun i => i = s + 1) (n₀ := s) (base := W5.heap.size) HZC2.out (by have := HS5.out; omega) HWU.out).trans hfu2))
    have HSV : Hid (Xb u2 s (e0, e1) ∧ Boxed u2 (s + 1 + 1 + 1) 44 (.func (.func 21) #[] #[.pointer (some ⟨s + 1 + 1, 0, none⟩)])) := ⟨hfu2.keep hSC2.2.1 (by have := HS5.out; omega) (by omega), hfu2.keep hSC2.2.2 (by have := HS5.out; omega) (by omega)⟩
    refine ⟨HFV.out, ⟨vu2, ?_⟩, HSV.out.1, HSV.out.2⟩
    rw [HSN.out]
    exact HPV.out
  case done =>
    rintro D W hD ⟨⟨v, h1⟩, h2, h3⟩ hB hd
    rw [flat_one] at h1
    have c1 := h1.box.cell
    have HP1 := hid h1
    have HD := hid hd
    have HHS := hid hs
    have HS5 := hid hsz5
    have HDD := hid hD
    have HFB := hid ((HXB.out.mono (by omega)).trans hB)
    clear hd h1 h2 h3 hs hsz5 hB hD HX0 HX1 HX2 HX3 HX4 HX5
    gi_wp2_with fail
    refine ⟨by simp, .inl ⟨_, _, rfl, run_takeDeferred HD.out, ?_⟩⟩
    have hs := HHS.out
    have := HDD.out
    have := HS5.out
    refine ⟨_, results_tmp rfl _ _ _, v, rfl, ?_, ?_⟩
    · exact own_base (ownsRow_putObj HP1.out.own _ HD.out rfl) (by omega)
    · rw [← hs]
      exact HFB.out.trans (belowK_b (w := w) (by omega) _ D _ _ (by omega) HD.out rfl rfl)
  case stop =>
    rintro D c pre W _ _ h _ _
    exact h.elim
end Go.Proofs.Ytkfoeijhhfaceab
