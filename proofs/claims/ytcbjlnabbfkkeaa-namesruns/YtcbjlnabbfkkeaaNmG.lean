/-
  A record done: the contract of Apply.
-/
import Derived.Test.YtcbjlnabbfkkeaaNmF
namespace Go.Proofs.Ytcbjlnabbfkkeaa
open Go.ChangeShapes Go.WideShapes Go.ChangeAt Go.RowKit Go.Deep Go.Lib

/-- What a record makes of the files M. -/
def AppR (r : Rec) (M M' : List Fl) : Prop :=
  if mayE M r = 0 then (if r.kind = 2 then ∃ f : Fl, M' = putM M f ∧ f.path = r.path ∧ f.seq = r.seq ∧ f.ps = r.ps ∧ f.size = sumP r.ps else if r.kind = 3 then M' = delM M r.path else M' = M) else M' = M
theorem may_zero {M : List Fl} {r : Rec} (h : mayE M r = 0) : mayB r = true ∧ (r.kind = 3 → (fnd M r.path).isSome = true) ∧ (r.kind = 2 → (fnd M r.path).isSome = true ∨ M.length < 1024) := by
  unfold mayE mayG at h
  by_cases h1 : mayB r = false
  · rw [if_pos h1] at h; cases h
  · rw [if_neg h1] at h
    have hb : mayB r = true := by simpa using h1
    by_cases h2 : r.kind = 3 ∧ (fnd M r.path).isSome = false
    · rw [if_pos h2] at h; cases h
    · rw [if_neg h2] at h
      by_cases h3 : r.kind = 2 ∧ (fnd M r.path).isSome = false ∧ 1024 ≤ M.length
      · rw [if_pos h3] at h; cases h
      · refine ⟨hb, fun hk => ?_, fun hk => ?_⟩
        · cases hq : (fnd M r.path).isSome with
          | true => rfl
          | false => exact absurd ⟨hk, hq⟩ h2
        · cases hq : (fnd M r.path).isSome with
          | true => exact .inl rfl
          | false =>
            right
            by_cases hc : 1024 ≤ M.length
            · exact absurd ⟨hk, hq, hc⟩ h3
            · omega
theorem Nm.cellG {B : Nat} {W W' : World} {n g : Nat} {M : List Fl} (h : Nm B W n g M) (hg : W.grownBy W' (some g)) : W'.cell? ⟨n, 0, none⟩ = some (.map (some g)) := by
  rw [World.cell?_of_block (w' := W') (w := W) (hg.block n h.lt.1 (fun e => h.ne (by injection e)))]
  exact h.cell
theorem wp_mapUpdate_W {P : Program} {o : Oper} {a : Act} {w : World} {K : Act → World → Prop} {Q : Exit → Act → World → Prop} (t : TypeId) (m x v : Operand) (ho : o.op = .mapUpdate t m x v) (hd : o.dst = none) (W' : World)
    (hr : (Instr.mapUpdate t (a.eval m) (a.eval x) (a.eval v)).run P w = .ok () W') (h : K a W') : o.wp P a w K Q := by
  unfold Oper.wp execOp
  simp [ho, hr, Result.andThen, Oper.upon]
  rw [hd]
  exact h
set_option maxHeartbeats 3200000 in
set_option maxRecDepth 100000 in
theorem apply_no (W : World) (v : Value) (r : Rec) (h : Nob W v) (hl : r.prev.length = 32) : Calls Try.prog 13 #[v, .agg r.cs.toArray] W fun e w' => e = .returned (.int .i64 4) ∧ Below W.heap.size W w' := by
  have HB := hid (bel_alc W (.cells r.cs.toArray 36))
  have HLD := hid (Bx.mk' W r hl).range
  have HLL := hid (Rec.cs_len hl)
  have HN := hid (may_no _ v r (h.later HB.out))
  clear h
  go_enter Try.func13, Try.ntmps13
  go_wp2_with (first | refine wpList_load_g rfl 36 _ rfl W.heap.size 0 rfl r.cs _ HLD.out Try.underlying36 rfl (by rw [HLL.out]; exact Try.size36) ?_ | fail)
  refine HN.out.mono ?_
  rintro _ W1 ⟨rfl, hb⟩
  have HB1 := hid (Bn HB.out hb)
  clear hb HN HLD
  go_wp2
  go_ret
  exact ⟨rfl, HB1.out⟩
set_option maxHeartbeats 6400000 in
set_option maxRecDepth 100000 in
theorem apply_word (W : World) (n g : Nat) (M : List Fl) (B : Nat) (h : Nm B W n g M) (r : Rec) (hr : Rv W r) (hB : B ≤ W.heap.size) :
    Calls Try.prog 13 #[.pointer (some ⟨n, 0, none⟩), .agg r.cs.toArray] W fun e w' => e = .returned (.int .i64 (mayE M r)) ∧ ∃ M', Nm B w' n g M' ∧ AppR r M M' ∧ W.grownBy w' (some g) := by
  have HB := hid (bel_alc W (.cells r.cs.toArray 36))
  have HX := hid (Bx.mk' W r hr.len)
  have HLL := hid (Rec.cs_len hr.len)
  have HNm := hid (h.later HB.out)
  have HRV := hid (hr.later HB.out)
  have HBB := hid hB
  have HGL := hid h.lt.2
  have HMY := hid (may_names _ n g M B (h.later HB.out) r (hr.later HB.out) hr.path)
  have HLD := hid HX.out.range
  have HPA := hid hr.path
  obtain ⟨E, hE⟩ : ∃ E, E = mayE M r := ⟨_, rfl⟩
  have HE := hid hE
  rw [← hE] at HMY ⊢
  have HZ : Hid (∀ w, (zeroValue 77).run Try.prog w = .ok (.agg flZ.cs.toArray) w) := Try.zero77
  clear h hr hE hB
  go_enter Try.func13, Try.ntmps13
  go_wp2_with (first | refine wpList_load_g rfl 36 _ rfl W.heap.size 0 rfl r.cs _ HLD.out Try.underlying36 rfl (by rw [HLL.out]; exact Try.size36) ?_ | fail)
  refine HMY.out.mono ?_
  rintro _ W1 ⟨rfl, hb1⟩
  have HB1 := hid (HB.out.trans (hb1.mono HB.out.size))
  have HX1 := hid (HX.out.later hb1)
  have HNm1 := hid (HNm.out.later hb1)
  have HRV1 := hid (HRV.out.later hb1)
  clear hb1 HMY HX HNm HLD HB HRV
  by_cases hE0 : E = 0
  · have HM0 := hid (may_zero (HE.out.symm.trans hE0))
    subst hE0
    have c34 := HX1.out.c34
    by_cases h2 : r.kind = 2
    · rw [h2] at c34
      have HK := hid h2
      have HPW := hid (put_word r W1 HRV1.out HM0.out.1 h2)
      have HL1 := hid HX1.out.range
      clear h2
      go_wp2_with (first | refine wpList_load_g rfl 36 _ rfl W.heap.size 0 rfl r.cs _ HL1.out Try.underlying36 rfl (by rw [HLL.out]; exact Try.size36) ?_ | fail)
      refine HPW.out.mono ?_
      rintro _ W2 ⟨f, rfl, hfo, hfa, hf1, hf2, hf3, hb2⟩
      have HB2 := hid hb2
      have HFO := hid hfo
      have HFA := hid hfa
      have HF := hid (And.intro hf1 (And.intro hf2 hf3))
      clear hb2 hfo hfa hf1 hf2 hf3 HPW c34
      go_wp2_with (first | refine wpList_alloc_W rfl 77 rfl (some 6) rfl _ HZ.out W2.heap.size rfl ?_ | fail)
      intro W3 HG3 HB3 HS3
      go_wp2_with (first | refine wpList_store_W rfl 77 _ _ rfl rfl W2.heap.size f.cs.toArray rfl rfl 77 _ HG3.out Try.size77 rfl (Fl.one _) ?_ | fail)
      intro W4 HG4 HB4 HS4
      have HX4 : Hid (Below W1.heap.size W1 W4) := Bn HB2.out (HB3.out.trans (bel_grown HB4.out (Nat.le_refl _) HB3.out.size))
      have HY4 : Hid (Below W2.heap.size W2 W4) := HB3.out.trans (bel_grown HB4.out (Nat.le_refl _) HB3.out.size)
      have HNm4 := hid (HNm1.out.later HX4.out)
      have HFO4 := hid (HFO.out.later HY4.out)
      go_wp2_with fail
      have HNE : Hid (some W2.heap.size ≠ some g) := fun e => by injection e with e; have h1 := HNm1.out.lt.2; have h2 := HB2.out.size; omega
      refine wp_region_held_drew (S := fun V => W4.grownBy V (some g)) (by kernel_rfl) (grown_bel (Below.refl _ _).drew) (fun hS0 => ?_)
      have hB0 : Below W4.heap.size W4 W4.drew := (Below.refl _ _).drew
      generalize W4.drew = v0 at *
      simp only [List.size_toArray, List.length_cons, List.length_nil, Nat.reduceAdd]
      refine Ord.take (i := 0) (d := 19) (v := ?vA0) rfl rfl (by as_aux_lemma => kernel_rfl) (by as_aux_lemma => kernel_rfl) (by as_aux_lemma => kernel_rfl) (fun _ _ _ h => h) (by rfl) ?hA0 (by assumption) ?_
      case hA0 => intro w hSw; go_simp; try with_reducible rfl
      simp only [List.setIfInBounds_toArray, List.set_cons_zero, List.set_cons_succ]
      refine Ord.take (i := 1) (d := 20) (v := ?vA1) rfl rfl (by as_aux_lemma => kernel_rfl) (by as_aux_lemma => kernel_rfl) (by as_aux_lemma => kernel_rfl) (fun _ _ _ h => h) (by rfl) ?hA1 (by assumption) ?_
      case hA1 => intro w hSw; go_simp; try with_reducible rfl
      simp only [List.setIfInBounds_toArray, List.set_cons_zero, List.set_cons_succ]
      refine Ord.take (i := 2) (d := 21) (v := ?vA2) rfl rfl (by as_aux_lemma => kernel_rfl) (by as_aux_lemma => kernel_rfl) (by as_aux_lemma => kernel_rfl) (fun _ _ _ h => h) (by rfl) ?hA2 (by assumption) ?_
      case hA2 => intro w hSw; go_simp; try with_reducible rfl
      simp only [List.setIfInBounds_toArray, List.set_cons_zero, List.set_cons_succ]
      refine Ord.take (i := 3) (d := 22) (v := ?vA3) rfl rfl (by as_aux_lemma => kernel_rfl) (by as_aux_lemma => kernel_rfl) (by as_aux_lemma => kernel_rfl) (fun _ _ _ h => h) (by rfl) ?hA3 (by assumption) ?_
      case hA3 => intro w hSw; have hc := HNm4.out.cellG hSw; go_simp; try with_reducible rfl
      simp only [List.setIfInBounds_toArray, List.set_cons_zero, List.set_cons_succ]
      refine Ord.take (i := 4) (d := 23) (v := ?vA4) rfl rfl (by as_aux_lemma => kernel_rfl) (by as_aux_lemma => kernel_rfl) (by as_aux_lemma => kernel_rfl) (fun _ _ _ h => h) (by rfl) ?hA4 (by assumption) ?_
      case hA4 => intro w hSw; go_simp; try with_reducible rfl
      simp only [List.setIfInBounds_toArray, List.set_cons_zero, List.set_cons_succ]
      refine Ord.take (i := 5) (d := 24) (v := ?vA5) rfl rfl (by as_aux_lemma => kernel_rfl) (by as_aux_lemma => kernel_rfl) (by as_aux_lemma => kernel_rfl) (fun _ _ _ h => h) (by rfl) ?hA5 (by assumption) ?_
      case hA5 => intro w hSw; go_simp; try with_reducible rfl
      simp only [List.setIfInBounds_toArray, List.set_cons_zero, List.set_cons_succ]
      refine Ord.take (i := 6) (d := 25) (v := .string f.path) rfl rfl (by as_aux_lemma => kernel_rfl) (by as_aux_lemma => kernel_rfl) (by as_aux_lemma => kernel_rfl) (fun _ _ _ h => h) (by rfl) ?hA6 (by assumption) ?_
      case hA6 => intro w hSw; have hc : w.cell? ⟨W2.heap.size, 0, none⟩ = some (.string f.path) := (Joins.cell_of_block ((hSw.block _ (blk_lt HG4.out) HNE.out).trans HG4.out) 0).trans rfl; go_simp; try with_reducible rfl
      simp only [List.setIfInBounds_toArray, List.set_cons_zero, List.set_cons_succ]
      refine Ord.take (i := 7) (d := 26) (v := f.val) rfl rfl (by as_aux_lemma => kernel_rfl) (by as_aux_lemma => kernel_rfl) (by as_aux_lemma => kernel_rfl) (fun _ _ _ h => h) (by rfl) ?hA7 (by assumption) ?_
      case hA7 => intro w hSw; exact exec_load 77 (.tmp 6) rfl W2.heap.size 0 rfl (fl_load ((hSw.block _ (blk_lt HG4.out) HNE.out).trans HG4.out))
      simp only [List.setIfInBounds_toArray, List.set_cons_zero, List.set_cons_succ]
      refine wpAnyH_ready (rs := [8]) (by as_aux_lemma => kernel_rfl) (by simp) (AllReadyH.cons rfl (fun K hK => ?_) (AllReadyH.nil))
      obtain ⟨V1, hrun, hnm, hgr⟩ := (HNm4.out.later hB0).put f (HFO4.out.later hB0) (HFA.out.mono (Nat.le_trans HBB.out HB1.out.size)) (by rw [HF.out.1]; exact HM0.out.2.2 HK.out)
      rw [if_pos (by rfl)]
      refine wp_mapUpdate_W 67 _ _ _ rfl rfl V1 hrun ?_
      have hSV : W4.grownBy V1 (some g) := (grown_bel hB0).trans hgr
      have hSX : W.grownBy V1 (some g) := (grown_bel (HB1.out.trans (HX4.out.mono HB1.out.size))).trans hSV
      have HSX := hid hSX
      have HNV := hid hnm
      clear hrun hgr hnm hSX
      refine hK.out _ _ hSV (fun _ => ?_)
      clear hK K hSV
      try simp only [List.setIfInBounds_toArray, List.set_cons_zero, List.set_cons_succ]
      refine wpAnyH_done (by as_aux_lemma => kernel_rfl) ?_ _
      go_wp2
      go_ret
      exact ⟨rfl, _, HNV.out, by unfold AppR; rw [if_pos HE.out.symm, if_pos HK.out]; exact ⟨f, rfl, HF.out.1, HF.out.2.1, HF.out.2.2, by rw [HFO.out.size, HF.out.2.2]⟩, HSX.out⟩
    · have HK2 := hid h2
      by_cases h3 : r.kind = 3
      · rw [h3] at c34
        have HK := hid h3
        have HX1' := hid HX1.out
        clear h2 h3
        go_wp2_with fail
        refine wp_region_held_drew (S := fun V => W1.grownBy V (some g)) (by kernel_rfl) (grown_bel (Below.refl _ _).drew) (fun hS0 => ?_)
        have hB0 : Below W1.heap.size W1 W1.drew := (Below.refl _ _).drew
        generalize W1.drew = v0 at *
        simp only [List.size_toArray, List.length_cons, List.length_nil, Nat.reduceAdd]
        refine Ord.take (i := 0) (d := 29) (v := ?vB0) rfl rfl (by as_aux_lemma => kernel_rfl) (by as_aux_lemma => kernel_rfl) (by as_aux_lemma => kernel_rfl) (fun _ _ _ h => h) (by rfl) ?hB0 (by assumption) ?_
        case hB0 => intro w hSw; go_simp; try with_reducible rfl
        simp only [List.setIfInBounds_toArray, List.set_cons_zero, List.set_cons_succ]
        refine Ord.take (i := 1) (d := 30) (v := ?vB1) rfl rfl (by as_aux_lemma => kernel_rfl) (by as_aux_lemma => kernel_rfl) (by as_aux_lemma => kernel_rfl) (fun _ _ _ h => h) (by rfl) ?hB1 (by assumption) ?_
        case hB1 => intro w hSw; go_simp; try with_reducible rfl
        simp only [List.setIfInBounds_toArray, List.set_cons_zero, List.set_cons_succ]
        refine Ord.take (i := 2) (d := 31) (v := ?vB2) rfl rfl (by as_aux_lemma => kernel_rfl) (by as_aux_lemma => kernel_rfl) (by as_aux_lemma => kernel_rfl) (fun _ _ _ h => h) (by rfl) ?hB2 (by assumption) ?_
        case hB2 => intro w hSw; go_simp; try with_reducible rfl
        simp only [List.setIfInBounds_toArray, List.set_cons_zero, List.set_cons_succ]
        refine Ord.take (i := 3) (d := 32) (v := ?vB3) rfl rfl (by as_aux_lemma => kernel_rfl) (by as_aux_lemma => kernel_rfl) (by as_aux_lemma => kernel_rfl) (fun _ _ _ h => h) (by rfl) ?hB3 (by assumption) ?_
        case hB3 => intro w hSw; have hc := HNm1.out.cellG hSw; go_simp; try with_reducible rfl
        simp only [List.setIfInBounds_toArray, List.set_cons_zero, List.set_cons_succ]
        refine Ord.take (i := 4) (d := 33) (v := ?vB4) rfl rfl (by as_aux_lemma => kernel_rfl) (by as_aux_lemma => kernel_rfl) (by as_aux_lemma => kernel_rfl) (fun _ _ _ h => h) (by rfl) ?hB4 (by assumption) ?_
        case hB4 => intro w hSw; go_simp; try with_reducible rfl
        simp only [List.setIfInBounds_toArray, List.set_cons_zero, List.set_cons_succ]
        refine Ord.take (i := 5) (d := 34) (v := .string r.path) rfl rfl (by as_aux_lemma => kernel_rfl) (by as_aux_lemma => kernel_rfl) (by as_aux_lemma => kernel_rfl) (fun _ _ _ h => h) (by rfl) ?hB5 (by assumption) ?_
        case hB5 => intro w hSw; have hc : w.cell? ⟨W.heap.size, 36, none⟩ = some (.string r.path) := (by rw [World.cell?_of_block (w' := w) (w := W1) (hSw.block _ HX1.out.lt (fun e => by have e2 : W.heap.size = g := Option.some.inj e; have h1 := HGL.out; omega))]; exact HX1.out.c36); go_simp; try with_reducible rfl
        simp only [List.setIfInBounds_toArray, List.set_cons_zero, List.set_cons_succ]
        refine wpAnyH_ready (rs := [6]) (by as_aux_lemma => kernel_rfl) (by simp) (AllReadyH.cons rfl (fun K hK => ?_) (AllReadyH.nil))
        obtain ⟨V1, hrun, hnm, hgr⟩ := (HNm1.out.later hB0).del r.path HPA.out 0
        have HSV : Hid (W1.grownBy V1 (some g)) := (grown_bel hB0).trans hgr
        have HSX : Hid (W.grownBy V1 (some g)) := (grown_bel HB1.out).trans HSV.out
        have HNV := hid hnm
        clear hgr hnm
        go_simp
        refine hK.out _ _ HSV.out (fun _ => ?_)
        clear hK K hrun
        try simp only [List.setIfInBounds_toArray, List.set_cons_zero, List.set_cons_succ]
        refine wpAnyH_done (by as_aux_lemma => kernel_rfl) ?_ _
        go_wp2
        go_ret
        exact ⟨rfl, _, HNV.out, by unfold AppR; rw [if_pos HE.out.symm, if_neg HK2.out, if_pos HK.out], HSX.out⟩
      · have HK := hid h3
        go_wp2
        go_ret
        exact ⟨rfl, _, HNm1.out, by unfold AppR; rw [if_pos HE.out.symm, if_neg HK2.out, if_neg HK.out], grown_bel HB1.out⟩
  · have HE1 := hid hE0
    go_wp2
    go_ret
    exact ⟨rfl, _, HNm1.out, by unfold AppR; rw [if_neg (by rw [← HE.out]; exact HE1.out)], grown_bel HB1.out⟩
end Go.Proofs.Ytcbjlnabbfkkeaa
