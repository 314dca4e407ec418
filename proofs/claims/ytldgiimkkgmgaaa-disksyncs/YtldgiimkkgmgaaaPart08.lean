/-
  The document's Sync.
-/
import Derived.Test.YtldgiimkkgmgaaaPart07
namespace Go.Proofs.Ytldgiimkkgmgaaa
open Go.RowKit

/-- A block of a document's device is set. -/
theorem RowL.set {W : World} {base n g c : Nat} {L : Int → List Int} (h : RowL W base (.slice (some ⟨g, 0, none⟩) n c) n L) (j : Nat) (hj : j < n) (y : Value) (b : List Int) (hy : Bk W y b) : RowL (W.setCell ⟨g, j, none⟩ y) base (.slice (some ⟨g, 0, none⟩) n c) n (setI L (j : Int) b) ∧ (∀ i, i ≠ g → (W.setCell ⟨g, j, none⟩ y).heap[i]? = W.heap[i]?) ∧ FrD base W (W.setCell ⟨g, j, none⟩ y) := by
  obtain ⟨xs, h1, h2⟩ := h
  have hl : xs.length = n := by rw [h1.1]; omega
  obtain ⟨hb, cs, hg⟩ := own_at h1 (q := g) rfl
  have ho : ∀ i, i ≠ g → (W.setCell ⟨g, j, none⟩ y).heap[i]? = W.heap[i]? := fun i hi => Below.heap_setCell W ⟨g, j, none⟩ y i hi
  have h5 : ∀ (i : Nat) (cs' : Array Value) (fr : Nat × Nat), W.heap[i]? = some (.cells cs' 5 fr) → (W.setCell ⟨g, j, none⟩ y).heap[i]? = some (.cells cs' 5 fr) := fun i cs' fr hi => (ho i (by rintro rfl; rw [hg] at hi; simp at hi)).trans hi
  refine ⟨⟨xs.set j y, (h1.stored j y).1, fun i hi => ?_⟩, ho, FrD.one hg (.inr (.inl rfl)) hb ho ((Below.refl 0 W).setCell (Nat.zero_le _) y)⟩
  by_cases e : i = j
  · subst e
    rw [setI_same, show (xs.set i y).getD i nilV = y from by simp [List.getD, List.getElem?_set_self (show i < xs.length by omega)]]
    exact hy.keep h5
  · rw [setI_ne _ _ (by omega), show (xs.set j y).getD i nilV = xs.getD i nilV from by simp [List.getD, List.getElem?_set_ne (Ne.symm e)]]
    exact (h2 i hi).keep h5
theorem Rv.setL {W : World} {base gr n g c : Nat} {vW : Value} {L : Int → List Int} {O : List (Int × List Int)} {f : Int} (h : Rv W base gr (.slice (some ⟨g, 0, none⟩) n c) vW n L O f) (j : Nat) (hj : j < n) (y : Value) (b : List Int) (hy : Bk W y b) : Rv (W.setCell ⟨g, j, none⟩ y) base gr (.slice (some ⟨g, 0, none⟩) n c) vW n (setI L (j : Int) b) O f ∧ FrD base W (W.setCell ⟨g, j, none⟩ y) := by
  obtain ⟨h1, h2, h3⟩ := h.rowL.set j hj y b hy
  have hg : ∃ cs, W.heap[g]? = some (.cells cs 33 (0, 0)) := by obtain ⟨xs, h9, _⟩ := h.rowL; exact (own_at h9 (q := g) rfl).2
  obtain ⟨cs, hg⟩ := hg
  have hk : ∀ (i : Nat) (cs' : Array Value) (t : TypeId) (fr : Nat × Nat), t ≠ 33 → W.heap[i]? = some (.cells cs' t fr) → (W.setCell ⟨g, j, none⟩ y).heap[i]? = some (.cells cs' t fr) := fun i cs' t fr ht hi => (h2 i (by rintro rfl; rw [hg] at hi; injection hi with hi; injection hi with _ hi; exact ht hi.symm)).trans hi
  exact ⟨⟨hk _ _ 62 _ (by decide) h.blk, h1, h.rowW.keep (fun i cs' => hk i cs' 87 _ (by decide)) (fun i cs' fr => hk i cs' 5 fr (by decide)), h.okO, h.okF, h.okN, h.bg⟩, h3⟩
def RsPost (base gr : Nat) (vL : Value) (n : Nat) (L : Int → List Int) (O : List (Int × List Int)) (f : Int) (w : World) (e : Ending) (w' : World) : Prop :=
  e = .returned (.tuple #[.int .i64 (syN f O : Int), .int .i64 (burnE f)]) ∧ (∃ vW', Rv w' base gr vL vW' n (syL f L O) (syO f O) (burnF f)) ∧ FrD base w w'
set_option maxHeartbeats 6400000 in
set_option maxRecDepth 100000 in
theorem rsync_ref (base gr n : Nat) (vL vW : Value) (L : Int → List Int) (O : List (Int × List Int)) (f : Int) (w : World) (k : Rv w base gr vL vW n L O f) (hO : O.length ≤ 60000) :
    Calls Try.prog 27 #[.pointer (some ⟨gr, 0, none⟩)] w (RsPost base gr vL n L O f w) := by
  unfold RsPost
  have HPW := hid (power_ref base gr n vL vW L O f w k)
  obtain ⟨_, _, c2, _, _⟩ := k.blk.cells
  by_cases hf : f = 0
  · rw [show syL f L O = L from if_pos hf, show syO f O = O from if_pos hf, show syN f O = 0 from if_pos hf, show burnE f = 92 from if_pos hf]
    rw [show decide (f ≠ 0) = false from by simpa using hf] at HPW
    clear k hf
    go_enter Try.func27, Try.ntmps27
    go_wp2_with fail
    refine HPW.out.mono ?_
    rintro _ w2 ⟨rfl, hd, hfr⟩
    have HD := hid hd
    have HFR := hid hfr
    clear HPW hd hfr c2
    go_wp2_with fail
    go_ret2
    exact ⟨rfl, ⟨_, HD.out⟩, HFR.out⟩
  rw [show syL f L O = holdF L O from if_neg hf, show syO f O = [] from if_neg hf, show syN f O = O.length from if_neg hf, show burnE f = 0 from if_neg hf]
  rw [show decide (f ≠ 0) = true from by simpa using hf] at HPW
  obtain ⟨gL, cL, rfl, hcl1, hcl2, _, _, _⟩ := k.rowL.at (by have := k.okN; omega)
  obtain ⟨aW, cW, rfl⟩ := k.rowW.slice
  obtain ⟨m, hm⟩ : ∃ m, m = O.length := ⟨_, rfl⟩
  have HM := hid hm
  rw [← hm] at HPW hO ⊢
  unfold maxLen at hcl2
  clear k hf hm
  go_enter Try.func27, Try.ntmps27
  go_wp2_with fail
  refine HPW.out.mono ?_
  rintro _ w2 ⟨rfl, hd, hfr⟩
  have HD := hid hd
  have HFR := hid hfr
  obtain ⟨_, c1, _, _, _⟩ := hd.blk.cells
  clear HPW hd hfr c2
  go_wp2_with fail
  go_loopw [5] (fun j wr => ∃ q : Nat, j = .int .i64 (q : Int) ∧ q ≤ m ∧ Hid (Rv wr base gr (.slice (some ⟨gL, 0, none⟩) n cL) (.slice aW m cW) n (holdF L (O.take q)) O (burnF f)) ∧ Hid (FrD base w wr)) (fun j _ => m - (intOf j).toNat)
  case atStart => exact ⟨0, rfl, Nat.zero_le _, HD.out, HFR.out⟩
  case round =>
    clear HD HFR c1
    obtain ⟨q, rfl, hq, HD, HFR⟩ := hrel
    by_cases hlt : q < m
    · have hz : (q : Int) < (m : Int) := by omega
      have hzz : (0 : Int) ≤ (q : Int) := by omega
      obtain ⟨gW, cW', e, hw1, hw2, _, _, hwa⟩ := HD.out.rowW.at (by rw [← HM.out]; omega)
      rw [← HM.out] at e hw1
      cases e
      obtain ⟨d1, y, d2, hky⟩ := hwa q (by rw [← HM.out]; exact hlt)
      obtain ⟨gy, cy, hyv, _⟩ := hky.ri
      subst hyv
      have hmem := HD.out.okO _ (getD_mem (O := O) (k := q) (by rw [← HM.out]; exact hlt))
      have HSN := hid (show holdF L (O.take (q + 1)) = setI (holdF L (O.take q)) (O.getD q (0, [])).1 (O.getD q (0, [])).2 from by rw [take_snoc O q (by rw [← HM.out]; exact hlt), hold_snoc])
      have HST : Hid (∀ W, (∀ i : Nat, W.heap[i]? = wr.heap[i]?) → Bk W (.slice (some ⟨gy, 0, none⟩) 512 cy) (O.getD q (0, [])).2) := fun W hW => hky.keep (fun i cs fr hi => (hW i).trans hi)
      clear hwa hky
      generalize O.getD q (0, []) = x at *
      obtain ⟨xi, xb⟩ := x
      dsimp only at *
      obtain ⟨xn, rfl⟩ : ∃ z : Nat, xi = (z : Int) := ⟨xi.toNat, by omega⟩
      have hxn : xn < n := by omega
      have hxz : (xn : Int) < (n : Int) := by omega
      have hxz0 : (0 : Int) ≤ (xn : Int) := by omega
      have hcx : ∃ u, wr.cell? ⟨gL, xn, none⟩ = some u ∧ wr.frozen? ⟨gL, xn, none⟩ = false := by
        obtain ⟨g', c', e, _, _, _, ⟨cs, hg'⟩, h9⟩ := HD.out.rowL.at (by omega)
        cases e
        obtain ⟨u, hu, _⟩ := h9 xn hxn
        exact ⟨u, hu, Joins.unfrozen_of_block hg' _⟩
      obtain ⟨u9, hu9, hf9⟩ := hcx
      have HSE : Hid (∀ W, Rv W base gr (.slice (some ⟨gL, 0, none⟩) n cL) (.slice (some ⟨gW, 0, none⟩) m cW) n (holdF L (O.take q)) O (burnF f) → (∀ i : Nat, W.heap[i]? = wr.heap[i]?) → Rv (W.setCell ⟨gL, xn, none⟩ (.slice (some ⟨gy, 0, none⟩) 512 cy)) base gr (.slice (some ⟨gL, 0, none⟩) n cL) (.slice (some ⟨gW, 0, none⟩) m cW) n (holdF L (O.take (q + 1))) O (burnF f) ∧ FrD base W (W.setCell ⟨gL, xn, none⟩ (.slice (some ⟨gy, 0, none⟩) 512 cy))) := fun W h1 h2 => by
        rw [HSN.out]
        exact h1.setL xn hxn (.slice (some ⟨gy, 0, none⟩) 512 cy) xb (HST.out W h2)
      go_wp2_with fail
      refine OrdE.region (fun W => Rc W gr (.slice (some ⟨gL, 0, none⟩) n cL) (.slice (some ⟨gW, 0, none⟩) m cW) false (burnF f) ∧ W.cell? ⟨gW, q * 2, none⟩ = some (.int .i64 (xn : Int)) ∧ W.cell? ⟨gW, q * 2 + 1, none⟩ = some (.slice (some ⟨gy, 0, none⟩) 512 cy)) 21 (by kernel_rfl) (show Rc wr.drew gr (.slice (some ⟨gL, 0, none⟩) n cL) (.slice (some ⟨gW, 0, none⟩) m cW) false (burnF f) ∧ wr.drew.cell? ⟨gW, q * 2, none⟩ = some (.int .i64 (xn : Int)) ∧ wr.drew.cell? ⟨gW, q * 2 + 1, none⟩ = some (.slice (some ⟨gy, 0, none⟩) 512 cy) from ⟨HD.out.blk, d1, d2⟩) (fun hSS => ?_)
      have HDD : Hid (Rv wr.drew base gr (.slice (some ⟨gL, 0, none⟩) n cL) (.slice (some ⟨gW, 0, none⟩) m cW) n (holdF L (O.take q)) O (burnF f)) := ⟨HD.out.blk, HD.out.rowL, HD.out.rowW, HD.out.okO, HD.out.okF, HD.out.okN, HD.out.bg⟩
      obtain ⟨hse1, hse2⟩ := HSE.out wr.drew HDD.out (fun _ => rfl)
      have HFD : Hid (FrD base w wr.drew) := HFR.out.drew
      have hu9' : wr.drew.cell? ⟨gL, xn, none⟩ = some u9 := hu9
      have hf9' : wr.drew.frozen? ⟨gL, xn, none⟩ = false := hf9
      have HS1 := hid hse1
      have HS2 := hid (HFD.out.trans hse2)
      clear HD HFR HDD HFD HSE HST HSN hse1 hse2 d1 d2 hu9 hf9
      generalize wr.drew = v0 at *
      refine OrdE.take (i := 0) (d := 23) (v := ?va0) rfl rfl rfl (by as_aux_lemma => kernel_rfl) (by as_aux_lemma => kernel_rfl) (by as_aux_lemma => kernel_rfl) (by as_aux_lemma => kernel_rfl) (fun _ _ _ h => h) (by rfl) ?ha0 (by assumption) ?_
      case ha0 => intro w hSw; go_simp; try with_reducible rfl
      simp only [List.setIfInBounds_toArray, List.set_cons_zero, List.set_cons_succ]
      refine OrdE.take (i := 1) (d := 24) (v := ?va1) rfl rfl rfl (by as_aux_lemma => kernel_rfl) (by as_aux_lemma => kernel_rfl) (by as_aux_lemma => kernel_rfl) (by as_aux_lemma => kernel_rfl) (fun _ _ _ h => h) (by rfl) ?ha1 (by assumption) ?_
      case ha1 => intro w hSw; go_simp; try with_reducible rfl
      simp only [List.setIfInBounds_toArray, List.set_cons_zero, List.set_cons_succ]
      refine OrdE.take (i := 2) (d := 25) (v := ?va2) rfl rfl rfl (by as_aux_lemma => kernel_rfl) (by as_aux_lemma => kernel_rfl) (by as_aux_lemma => kernel_rfl) (by as_aux_lemma => kernel_rfl) (fun _ _ _ h => h) (by rfl) ?ha2 (by assumption) ?_
      case ha2 => intro w hSw; go_simp; try with_reducible rfl
      simp only [List.setIfInBounds_toArray, List.set_cons_zero, List.set_cons_succ]
      refine OrdE.take (i := 3) (d := 26) (v := .slice (some ⟨gL, 0, none⟩) n cL) rfl rfl rfl (by as_aux_lemma => kernel_rfl) (by as_aux_lemma => kernel_rfl) (by as_aux_lemma => kernel_rfl) (by as_aux_lemma => kernel_rfl) (fun _ _ _ h => h) (by rfl) ?ha3 (by assumption) ?_
      case ha3 => intro w hSw; obtain ⟨q0, q1, q2, q3, q4⟩ := hSw.1.cells; go_simp; try with_reducible rfl
      simp only [List.setIfInBounds_toArray, List.set_cons_zero, List.set_cons_succ]
      refine OrdE.take (i := 4) (d := 27) (v := ?va4) rfl rfl rfl (by as_aux_lemma => kernel_rfl) (by as_aux_lemma => kernel_rfl) (by as_aux_lemma => kernel_rfl) (by as_aux_lemma => kernel_rfl) (fun _ _ _ h => h) (by rfl) ?ha4 (by assumption) ?_
      case ha4 => intro w hSw; go_simp; try with_reducible rfl
      simp only [List.setIfInBounds_toArray, List.set_cons_zero, List.set_cons_succ]
      refine OrdE.take (i := 5) (d := 28) (v := ?va5) rfl rfl rfl (by as_aux_lemma => kernel_rfl) (by as_aux_lemma => kernel_rfl) (by as_aux_lemma => kernel_rfl) (by as_aux_lemma => kernel_rfl) (fun _ _ _ h => h) (by rfl) ?ha5 (by assumption) ?_
      case ha5 => intro w hSw; go_simp; try with_reducible rfl
      simp only [List.setIfInBounds_toArray, List.set_cons_zero, List.set_cons_succ]
      refine OrdE.take (i := 6) (d := 29) (v := ?va6) rfl rfl rfl (by as_aux_lemma => kernel_rfl) (by as_aux_lemma => kernel_rfl) (by as_aux_lemma => kernel_rfl) (by as_aux_lemma => kernel_rfl) (fun _ _ _ h => h) (by rfl) ?ha6 (by assumption) ?_
      case ha6 => intro w hSw; go_simp; try with_reducible rfl
      simp only [List.setIfInBounds_toArray, List.set_cons_zero, List.set_cons_succ]
      refine OrdE.take (i := 7) (d := 30) (v := .slice (some ⟨gW, 0, none⟩) m cW) rfl rfl rfl (by as_aux_lemma => kernel_rfl) (by as_aux_lemma => kernel_rfl) (by as_aux_lemma => kernel_rfl) (by as_aux_lemma => kernel_rfl) (fun _ _ _ h => h) (by rfl) ?ha7 (by assumption) ?_
      case ha7 => intro w hSw; obtain ⟨q0, q1, q2, q3, q4⟩ := hSw.1.cells; go_simp; try with_reducible rfl
      simp only [List.setIfInBounds_toArray, List.set_cons_zero, List.set_cons_succ]
      refine OrdE.take (i := 8) (d := 31) (v := ?va8) rfl rfl rfl (by as_aux_lemma => kernel_rfl) (by as_aux_lemma => kernel_rfl) (by as_aux_lemma => kernel_rfl) (by as_aux_lemma => kernel_rfl) (fun _ _ _ h => h) (by rfl) ?ha8 (by assumption) ?_
      case ha8 => intro w hSw; go_simp; try with_reducible rfl
      simp only [List.setIfInBounds_toArray, List.set_cons_zero, List.set_cons_succ]
      refine OrdE.take (i := 9) (d := 32) (v := .pointer (some ⟨gW, q * 2, none⟩)) rfl rfl rfl (by as_aux_lemma => kernel_rfl) (by as_aux_lemma => kernel_rfl) (by as_aux_lemma => kernel_rfl) (by as_aux_lemma => kernel_rfl) (fun _ _ _ h => h) (by rfl) ?ha9 (by assumption) ?_
      case ha9 => intro w hSw; go_simp; try with_reducible rfl
      simp only [List.setIfInBounds_toArray, List.set_cons_zero, List.set_cons_succ]
      refine OrdE.take (i := 10) (d := 33) (v := ?va10) rfl rfl rfl (by as_aux_lemma => kernel_rfl) (by as_aux_lemma => kernel_rfl) (by as_aux_lemma => kernel_rfl) (by as_aux_lemma => kernel_rfl) (fun _ _ _ h => h) (by rfl) ?ha10 (by assumption) ?_
      case ha10 => intro w hSw; go_simp; try with_reducible rfl
      simp only [List.setIfInBounds_toArray, List.set_cons_zero, List.set_cons_succ]
      refine OrdE.take (i := 11) (d := 34) (v := .int .i64 (xn : Int)) rfl rfl rfl (by as_aux_lemma => kernel_rfl) (by as_aux_lemma => kernel_rfl) (by as_aux_lemma => kernel_rfl) (by as_aux_lemma => kernel_rfl) (fun _ _ _ h => h) (by rfl) ?ha11 (by assumption) ?_
      case ha11 => intro w hSw; have q9 := hSw.2.1; go_simp; try with_reducible rfl
      simp only [List.setIfInBounds_toArray, List.set_cons_zero, List.set_cons_succ]
      refine OrdE.take (i := 12) (d := 35) (v := ?va12) rfl rfl rfl (by as_aux_lemma => kernel_rfl) (by as_aux_lemma => kernel_rfl) (by as_aux_lemma => kernel_rfl) (by as_aux_lemma => kernel_rfl) (fun _ _ _ h => h) (by rfl) ?ha12 (by assumption) ?_
      case ha12 => intro w hSw; go_simp; try with_reducible rfl
      simp only [List.setIfInBounds_toArray, List.set_cons_zero, List.set_cons_succ]
      refine OrdE.take (i := 13) (d := 36) (v := ?va13) rfl rfl rfl (by as_aux_lemma => kernel_rfl) (by as_aux_lemma => kernel_rfl) (by as_aux_lemma => kernel_rfl) (by as_aux_lemma => kernel_rfl) (fun _ _ _ h => h) (by rfl) ?ha13 (by assumption) ?_
      case ha13 => intro w hSw; go_simp; try with_reducible rfl
      simp only [List.setIfInBounds_toArray, List.set_cons_zero, List.set_cons_succ]
      refine OrdE.take (i := 14) (d := 37) (v := ?va14) rfl rfl rfl (by as_aux_lemma => kernel_rfl) (by as_aux_lemma => kernel_rfl) (by as_aux_lemma => kernel_rfl) (by as_aux_lemma => kernel_rfl) (fun _ _ _ h => h) (by rfl) ?ha14 (by assumption) ?_
      case ha14 => intro w hSw; go_simp; try with_reducible rfl
      simp only [List.setIfInBounds_toArray, List.set_cons_zero, List.set_cons_succ]
      refine OrdE.take (i := 15) (d := 38) (v := .slice (some ⟨gW, 0, none⟩) m cW) rfl rfl rfl (by as_aux_lemma => kernel_rfl) (by as_aux_lemma => kernel_rfl) (by as_aux_lemma => kernel_rfl) (by as_aux_lemma => kernel_rfl) (fun _ _ _ h => h) (by rfl) ?ha15 (by assumption) ?_
      case ha15 => intro w hSw; obtain ⟨q0, q1, q2, q3, q4⟩ := hSw.1.cells; go_simp; try with_reducible rfl
      simp only [List.setIfInBounds_toArray, List.set_cons_zero, List.set_cons_succ]
      refine OrdE.take (i := 16) (d := 39) (v := ?va16) rfl rfl rfl (by as_aux_lemma => kernel_rfl) (by as_aux_lemma => kernel_rfl) (by as_aux_lemma => kernel_rfl) (by as_aux_lemma => kernel_rfl) (fun _ _ _ h => h) (by rfl) ?ha16 (by assumption) ?_
      case ha16 => intro w hSw; go_simp; try with_reducible rfl
      simp only [List.setIfInBounds_toArray, List.set_cons_zero, List.set_cons_succ]
      refine OrdE.take (i := 17) (d := 40) (v := .pointer (some ⟨gW, q * 2, none⟩)) rfl rfl rfl (by as_aux_lemma => kernel_rfl) (by as_aux_lemma => kernel_rfl) (by as_aux_lemma => kernel_rfl) (by as_aux_lemma => kernel_rfl) (fun _ _ _ h => h) (by rfl) ?ha17 (by assumption) ?_
      case ha17 => intro w hSw; go_simp; try with_reducible rfl
      simp only [List.setIfInBounds_toArray, List.set_cons_zero, List.set_cons_succ]
      refine OrdE.take (i := 18) (d := 41) (v := .pointer (some ⟨gW, q * 2 + 1, none⟩)) rfl rfl rfl (by as_aux_lemma => kernel_rfl) (by as_aux_lemma => kernel_rfl) (by as_aux_lemma => kernel_rfl) (by as_aux_lemma => kernel_rfl) (fun _ _ _ h => h) (by rfl) ?ha18 (by assumption) ?_
      case ha18 => intro w hSw; go_simp; try with_reducible rfl
      simp only [List.setIfInBounds_toArray, List.set_cons_zero, List.set_cons_succ]
      refine OrdE.take (i := 19) (d := 42) (v := (.slice (some ⟨gy, 0, none⟩) 512 cy)) rfl rfl rfl (by as_aux_lemma => kernel_rfl) (by as_aux_lemma => kernel_rfl) (by as_aux_lemma => kernel_rfl) (by as_aux_lemma => kernel_rfl) (fun _ _ _ h => h) (by rfl) ?ha19 (by assumption) ?_
      case ha19 => intro w hSw; have q9 := hSw.2.2; go_simp; try with_reducible rfl
      simp only [List.setIfInBounds_toArray, List.set_cons_zero, List.set_cons_succ]
      refine OrdE.one (i := 20) (by as_aux_lemma => kernel_rfl) rfl (fun K hK => ?_)
      go_simp
      refine hK.out _ _ (fun _ => hSS) ?_
      clear hK K
      try refine OrdE.put (d := 43) rfl ?_
      try simp only [List.setIfInBounds_toArray, List.set_cons_zero, List.set_cons_succ]
      refine OrdE.one (i := 21) (by as_aux_lemma => kernel_rfl) rfl (fun K hK => ?_)
      go_simp
      refine hK.out _ _ (fun h => absurd rfl h) ?_
      clear hK K
      try simp only [List.setIfInBounds_toArray, List.set_cons_zero, List.set_cons_succ]
      refine OrdE.done (by as_aux_lemma => kernel_rfl) ?_ _
      clear hSS hu9' hf9'
      go_wp2_with fail
      exact ⟨⟨q + 1, by go_num, hlt, HS1, HS2⟩, by simp only [intOf]; omega⟩
    · have hqn : q = m := by omega
      subst hqn
      have hz : ¬ (q : Int) < (q : Int) := by omega
      rw [show O.take q = O from by rw [HM.out, List.take_length]] at HD
      have f1 := HD.out.blk.unfrozen 1
      obtain ⟨_, c1, _, _, _⟩ := HD.out.blk.cells
      have HFIN : Hid (Rv (wr.setCell ⟨gr, 1, none⟩ (.slice none 0 0)) base gr (.slice (some ⟨gL, 0, none⟩) n cL) (.slice none 0 0) n (holdF L O) [] (burnF f) ∧ FrD base w (wr.setCell ⟨gr, 1, none⟩ (.slice none 0 0))) := by
        obtain ⟨h5, h6⟩ := rc_set HD.out.blk HD.out.bg 1 (.slice none 0 0)
        obtain ⟨h7, _⟩ := HD.out.rows 1 (.slice none 0 0)
        exact ⟨⟨HD.out.blk.put.2.1 _, h7, ⟨[], ⟨rfl, .inl ⟨rfl, rfl⟩⟩, rfl, fun k hk => absurd hk (Nat.not_lt_zero _)⟩, fun _ hx => absurd hx List.not_mem_nil, HD.out.okF, HD.out.okN, HD.out.bg⟩, HFR.out.trans h6⟩
      clear HD HFR
      go_wp2_with fail
      go_ret2
      exact ⟨rfl, ⟨_, HFIN.out.1⟩, HFIN.out.2⟩
end Go.Proofs.Ytldgiimkkgmgaaa
