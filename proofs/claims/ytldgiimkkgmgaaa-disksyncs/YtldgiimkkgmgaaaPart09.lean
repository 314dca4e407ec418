/-
  The document's Rot.
-/
import Derived.Test.YtldgiimkkgmgaaaPart08
namespace Go.Proofs.Ytldgiimkkgmgaaa
open Go.RowKit

theorem own_eq {W W' : World} {base e s k g n c : Nat} {xs : List Value} (h : W.ownsRow base e s (.slice (some ⟨g, 0, none⟩) n c) k xs) (hk : W'.heap[g]? = W.heap[g]?) : W'.ownsRow base e s (.slice (some ⟨g, 0, none⟩) n c) k xs := by
  rcases h with ⟨h1, ⟨h2, _⟩ | ⟨gg, cp, cur, h3, h4, h5, h6⟩⟩
  · cases h2
  · cases h3
    exact ⟨h1, .inr ⟨g, c, cur, rfl, h4, hk.trans h5, h6⟩⟩
/-- All that there was but one block is as it was. -/
def Old (g : Nat) (W W' : World) : Prop := Below 0 W W' ∧ ∀ (j : Nat) (o : Obj), W.heap[j]? = some o → j ≠ g → W'.heap[j]? = some o
theorem Old.frd {g base : Nat} {W W' : World} {cs : Array Value} {t : TypeId} (h : Old g W W') (hg : W.heap[g]? = some (.cells cs t (0, 0))) (ht : t = 33 ∨ t = 87) (hb : base ≤ g) (hs : base ≤ W.heap.size) : FrD base W W' := by
  refine ⟨⟨h.1.os, h.1.tape, h.1.output, h.1.size, fun i hi => ?_⟩, fun i o hi hk => h.2 i o hi ?_⟩
  · have hi2 : i < W.heap.size := Nat.lt_of_lt_of_le hi hs
    rw [Array.getElem?_eq_getElem hi2]
    exact h.2 i _ (Array.getElem?_eq_getElem hi2) (by omega)
  · rintro rfl
    rw [hg] at hi
    cases hi
    have := hk cs t (0, 0) rfl
    rcases ht with rfl | rfl <;> simp at this
theorem Rv.rotL {V W : World} {base gr n gL cL : Nat} {vW : Value} {L : Int → List Int} {O : List (Int × List Int)} {f : Int} (h : Rv V base gr (.slice (some ⟨gL, 0, none⟩) n cL) vW n L O f) (i g9 c9 : Nat) (hi : i < n) (ho : Old gL V W) (hr : W.heap[gL]? = (V.setCell ⟨gL, i, none⟩ (.slice (some ⟨g9, 0, none⟩) 512 c9)).heap[gL]?) (b : List Int) (hb : Bk W (.slice (some ⟨g9, 0, none⟩) 512 c9) b) :
    Rv W base gr (.slice (some ⟨gL, 0, none⟩) n cL) vW n (setI L (i : Int) b) O f ∧ FrD base V W := by
  obtain ⟨xs, h1, h2⟩ := h.rowL
  have hl : xs.length = n := by rw [h1.1]; omega
  obtain ⟨hbs, cs, hg⟩ := own_at h1 (q := gL) rfl
  have hk : ∀ (j : Nat) (cs' : Array Value) (t : TypeId) (fr : Nat × Nat), t ≠ 33 → V.heap[j]? = some (.cells cs' t fr) → W.heap[j]? = some (.cells cs' t fr) := fun j cs' t fr ht hj => ho.2 j _ hj (by rintro rfl; rw [hg] at hj; injection hj with hj; injection hj with _ hj; exact ht hj.symm)
  refine ⟨⟨hk _ _ 62 _ (by decide) h.blk, ⟨xs.set i (.slice (some ⟨g9, 0, none⟩) 512 c9), own_eq (h1.stored i _).1 hr, fun j hj => ?_⟩, h.rowW.keep (fun j cs' => hk j cs' 87 _ (by decide)) (fun j cs' fr => hk j cs' 5 fr (by decide)), h.okO, h.okF, h.okN, h.bg⟩, ho.frd hg (.inl rfl) hbs h.size⟩
  by_cases e : j = i
  · subst e
    rw [setI_same, show (xs.set j (.slice (some ⟨g9, 0, none⟩) 512 c9)).getD j nilV = .slice (some ⟨g9, 0, none⟩) 512 c9 from by simp [List.getD, List.getElem?_set_self (show j < xs.length by omega)]]
    exact hb
  · rw [setI_ne _ _ (by omega), show (xs.set i (.slice (some ⟨g9, 0, none⟩) 512 c9)).getD j nilV = xs.getD j nilV from by simp [List.getD, List.getElem?_set_ne (Ne.symm e)]]
    exact (h2 j hj).keep (fun i cs fr => hk i cs 5 fr (by decide))
theorem Rv.rotW {V W : World} {base gr n gW cW : Nat} {vL : Value} {L : Int → List Int} {O : List (Int × List Int)} {f : Int} (h : Rv V base gr vL (.slice (some ⟨gW, 0, none⟩) O.length cW) n L O f) (q g9 c9 : Nat) (hq : q < O.length) (ho : Old gW V W) (hr : W.heap[gW]? = (V.setCell ⟨gW, q * 2 + 1, none⟩ (.slice (some ⟨g9, 0, none⟩) 512 c9)).heap[gW]?) (x : Int × List Int) (hx : x.1 = (O.getD q (0, [])).1) (hb : Bk W (.slice (some ⟨g9, 0, none⟩) 512 c9) x.2) :
    Rv W base gr vL (.slice (some ⟨gW, 0, none⟩) O.length cW) n L (O.set q x) f ∧ FrD base V W := by
  obtain ⟨ys, h1, h2, h3⟩ := h.rowW
  obtain ⟨hbs, cs, hg⟩ := own_at h1 (q := gW) rfl
  have hk : ∀ (j : Nat) (cs' : Array Value) (t : TypeId) (fr : Nat × Nat), t ≠ 87 → V.heap[j]? = some (.cells cs' t fr) → W.heap[j]? = some (.cells cs' t fr) := fun j cs' t fr ht hj => ho.2 j _ hj (by rintro rfl; rw [hg] at hj; injection hj with hj; injection hj with _ hj; exact ht hj.symm)
  have hf : (O.set q x).map (·.1) = O.map (·.1) := by
    rw [List.map_set]
    have hq' : q < (O.map (·.1)).length := by simpa using hq
    have e2 : (O.map (·.1))[q] = x.1 := by rw [hx]; simp [List.getD, List.getElem?_eq_getElem hq]
    rw [← e2, List.set_getElem_self]
  refine ⟨⟨hk _ _ 62 _ (by decide) h.blk, h.rowL.keep (fun j cs' => hk j cs' 33 _ (by decide)) (fun j cs' fr => hk j cs' 5 fr (by decide)), ⟨ys.set q (.slice (some ⟨g9, 0, none⟩) 512 c9), ?_, by rw [List.length_set, List.length_set]; exact h2, fun j hj => ?_⟩, fun y hy => ?_, h.okF, h.okN, h.bg⟩, ho.frd hg (.inr rfl) hbs h.size⟩
  · rw [List.length_set, wC_fst _ O _ hf, ← wC_set O ys h2 q _ hq]
    exact own_eq (h1.stored _ _).1 hr
  · rw [List.length_set] at hj
    by_cases e : j = q
    · subst e
      rw [show (ys.set j (.slice (some ⟨g9, 0, none⟩) 512 c9)).getD j nilV = .slice (some ⟨g9, 0, none⟩) 512 c9 from by simp [List.getD, List.getElem?_set_self (show j < ys.length by omega)], show (O.set j x).getD j (0, []) = x from by simp [List.getD, List.getElem?_set_self hj]]
      exact hb
    · rw [show (ys.set q (.slice (some ⟨g9, 0, none⟩) 512 c9)).getD j nilV = ys.getD j nilV from by simp [List.getD, List.getElem?_set_ne (Ne.symm e)], show (O.set q x).getD j (0, []) = O.getD j (0, []) from by simp [List.getD, List.getElem?_set_ne (Ne.symm e)]]
      exact (h3 j hj).keep (fun i cs fr => hk i cs 5 fr (by decide))
  · rcases List.mem_or_eq_of_mem_set hy with h9 | rfl
    · exact h.okO y h9
    · have := h.okO _ (getD_mem hq)
      rw [← hx] at this
      exact this
/-- A byte of a row of one's own is set. -/
theorem bk_set {W : World} {g9 c9 a : Nat} {cs : Array Value} {b : List Int} (h : W.heap[g9]? = some (.cells cs 5 (0, 0))) (hc1 : 512 ≤ c9) (hc2 : c9 ≤ maxLen) (ht : cs.toList.take 512 = bytesV b) (hb : Blk b) (y : Int) (hy : 0 ≤ y ∧ y ≤ 255) : Bk (W.setCell ⟨g9, a, none⟩ (.int .u8 y)) (.slice (some ⟨g9, 0, none⟩) 512 c9) (b.set a y) := by
  refine ⟨g9, c9, _, (0, 0), rfl, hc1, hc2, Joins.block_setCell h _, ?_, by rw [List.length_set]; exact hb.len, fun z hz => ?_⟩
  · rw [Array.toList_setIfInBounds, List.take_set, ht]
    unfold bytesV
    rw [List.map_set]
  · rcases List.mem_or_eq_of_mem_set hz with h1 | rfl
    · exact hb.fits z h1
    · exact hy
/-- A fresh copy of a row: append([]byte{}, row...), its second step. -/
theorem wp_fresh (v0 : World) {o : Oper} {ac : Act} {KK : Act → World → Prop} {Q : Exit → Act → World → Prop} (s x : Operand) (ho : o.op = .call { callee := .builtin .append, args := #[s, x], argTypes := #[33, 33] })
    (hs : ac.eval s = .slice (some ⟨v0.heap.size, 0, none⟩) 0 0) (y : Value) (b : List Int) (hx : ac.eval x = y) (hb : Bk v0 y b)
    (h : ∀ g9 c9 cs w2, w2.heap[g9]? = some (.cells cs 5 (0, 0)) → v0.heap.size ≤ g9 → 512 ≤ c9 → c9 ≤ maxLen → cs.toList.take 512 = bytesV b → Below v0.heap.size v0 w2 → KK (ac.put o.dst (.slice (some ⟨g9, 0, none⟩) 512 c9)) w2) : o.wp Try.prog ac (v0.alloc (.cells #[] 5)) KK Q := by
  obtain ⟨i0, hi0, hz0, hz1, hz2⟩ := info_parts Try.info5c
  obtain ⟨g, c, hy, hr⟩ := hb.ri
  subst hy
  have hbl := hb.blk
  have hA := bel_alloc v0 (.cells #[] 5)
  refine wp_append_own (v0.alloc (.cells #[] 5)) s x 33 ho v0.heap.size 5 i0 (.int .u8 0) 1 1 Try.underlying33 hi0 hz0 hz1 hz2 rfl (by decide) _ 0 [] hs (new_own v0 v0.heap.size (Nat.le_refl _)) ⟨g, 0, none⟩ 512 c (bytesV b) hx (by rw [bytesV_len, hbl.len]) (fun j u hu => ?_) (bytesV_one b) (by unfold maxLen; omega) (by omega) hA.size (fun v' w' h1 h2 _ => ?_)
  · have hj : j < b.length := by have := (List.getElem?_eq_some_iff.1 hu).1; rwa [bytesV_len] at this
    obtain ⟨b', off, e, _, hc⟩ := (hr.later hA).cells (by omega)
    cases e
    rw [Go.WideShapes.add_plain, hc j hj, ← hu]
    exact (arr_at' hj).symm
  · have hbw := hA.trans (bel_grown (new_own v0 v0.heap.size (Nat.le_refl _)) h2 hA.size)
    rcases h1.2 with ⟨_, h0⟩ | ⟨g9, c9, cs, rfl, h4, h5, h6, h7, _, h9⟩
    · omega
    · rw [List.nil_append] at h9
      rw [show 0 + 512 = 512 from rfl] at h6 h9 ⊢
      exact h g9 c9 cs w' h5 h4 h6 h7 (by simpa using h9) hbw
def RroPost (base gr : Nat) (vL vW : Value) (n : Nat) (L : Int → List Int) (O : List (Int × List Int)) (f i : Int) (a : Nat) (m : Int) (w w' : World) : Prop := Rv w' base gr vL vW n (setI L i (xorL a m (L i))) (rotO i a m O) f ∧ FrD base w w'
set_option maxHeartbeats 6400000 in
set_option maxRecDepth 100000 in
theorem rrot_ref (base gr n : Nat) (vL vW : Value) (L : Int → List Int) (O : List (Int × List Int)) (f i at_ mk : Int) (w : World) (k : Rv w base gr vL vW n L O f) (hi : 0 ≤ i ∧ i < (n : Int)) (ha : 0 ≤ at_ ∧ at_ < 512) (hmk : 0 ≤ mk ∧ mk ≤ 255) (hO : O.length ≤ 60000) :
    Calls Try.prog 29 #[.pointer (some ⟨gr, 0, none⟩), .int .i64 i, .int .i64 at_, .int .u8 mk] w fun e w' => e = .returned (.int .i64 0) ∧ RroPost base gr vL vW n L O f i at_.toNat mk w w' := by
  unfold RroPost
  have HA := hid (asked_ref base gr n vL vW L O f i w k)
  rw [show hasE (n : Int) i = 0 from if_pos hi] at HA
  obtain ⟨i1, i2⟩ := hi
  obtain ⟨iN, rfl⟩ : ∃ z : Nat, i = (z : Int) := ⟨i.toNat, by omega⟩
  obtain ⟨an, rfl⟩ : ∃ z : Nat, at_ = (z : Int) := ⟨at_.toNat, by omega⟩
  rw [Int.toNat_natCast]
  obtain ⟨a1, a2⟩ := ha
  have han : an < 512 := by omega
  have a3 : ¬ (an : Int) < 0 := by omega
  have a4 : ¬ 512 ≤ (an : Int) := by omega
  have hiN : iN < n := by omega
  have HK := hid k
  obtain ⟨gL, cL, rfl, hcl1, hcl2, _, ⟨csL, hgL⟩, hat⟩ := k.rowL.at (by have := k.okN; omega)
  unfold maxLen at hcl2
  obtain ⟨x0, hx0, hb0⟩ := hat iN hiN
  obtain ⟨gx, cx, hxv, _⟩ := hb0.ri
  subst hxv
  obtain ⟨aW, cW, rfl⟩ := k.rowW.slice
  have HB0 := hid hb0
  have hu0 := Joins.unfrozen_of_block hgL iN
  have HGL := hid hgL
  obtain ⟨m, hm⟩ : ∃ m, m = O.length := ⟨_, rfl⟩
  have HM := hid hm
  rw [← hm] at HK hO ⊢
  clear k hat hb0 hgL hm
  go_enter Try.func29, Try.ntmps29
  go_wp2_with fail
  refine HA.out.mono ?_
  rintro _ w1 ⟨rfl, hw⟩
  obtain rfl := hw.symm
  clear hw HA
  go_wp2_with fail
  refine OrdE.region (fun W => Rc W gr (.slice (some ⟨gL, 0, none⟩) n cL) (.slice aW m cW) false f ∧ W.cell? ⟨gL, iN, none⟩ = some (.slice (some ⟨gx, 0, none⟩) 512 cx)) 15 (by kernel_rfl) (show Rc w.drew gr (.slice (some ⟨gL, 0, none⟩) n cL) (.slice aW m cW) false f ∧ w.drew.cell? ⟨gL, iN, none⟩ = some (.slice (some ⟨gx, 0, none⟩) 512 cx) from ⟨HK.out.blk, hx0⟩) (fun hSS => ?_)
  have HKD : Hid (Rv w.drew base gr (.slice (some ⟨gL, 0, none⟩) n cL) (.slice aW m cW) n L O f) := ⟨HK.out.blk, HK.out.rowL, HK.out.rowW, HK.out.okO, HK.out.okF, HK.out.okN, HK.out.bg⟩
  have HFD : Hid (FrD base w w.drew) := (FrD.refl _ _).drew
  have HBD : Hid (Bk w.drew (.slice (some ⟨gx, 0, none⟩) 512 cx) (L (iN : Int))) := HB0.out
  have HGD : Hid (w.drew.heap[gL]? = some (.cells csL 33 (0, 0))) := HGL.out
  clear HK HB0 HGL hx0 hu0
  generalize w.drew = v0 at *
  refine OrdE.take (i := 0) (d := 23) (v := ?va0) rfl rfl rfl (by as_aux_lemma => kernel_rfl) (by as_aux_lemma => kernel_rfl) (by as_aux_lemma => kernel_rfl) (by as_aux_lemma => kernel_rfl) (fun _ _ _ h => h) (by rfl) ?ha0 (by assumption) ?_
  case ha0 => intro w hSw; go_simp; try with_reducible rfl
  simp only [List.setIfInBounds_toArray, List.set_cons_zero, List.set_cons_succ]
  refine OrdE.take (i := 1) (d := 24) (v := ?va1) rfl rfl rfl (by as_aux_lemma => kernel_rfl) (by as_aux_lemma => kernel_rfl) (by as_aux_lemma => kernel_rfl) (by as_aux_lemma => kernel_rfl) (fun _ _ _ h => h) (by rfl) ?ha1 (by assumption) ?_
  case ha1 => intro w hSw; go_simp; try with_reducible rfl
  simp only [List.setIfInBounds_toArray, List.set_cons_zero, List.set_cons_succ]
  refine OrdE.take (i := 2) (d := 25) (v := ?va2) rfl rfl rfl (by as_aux_lemma => kernel_rfl) (by as_aux_lemma => kernel_rfl) (by as_aux_lemma => kernel_rfl) (by as_aux_lemma => kernel_rfl) (fun _ _ _ h => h) (by rfl) ?ha2 (by assumption) ?_
  case ha2 => intro w hSw; go_simp; try with_reducible rfl
  simp only [List.setIfInBounds_toArray, List.set_cons_zero, List.set_cons_succ]
  refine OrdE.take (i := 3) (d := 26) (v := .slice (some ⟨gL, 0, none⟩) n cL) rfl rfl rfl (by as_aux_lemma => kernel_rfl) (by as_aux_lemma => kernel_rfl) (by as_aux_lemma => kernel_rfl) (by as_aux_lemma => kernel_rfl) (fun _ _ _ h => h) (by rfl) ?ha3 (by assumption) ?_
  case ha3 => intro w hSw; obtain ⟨q0, q1, q2, q3, q4⟩ := hSw.1.cells; go_simp; try with_reducible rfl
  simp only [List.setIfInBounds_toArray, List.set_cons_zero, List.set_cons_succ]
  refine OrdE.take (i := 4) (d := 27) (v := ?va4) rfl rfl rfl (by as_aux_lemma => kernel_rfl) (by as_aux_lemma => kernel_rfl) (by as_aux_lemma => kernel_rfl) (by as_aux_lemma => kernel_rfl) (fun _ _ _ h => h) (by rfl) ?ha4 (by assumption) ?_
  case ha4 => intro w hSw; go_simp; try with_reducible rfl
  simp only [List.setIfInBounds_toArray, List.set_cons_zero, List.set_cons_succ]
  refine OrdE.take (i := 6) (d := 29) (v := ?va6) rfl rfl rfl (by as_aux_lemma => kernel_rfl) (by as_aux_lemma => kernel_rfl) (by as_aux_lemma => kernel_rfl) (by as_aux_lemma => kernel_rfl) (fun _ _ _ h => h) (by rfl) ?ha6 (by assumption) ?_
  case ha6 => intro w hSw; go_simp; try with_reducible rfl
  simp only [List.setIfInBounds_toArray, List.set_cons_zero, List.set_cons_succ]
  refine OrdE.take (i := 7) (d := 30) (v := ?va7) rfl rfl rfl (by as_aux_lemma => kernel_rfl) (by as_aux_lemma => kernel_rfl) (by as_aux_lemma => kernel_rfl) (by as_aux_lemma => kernel_rfl) (fun _ _ _ h => h) (by rfl) ?ha7 (by assumption) ?_
  case ha7 => intro w hSw; go_simp; try with_reducible rfl
  simp only [List.setIfInBounds_toArray, List.set_cons_zero, List.set_cons_succ]
  refine OrdE.take (i := 8) (d := 31) (v := ?va8) rfl rfl rfl (by as_aux_lemma => kernel_rfl) (by as_aux_lemma => kernel_rfl) (by as_aux_lemma => kernel_rfl) (by as_aux_lemma => kernel_rfl) (fun _ _ _ h => h) (by rfl) ?ha8 (by assumption) ?_
  case ha8 => intro w hSw; go_simp; try with_reducible rfl
  simp only [List.setIfInBounds_toArray, List.set_cons_zero, List.set_cons_succ]
  refine OrdE.take (i := 9) (d := 32) (v := .slice (some ⟨gL, 0, none⟩) n cL) rfl rfl rfl (by as_aux_lemma => kernel_rfl) (by as_aux_lemma => kernel_rfl) (by as_aux_lemma => kernel_rfl) (by as_aux_lemma => kernel_rfl) (fun _ _ _ h => h) (by rfl) ?ha9 (by assumption) ?_
  case ha9 => intro w hSw; obtain ⟨q0, q1, q2, q3, q4⟩ := hSw.1.cells; go_simp; try with_reducible rfl
  simp only [List.setIfInBounds_toArray, List.set_cons_zero, List.set_cons_succ]
  refine OrdE.take (i := 10) (d := 33) (v := ?va10) rfl rfl rfl (by as_aux_lemma => kernel_rfl) (by as_aux_lemma => kernel_rfl) (by as_aux_lemma => kernel_rfl) (by as_aux_lemma => kernel_rfl) (fun _ _ _ h => h) (by rfl) ?ha10 (by assumption) ?_
  case ha10 => intro w hSw; go_simp; try with_reducible rfl
  simp only [List.setIfInBounds_toArray, List.set_cons_zero, List.set_cons_succ]
  refine OrdE.take (i := 11) (d := 34) (v := .pointer (some ⟨gL, iN, none⟩)) rfl rfl rfl (by as_aux_lemma => kernel_rfl) (by as_aux_lemma => kernel_rfl) (by as_aux_lemma => kernel_rfl) (by as_aux_lemma => kernel_rfl) (fun _ _ _ h => h) (by rfl) ?ha11 (by assumption) ?_
  case ha11 => intro w hSw; go_simp; try with_reducible rfl
  simp only [List.setIfInBounds_toArray, List.set_cons_zero, List.set_cons_succ]
  refine OrdE.take (i := 12) (d := 35) (v := .slice (some ⟨gx, 0, none⟩) 512 cx) rfl rfl rfl (by as_aux_lemma => kernel_rfl) (by as_aux_lemma => kernel_rfl) (by as_aux_lemma => kernel_rfl) (by as_aux_lemma => kernel_rfl) (fun _ _ _ h => h) (by rfl) ?ha12 (by assumption) ?_
  case ha12 => intro w hSw; have q9 := hSw.2; go_simp; try with_reducible rfl
  simp only [List.setIfInBounds_toArray, List.set_cons_zero, List.set_cons_succ]
  refine OrdE.one (i := 5) (by as_aux_lemma => kernel_rfl) rfl (fun K hK => ?_)
  go_simp
  have hA : Below v0.heap.size v0 (v0.alloc (.cells #[] 5)) := bel_alloc v0 _
  have hS5 : Rc (v0.alloc (.cells #[] 5)) gr (.slice (some ⟨gL, 0, none⟩) n cL) (.slice aW m cW) false f ∧ (v0.alloc (.cells #[] 5)).cell? ⟨gL, iN, none⟩ = some (.slice (some ⟨gx, 0, none⟩) 512 cx) := ⟨(hA.block gr hSS.1.lt).trans hSS.1, (hA.cell (p := ⟨gL, iN, none⟩) (Array.getElem?_eq_some_iff.1 HGD.out).1).trans hSS.2⟩
  refine hK.out _ _ (fun _ => hS5) ?_
  clear hK K
  try refine OrdE.put (d := 28) rfl ?_
  try simp only [List.setIfInBounds_toArray, List.set_cons_zero, List.set_cons_succ]
  refine OrdE.one (i := 13) (by as_aux_lemma => kernel_rfl) rfl (fun K hK => ?_)
  rw [if_pos (by rfl)]
  refine wp_fresh v0 (.tmp 28) (.tmp 35) rfl rfl (.slice (some ⟨gx, 0, none⟩) 512 cx) (L (iN : Int)) rfl HBD.out (fun g9 c9 cs v2 hg9 hge hc1 hc2 htk hb2 => ?_)
  have hS6 : Rc v2 gr (.slice (some ⟨gL, 0, none⟩) n cL) (.slice aW m cW) false f ∧ v2.cell? ⟨gL, iN, none⟩ = some (.slice (some ⟨gx, 0, none⟩) 512 cx) := ⟨(hb2.block gr hSS.1.lt).trans hSS.1, (hb2.cell (p := ⟨gL, iN, none⟩) (Array.getElem?_eq_some_iff.1 HGD.out).1).trans hSS.2⟩
  refine hK.out _ _ (fun _ => hS6) ?_
  clear hK K
  try refine OrdE.put (d := 36) rfl ?_
  try simp only [List.setIfInBounds_toArray, List.set_cons_zero, List.set_cons_succ]
  refine OrdE.one (i := 14) (by as_aux_lemma => kernel_rfl) rfl (fun K hK => ?_)
  go_simp
  refine hK.out _ _ (fun _ => hS6) ?_
  clear hK K
  try refine OrdE.put (d := 37) rfl ?_
  try simp only [List.setIfInBounds_toArray, List.set_cons_zero, List.set_cons_succ]
  have yc := hS6.2
  have yf : v2.frozen? ⟨gL, iN, none⟩ = false := Joins.unfrozen_of_block ((hb2.block gL (Array.getElem?_eq_some_iff.1 HGD.out).1).trans HGD.out) iN
  refine OrdE.one (i := 15) (by as_aux_lemma => kernel_rfl) rfl (fun K hK => ?_)
  go_simp
  refine hK.out _ _ (fun h => absurd rfl h) ?_
  clear hK K
  try simp only [List.setIfInBounds_toArray, List.set_cons_zero, List.set_cons_succ]
  refine OrdE.done (by as_aux_lemma => kernel_rfl) ?_ _
  have HCO : Hid (v0.cell? ⟨gL, iN, none⟩ = some (.slice (some ⟨gx, 0, none⟩) 512 cx)) := hSS.2
  have hng : g9 ≠ gL := fun e => by have := (Array.getElem?_eq_some_iff.1 HGD.out).1; omega
  have HOL : Hid (Old gL v0 (v2.setCell ⟨gL, iN, none⟩ (.slice (some ⟨g9, 0, none⟩) 512 c9))) := ⟨(hb2.mono (Nat.zero_le _)).setCell (Nat.zero_le _) _, fun j o hj hne => (Below.heap_setCell v2 ⟨gL, iN, none⟩ _ j hne).trans ((hb2.block j (Array.getElem?_eq_some_iff.1 hj).1).trans hj)⟩
  have HRX : Hid ((v2.setCell ⟨gL, iN, none⟩ (.slice (some ⟨g9, 0, none⟩) 512 c9)).heap[gL]? = (v0.setCell ⟨gL, iN, none⟩ (.slice (some ⟨g9, 0, none⟩) 512 c9)).heap[gL]?) := by
    show _ = _
    rw [Joins.block_setCell ((hb2.block gL (Array.getElem?_eq_some_iff.1 HGD.out).1).trans HGD.out) _, Joins.block_setCell HGD.out _]
  have H96 : Hid ((v2.setCell ⟨gL, iN, none⟩ (.slice (some ⟨g9, 0, none⟩) 512 c9)).heap[g9]? = some (.cells cs 5 (0, 0))) := (Below.heap_setCell v2 ⟨gL, iN, none⟩ _ g9 hng).trans hg9
  have HRC6 : Hid (Rc (v2.setCell ⟨gL, iN, none⟩ (.slice (some ⟨g9, 0, none⟩) 512 c9)) gr (.slice (some ⟨gL, 0, none⟩) n cL) (.slice aW m cW) false f) := (Below.heap_setCell v2 ⟨gL, iN, none⟩ _ gr (fun e => by have h1 := hS6.1; unfold Rc at h1; have h2 := (hb2.block gL (Array.getElem?_eq_some_iff.1 HGD.out).1).trans HGD.out; have e' : gr = gL := e; rw [← e', h1] at h2; simp at h2)).trans hS6.1
  have HCX : Hid ((v2.setCell ⟨gL, iN, none⟩ (.slice (some ⟨g9, 0, none⟩) 512 c9)).cell? ⟨gL, iN, none⟩ = some (.slice (some ⟨g9, 0, none⟩) 512 c9)) := by
    have h1 := HRX.out
    have h2 := Joins.block_setCell HGD.out (i := iN) (.slice (some ⟨g9, 0, none⟩) 512 c9)
    have h4 := h1.trans h2
    show _ = _
    rw [Joins.cell_of_block h4 (iN)]
    have h5 : iN < csL.size := by
      have h6 := HCO.out
      rw [Joins.cell_of_block HGD.out (iN)] at h6
      exact (Array.getElem?_eq_some_iff.1 h6).1
    simp [h5]
  have HBB := hid HBD.out.blk
  have HC1 := hid hc1
  have HC2 := hid hc2
  have HTK := hid htk
  have HGE := hid hge
  have HNG := hid hng
  clear hg9 hge hc1 hc2 htk hb2 hS5 hS6 hSS yc yf hA HBD hng
  generalize v2.setCell ⟨gL, iN, none⟩ (.slice (some ⟨g9, 0, none⟩) 512 c9) = W6 at *
  go_wp2_with fail
  obtain ⟨cB, hcB⟩ : ∃ c, c = (L (iN : Int)).getD an 0 := ⟨_, rfl⟩
  have HCE := hid hcB
  have HQ8 : Hid (0 ≤ cB ∧ cB ≤ 255) := by
    show _ ∧ _
    rw [hcB]
    exact getD_fits HBB.out an
  clear hcB
  have HCB : Hid (∀ W : World, W.heap[g9]? = some (.cells cs 5 (0, 0)) → W.cell? ⟨g9, an, none⟩ = some (.int .u8 cB)) := fun W hW => by
    rw [Joins.cell_of_block hW an]
    have e : (cs.toList.take 512)[an]? = cs[an]? := by rw [List.getElem?_take_of_lt han, Array.getElem?_toList]
    rw [← e, HTK.out, HCE.out]
    exact arr_at' (by rw [HBB.out.len]; exact han)
  refine OrdE.region (fun W => Rc W gr (.slice (some ⟨gL, 0, none⟩) n cL) (.slice aW m cW) false f ∧ W.cell? ⟨gL, iN, none⟩ = some (.slice (some ⟨g9, 0, none⟩) 512 c9) ∧ W.heap[g9]? = some (.cells cs 5 (0, 0))) 21 (by kernel_rfl) (show Rc W6.drew gr (.slice (some ⟨gL, 0, none⟩) n cL) (.slice aW m cW) false f ∧ W6.drew.cell? ⟨gL, iN, none⟩ = some (.slice (some ⟨g9, 0, none⟩) 512 c9) ∧ W6.drew.heap[g9]? = some (.cells cs 5 (0, 0)) from ⟨HRC6.out, HCX.out, H96.out⟩) (fun hSS => ?_)
  have HOL6 : Hid (Old gL v0 W6.drew) := ⟨HOL.out.1.drew, HOL.out.2⟩
  have HRX6 : Hid (W6.drew.heap[gL]? = (v0.setCell ⟨gL, iN, none⟩ (.slice (some ⟨g9, 0, none⟩) 512 c9)).heap[gL]?) := HRX.out
  clear HOL HRX HRC6 HCX H96
  generalize W6.drew = W7 at *
  have c512 : (an : Int) < 512 := by omega
  refine OrdE.take (i := 0) (d := 38) (v := ?vb0) rfl rfl rfl (by as_aux_lemma => kernel_rfl) (by as_aux_lemma => kernel_rfl) (by as_aux_lemma => kernel_rfl) (by as_aux_lemma => kernel_rfl) (fun _ _ _ h => h) (by rfl) ?hb0 (by assumption) ?_
  case hb0 => intro w hSw; go_simp; try with_reducible rfl
  simp only [List.setIfInBounds_toArray, List.set_cons_zero, List.set_cons_succ]
  refine OrdE.take (i := 1) (d := 39) (v := ?vb1) rfl rfl rfl (by as_aux_lemma => kernel_rfl) (by as_aux_lemma => kernel_rfl) (by as_aux_lemma => kernel_rfl) (by as_aux_lemma => kernel_rfl) (fun _ _ _ h => h) (by rfl) ?hb1 (by assumption) ?_
  case hb1 => intro w hSw; go_simp; try with_reducible rfl
  simp only [List.setIfInBounds_toArray, List.set_cons_zero, List.set_cons_succ]
  refine OrdE.take (i := 2) (d := 40) (v := ?vb2) rfl rfl rfl (by as_aux_lemma => kernel_rfl) (by as_aux_lemma => kernel_rfl) (by as_aux_lemma => kernel_rfl) (by as_aux_lemma => kernel_rfl) (fun _ _ _ h => h) (by rfl) ?hb2 (by assumption) ?_
  case hb2 => intro w hSw; go_simp; try with_reducible rfl
  simp only [List.setIfInBounds_toArray, List.set_cons_zero, List.set_cons_succ]
  refine OrdE.take (i := 3) (d := 41) (v := .slice (some ⟨gL, 0, none⟩) n cL) rfl rfl rfl (by as_aux_lemma => kernel_rfl) (by as_aux_lemma => kernel_rfl) (by as_aux_lemma => kernel_rfl) (by as_aux_lemma => kernel_rfl) (fun _ _ _ h => h) (by rfl) ?hb3 (by assumption) ?_
  case hb3 => intro w hSw; obtain ⟨q0, q1, q2, q3, q4⟩ := hSw.1.cells; go_simp; try with_reducible rfl
  simp only [List.setIfInBounds_toArray, List.set_cons_zero, List.set_cons_succ]
  refine OrdE.take (i := 4) (d := 42) (v := ?vb4) rfl rfl rfl (by as_aux_lemma => kernel_rfl) (by as_aux_lemma => kernel_rfl) (by as_aux_lemma => kernel_rfl) (by as_aux_lemma => kernel_rfl) (fun _ _ _ h => h) (by rfl) ?hb4 (by assumption) ?_
  case hb4 => intro w hSw; go_simp; try with_reducible rfl
  simp only [List.setIfInBounds_toArray, List.set_cons_zero, List.set_cons_succ]
  refine OrdE.take (i := 5) (d := 43) (v := .pointer (some ⟨gL, iN, none⟩)) rfl rfl rfl (by as_aux_lemma => kernel_rfl) (by as_aux_lemma => kernel_rfl) (by as_aux_lemma => kernel_rfl) (by as_aux_lemma => kernel_rfl) (fun _ _ _ h => h) (by rfl) ?hb5 (by assumption) ?_
  case hb5 => intro w hSw; go_simp; try with_reducible rfl
  simp only [List.setIfInBounds_toArray, List.set_cons_zero, List.set_cons_succ]
  refine OrdE.take (i := 6) (d := 44) (v := .slice (some ⟨g9, 0, none⟩) 512 c9) rfl rfl rfl (by as_aux_lemma => kernel_rfl) (by as_aux_lemma => kernel_rfl) (by as_aux_lemma => kernel_rfl) (by as_aux_lemma => kernel_rfl) (fun _ _ _ h => h) (by rfl) ?hb6 (by assumption) ?_
  case hb6 => intro w hSw; have q9 := hSw.2.1; go_simp; try with_reducible rfl
  simp only [List.setIfInBounds_toArray, List.set_cons_zero, List.set_cons_succ]
  refine OrdE.take (i := 7) (d := 45) (v := ?vb7) rfl rfl rfl (by as_aux_lemma => kernel_rfl) (by as_aux_lemma => kernel_rfl) (by as_aux_lemma => kernel_rfl) (by as_aux_lemma => kernel_rfl) (fun _ _ _ h => h) (by rfl) ?hb7 (by assumption) ?_
  case hb7 => intro w hSw; go_simp; try with_reducible rfl
  simp only [List.setIfInBounds_toArray, List.set_cons_zero, List.set_cons_succ]
  refine OrdE.take (i := 8) (d := 46) (v := ?vb8) rfl rfl rfl (by as_aux_lemma => kernel_rfl) (by as_aux_lemma => kernel_rfl) (by as_aux_lemma => kernel_rfl) (by as_aux_lemma => kernel_rfl) (fun _ _ _ h => h) (by rfl) ?hb8 (by assumption) ?_
  case hb8 => intro w hSw; go_simp; try with_reducible rfl
  simp only [List.setIfInBounds_toArray, List.set_cons_zero, List.set_cons_succ]
  refine OrdE.take (i := 9) (d := 47) (v := ?vb9) rfl rfl rfl (by as_aux_lemma => kernel_rfl) (by as_aux_lemma => kernel_rfl) (by as_aux_lemma => kernel_rfl) (by as_aux_lemma => kernel_rfl) (fun _ _ _ h => h) (by rfl) ?hb9 (by assumption) ?_
  case hb9 => intro w hSw; go_simp; try with_reducible rfl
  simp only [List.setIfInBounds_toArray, List.set_cons_zero, List.set_cons_succ]
  refine OrdE.take (i := 10) (d := 48) (v := ?vb10) rfl rfl rfl (by as_aux_lemma => kernel_rfl) (by as_aux_lemma => kernel_rfl) (by as_aux_lemma => kernel_rfl) (by as_aux_lemma => kernel_rfl) (fun _ _ _ h => h) (by rfl) ?hb10 (by assumption) ?_
  case hb10 => intro w hSw; go_simp; try with_reducible rfl
  simp only [List.setIfInBounds_toArray, List.set_cons_zero, List.set_cons_succ]
  refine OrdE.take (i := 11) (d := 49) (v := .slice (some ⟨gL, 0, none⟩) n cL) rfl rfl rfl (by as_aux_lemma => kernel_rfl) (by as_aux_lemma => kernel_rfl) (by as_aux_lemma => kernel_rfl) (by as_aux_lemma => kernel_rfl) (fun _ _ _ h => h) (by rfl) ?hb11 (by assumption) ?_
  case hb11 => intro w hSw; obtain ⟨q0, q1, q2, q3, q4⟩ := hSw.1.cells; go_simp; try with_reducible rfl
  simp only [List.setIfInBounds_toArray, List.set_cons_zero, List.set_cons_succ]
  refine OrdE.take (i := 12) (d := 50) (v := ?vb12) rfl rfl rfl (by as_aux_lemma => kernel_rfl) (by as_aux_lemma => kernel_rfl) (by as_aux_lemma => kernel_rfl) (by as_aux_lemma => kernel_rfl) (fun _ _ _ h => h) (by rfl) ?hb12 (by assumption) ?_
  case hb12 => intro w hSw; go_simp; try with_reducible rfl
  simp only [List.setIfInBounds_toArray, List.set_cons_zero, List.set_cons_succ]
  refine OrdE.take (i := 13) (d := 51) (v := .pointer (some ⟨gL, iN, none⟩)) rfl rfl rfl (by as_aux_lemma => kernel_rfl) (by as_aux_lemma => kernel_rfl) (by as_aux_lemma => kernel_rfl) (by as_aux_lemma => kernel_rfl) (fun _ _ _ h => h) (by rfl) ?hb13 (by assumption) ?_
  case hb13 => intro w hSw; go_simp; try with_reducible rfl
  simp only [List.setIfInBounds_toArray, List.set_cons_zero, List.set_cons_succ]
  refine OrdE.take (i := 14) (d := 52) (v := .slice (some ⟨g9, 0, none⟩) 512 c9) rfl rfl rfl (by as_aux_lemma => kernel_rfl) (by as_aux_lemma => kernel_rfl) (by as_aux_lemma => kernel_rfl) (by as_aux_lemma => kernel_rfl) (fun _ _ _ h => h) (by rfl) ?hb14 (by assumption) ?_
  case hb14 => intro w hSw; have q9 := hSw.2.1; go_simp; try with_reducible rfl
  simp only [List.setIfInBounds_toArray, List.set_cons_zero, List.set_cons_succ]
  refine OrdE.take (i := 15) (d := 53) (v := ?vb15) rfl rfl rfl (by as_aux_lemma => kernel_rfl) (by as_aux_lemma => kernel_rfl) (by as_aux_lemma => kernel_rfl) (by as_aux_lemma => kernel_rfl) (fun _ _ _ h => h) (by rfl) ?hb15 (by assumption) ?_
  case hb15 => intro w hSw; go_simp; try with_reducible rfl
  simp only [List.setIfInBounds_toArray, List.set_cons_zero, List.set_cons_succ]
  refine OrdE.take (i := 16) (d := 54) (v := .pointer (some ⟨g9, an, none⟩)) rfl rfl rfl (by as_aux_lemma => kernel_rfl) (by as_aux_lemma => kernel_rfl) (by as_aux_lemma => kernel_rfl) (by as_aux_lemma => kernel_rfl) (fun _ _ _ h => h) (by rfl) ?hb16 (by assumption) ?_
  case hb16 => intro w hSw; go_simp; try with_reducible rfl
  simp only [List.setIfInBounds_toArray, List.set_cons_zero, List.set_cons_succ]
  refine OrdE.take (i := 17) (d := 55) (v := .int .u8 cB) rfl rfl rfl (by as_aux_lemma => kernel_rfl) (by as_aux_lemma => kernel_rfl) (by as_aux_lemma => kernel_rfl) (by as_aux_lemma => kernel_rfl) (fun _ _ _ h => h) (by rfl) ?hb17 (by assumption) ?_
  case hb17 => intro w hSw; have q9 := HCB.out w hSw.2.2; go_simp; try with_reducible rfl
  simp only [List.setIfInBounds_toArray, List.set_cons_zero, List.set_cons_succ]
  refine OrdE.take (i := 18) (d := 56) (v := ?vb18) rfl rfl rfl (by as_aux_lemma => kernel_rfl) (by as_aux_lemma => kernel_rfl) (by as_aux_lemma => kernel_rfl) (by as_aux_lemma => kernel_rfl) (fun _ _ _ h => h) (by rfl) ?hb18 (by assumption) ?_
  case hb18 => intro w hSw; go_simp; try with_reducible rfl
  simp only [List.setIfInBounds_toArray, List.set_cons_zero, List.set_cons_succ]
  refine OrdE.take (i := 19) (d := 57) (v := .int .u8 (bits .xor .u8 cB mk)) rfl rfl rfl (by as_aux_lemma => kernel_rfl) (by as_aux_lemma => kernel_rfl) (by as_aux_lemma => kernel_rfl) (by as_aux_lemma => kernel_rfl) (fun _ _ _ h => h) (by rfl) ?hb19 (by assumption) ?_
  case hb19 => intro w hSw; have q8 := HQ8.out; go_simp; try with_reducible rfl
  simp only [List.setIfInBounds_toArray, List.set_cons_zero, List.set_cons_succ]
  refine OrdE.one (i := 20) (by as_aux_lemma => kernel_rfl) rfl (fun K hK => ?_)
  go_simp
  refine hK.out _ _ (fun _ => hSS) ?_
  clear hK K
  try refine OrdE.put (d := 58) rfl ?_
  try simp only [List.setIfInBounds_toArray, List.set_cons_zero, List.set_cons_succ]
  have yc := HCB.out W7 hSS.2.2
  have yf : W7.frozen? ⟨g9, an, none⟩ = false := Joins.unfrozen_of_block hSS.2.2 an
  refine OrdE.one (i := 21) (by as_aux_lemma => kernel_rfl) rfl (fun K hK => ?_)
  go_simp
  refine hK.out _ _ (fun h => absurd rfl h) ?_
  clear hK K
  try simp only [List.setIfInBounds_toArray, List.set_cons_zero, List.set_cons_succ]
  refine OrdE.done (by as_aux_lemma => kernel_rfl) ?_ _
  have HOL7 : Hid (Old gL v0 (W7.setCell ⟨g9, an, none⟩ (.int .u8 (xorZ cB mk)))) := ⟨HOL6.out.1.setCell (Nat.zero_le _) _, fun j o hj hne => (Below.heap_setCell W7 ⟨g9, an, none⟩ _ j (by have h1 := (Array.getElem?_eq_some_iff.1 hj).1; have h2 := HGE.out; show j ≠ g9; omega)).trans (HOL6.out.2 j o hj hne)⟩
  have HRX7 : Hid ((W7.setCell ⟨g9, an, none⟩ (.int .u8 (xorZ cB mk))).heap[gL]? = (v0.setCell ⟨gL, iN, none⟩ (.slice (some ⟨g9, 0, none⟩) 512 c9)).heap[gL]?) := (Below.heap_setCell W7 ⟨g9, an, none⟩ _ gL (Ne.symm HNG.out)).trans HRX6.out
  have HB7 : Hid (Bk (W7.setCell ⟨g9, an, none⟩ (.int .u8 (xorZ cB mk))) (.slice (some ⟨g9, 0, none⟩) 512 c9) (xorL an mk (L (iN : Int)))) := by
    have h1 := bk_set (a := an) hSS.2.2 HC1.out HC2.out HTK.out HBB.out (xorZ cB mk) (xorZ_rng (by rw [HCE.out]; exact getD_fits HBB.out an) hmk)
    show Bk _ _ _
    unfold xorL
    rw [← HCE.out]
    exact h1
  have HFIN : Hid (Rv (W7.setCell ⟨g9, an, none⟩ (.int .u8 (bits .xor .u8 cB mk))) base gr (.slice (some ⟨gL, 0, none⟩) n cL) (.slice aW m cW) n (setI L (iN : Int) (xorL an mk (L (iN : Int)))) O f ∧ FrD base w (W7.setCell ⟨g9, an, none⟩ (.int .u8 (bits .xor .u8 cB mk)))) := by
    obtain ⟨h1, h2⟩ := HKD.out.rotL iN g9 c9 hiN HOL7.out HRX7.out _ HB7.out
    exact ⟨h1, HFD.out.trans h2⟩
  clear HOL7 HRX7 HB7 HOL6 HRX6 HCB hSS yc yf HKD HFD HGD HBB HC1 HC2 HTK HGE HNG c512 HCE HQ8
  generalize W7.setCell ⟨g9, an, none⟩ (.int .u8 (bits .xor .u8 cB mk)) = W8 at *
  obtain ⟨hrv, hfr⟩ := HFIN.out
  have HD := hid hrv
  have HFR := hid hfr
  clear hrv hfr HFIN
  obtain ⟨L', hL'⟩ : ∃ L', L' = setI L (iN : Int) (xorL an mk (L (iN : Int))) := ⟨_, rfl⟩
  have HLE := hid hL'
  rw [← hL'] at HD
  clear hL'
  obtain ⟨_, c1, _, _, _⟩ := HD.out.blk.cells
  go_wp2_with fail
  go_loopw [10] (fun j wr => ∃ q : Nat, j = .int .i64 (q : Int) ∧ q ≤ m ∧ Hid (Rv wr base gr (.slice (some ⟨gL, 0, none⟩) n cL) (.slice aW m cW) n L' (rotQ (iN : Int) an mk O q) f) ∧ Hid (FrD base w wr)) (fun j _ => m - (intOf j).toNat)
  case atStart => exact ⟨0, rfl, Nat.zero_le _, by rw [rotQ_zero]; exact HD.out, HFR.out⟩
  case round =>
    clear HD HFR c1
    obtain ⟨q, rfl, hq, HD, HFR⟩ := hrel
    obtain ⟨_, c1, _, _, _⟩ := HD.out.blk.cells
    by_cases hlt : q < m
    · have hz : (q : Int) < (m : Int) := by omega
      have hzz : (0 : Int) ≤ (q : Int) := by omega
      have hqO : q < O.length := by rw [← HM.out]; exact hlt
      have hrl : (rotQ (iN : Int) an mk O q).length = m := by rw [rotQ_len]; exact HM.out.symm
      obtain ⟨gW, cW', e, hw1, hw2, _, ⟨csW, hgW⟩, hwa⟩ := HD.out.rowW.at (by omega)
      rw [hrl] at e hw1
      cases e
      unfold maxLen at hw2
      obtain ⟨d1, y, d2, hky⟩ := hwa q (by omega)
      rw [rotQ_at (iN : Int) an mk O q hqO] at d1 hky
      have hmem := (rotQ_at (iN : Int) an mk O q hqO)
      have HSU := hid (rotQ_succ (iN : Int) an mk O q hqO)
      obtain ⟨gy, cy, hyv, _⟩ := hky.ri
      subst hyv
      have HKY := hid hky
      have HGW := hid hgW
      have hu2 := Joins.unfrozen_of_block hgW (q * 2 + 1)
      clear hwa hky hgW
      generalize hX : O.getD q (0, []) = x at *
      obtain ⟨xi, xb⟩ := x
      dsimp only at *
      by_cases hxi : xi = (iN : Int)
      · subst hxi
        have e1 : ((iN : Int) == (iN : Int)) = true := by simp
        rw [show rotX (iN : Int) an mk ((iN : Int), xb) = ((iN : Int), xorL an mk xb) from if_pos rfl] at HSU
        go_wp2_with fail
        refine OrdE.region (fun W => Rc W gr (.slice (some ⟨gL, 0, none⟩) n cL) (.slice (some ⟨gW, 0, none⟩) m cW) false f ∧ W.cell? ⟨gW, q * 2 + 1, none⟩ = some (.slice (some ⟨gy, 0, none⟩) 512 cy)) 17 (by kernel_rfl) (show Rc wr.drew gr (.slice (some ⟨gL, 0, none⟩) n cL) (.slice (some ⟨gW, 0, none⟩) m cW) false f ∧ wr.drew.cell? ⟨gW, q * 2 + 1, none⟩ = some (.slice (some ⟨gy, 0, none⟩) 512 cy) from ⟨HD.out.blk, d2⟩) (fun hSS => ?_)
        have HKD : Hid (Rv wr.drew base gr (.slice (some ⟨gL, 0, none⟩) n cL) (.slice (some ⟨gW, 0, none⟩) m cW) n L' (rotQ (iN : Int) an mk O q) f) := ⟨HD.out.blk, HD.out.rowL, HD.out.rowW, HD.out.okO, HD.out.okF, HD.out.okN, HD.out.bg⟩
        have HFD : Hid (FrD base w wr.drew) := HFR.out.drew
        have HBD : Hid (Bk wr.drew (.slice (some ⟨gy, 0, none⟩) 512 cy) xb) := HKY.out
        have HGD : Hid (wr.drew.heap[gW]? = some (.cells csW 87 (0, 0))) := HGW.out
        clear HD HFR HKY HGW d1 d2 c1 hu2
        generalize wr.drew = v0 at *
        refine OrdE.take (i := 0) (d := 78) (v := ?vc0) rfl rfl rfl (by as_aux_lemma => kernel_rfl) (by as_aux_lemma => kernel_rfl) (by as_aux_lemma => kernel_rfl) (by as_aux_lemma => kernel_rfl) (fun _ _ _ h => h) (by rfl) ?hc0 (by assumption) ?_
        case hc0 => intro w hSw; go_simp; try with_reducible rfl
        simp only [List.setIfInBounds_toArray, List.set_cons_zero, List.set_cons_succ]
        refine OrdE.take (i := 1) (d := 79) (v := ?vc1) rfl rfl rfl (by as_aux_lemma => kernel_rfl) (by as_aux_lemma => kernel_rfl) (by as_aux_lemma => kernel_rfl) (by as_aux_lemma => kernel_rfl) (fun _ _ _ h => h) (by rfl) ?hc1 (by assumption) ?_
        case hc1 => intro w hSw; go_simp; try with_reducible rfl
        simp only [List.setIfInBounds_toArray, List.set_cons_zero, List.set_cons_succ]
        refine OrdE.take (i := 2) (d := 80) (v := ?vc2) rfl rfl rfl (by as_aux_lemma => kernel_rfl) (by as_aux_lemma => kernel_rfl) (by as_aux_lemma => kernel_rfl) (by as_aux_lemma => kernel_rfl) (fun _ _ _ h => h) (by rfl) ?hc2 (by assumption) ?_
        case hc2 => intro w hSw; go_simp; try with_reducible rfl
        simp only [List.setIfInBounds_toArray, List.set_cons_zero, List.set_cons_succ]
        refine OrdE.take (i := 3) (d := 81) (v := .slice (some ⟨gW, 0, none⟩) m cW) rfl rfl rfl (by as_aux_lemma => kernel_rfl) (by as_aux_lemma => kernel_rfl) (by as_aux_lemma => kernel_rfl) (by as_aux_lemma => kernel_rfl) (fun _ _ _ h => h) (by rfl) ?hc3 (by assumption) ?_
        case hc3 => intro w hSw; obtain ⟨q0, q1, q2, q3, q4⟩ := hSw.1.cells; go_simp; try with_reducible rfl
        simp only [List.setIfInBounds_toArray, List.set_cons_zero, List.set_cons_succ]
        refine OrdE.take (i := 4) (d := 82) (v := ?vc4) rfl rfl rfl (by as_aux_lemma => kernel_rfl) (by as_aux_lemma => kernel_rfl) (by as_aux_lemma => kernel_rfl) (by as_aux_lemma => kernel_rfl) (fun _ _ _ h => h) (by rfl) ?hc4 (by assumption) ?_
        case hc4 => intro w hSw; go_simp; try with_reducible rfl
        simp only [List.setIfInBounds_toArray, List.set_cons_zero, List.set_cons_succ]
        refine OrdE.take (i := 6) (d := 84) (v := ?vc6) rfl rfl rfl (by as_aux_lemma => kernel_rfl) (by as_aux_lemma => kernel_rfl) (by as_aux_lemma => kernel_rfl) (by as_aux_lemma => kernel_rfl) (fun _ _ _ h => h) (by rfl) ?hc6 (by assumption) ?_
        case hc6 => intro w hSw; go_simp; try with_reducible rfl
        simp only [List.setIfInBounds_toArray, List.set_cons_zero, List.set_cons_succ]
        refine OrdE.take (i := 7) (d := 85) (v := ?vc7) rfl rfl rfl (by as_aux_lemma => kernel_rfl) (by as_aux_lemma => kernel_rfl) (by as_aux_lemma => kernel_rfl) (by as_aux_lemma => kernel_rfl) (fun _ _ _ h => h) (by rfl) ?hc7 (by assumption) ?_
        case hc7 => intro w hSw; go_simp; try with_reducible rfl
        simp only [List.setIfInBounds_toArray, List.set_cons_zero, List.set_cons_succ]
        refine OrdE.take (i := 8) (d := 86) (v := ?vc8) rfl rfl rfl (by as_aux_lemma => kernel_rfl) (by as_aux_lemma => kernel_rfl) (by as_aux_lemma => kernel_rfl) (by as_aux_lemma => kernel_rfl) (fun _ _ _ h => h) (by rfl) ?hc8 (by assumption) ?_
        case hc8 => intro w hSw; go_simp; try with_reducible rfl
        simp only [List.setIfInBounds_toArray, List.set_cons_zero, List.set_cons_succ]
        refine OrdE.take (i := 9) (d := 87) (v := .slice (some ⟨gW, 0, none⟩) m cW) rfl rfl rfl (by as_aux_lemma => kernel_rfl) (by as_aux_lemma => kernel_rfl) (by as_aux_lemma => kernel_rfl) (by as_aux_lemma => kernel_rfl) (fun _ _ _ h => h) (by rfl) ?hc9 (by assumption) ?_
        case hc9 => intro w hSw; obtain ⟨q0, q1, q2, q3, q4⟩ := hSw.1.cells; go_simp; try with_reducible rfl
        simp only [List.setIfInBounds_toArray, List.set_cons_zero, List.set_cons_succ]
        refine OrdE.take (i := 10) (d := 88) (v := ?vc10) rfl rfl rfl (by as_aux_lemma => kernel_rfl) (by as_aux_lemma => kernel_rfl) (by as_aux_lemma => kernel_rfl) (by as_aux_lemma => kernel_rfl) (fun _ _ _ h => h) (by rfl) ?hc10 (by assumption) ?_
        case hc10 => intro w hSw; go_simp; try with_reducible rfl
        simp only [List.setIfInBounds_toArray, List.set_cons_zero, List.set_cons_succ]
        refine OrdE.take (i := 11) (d := 89) (v := .pointer (some ⟨gW, q * 2, none⟩)) rfl rfl rfl (by as_aux_lemma => kernel_rfl) (by as_aux_lemma => kernel_rfl) (by as_aux_lemma => kernel_rfl) (by as_aux_lemma => kernel_rfl) (fun _ _ _ h => h) (by rfl) ?hc11 (by assumption) ?_
        case hc11 => intro w hSw; go_simp; try with_reducible rfl
        simp only [List.setIfInBounds_toArray, List.set_cons_zero, List.set_cons_succ]
        refine OrdE.take (i := 12) (d := 90) (v := .pointer (some ⟨gW, q * 2 + 1, none⟩)) rfl rfl rfl (by as_aux_lemma => kernel_rfl) (by as_aux_lemma => kernel_rfl) (by as_aux_lemma => kernel_rfl) (by as_aux_lemma => kernel_rfl) (fun _ _ _ h => h) (by rfl) ?hc12 (by assumption) ?_
        case hc12 => intro w hSw; go_simp; try with_reducible rfl
        simp only [List.setIfInBounds_toArray, List.set_cons_zero, List.set_cons_succ]
        refine OrdE.take (i := 13) (d := 91) (v := .slice (some ⟨gy, 0, none⟩) 512 cy) rfl rfl rfl (by as_aux_lemma => kernel_rfl) (by as_aux_lemma => kernel_rfl) (by as_aux_lemma => kernel_rfl) (by as_aux_lemma => kernel_rfl) (fun _ _ _ h => h) (by rfl) ?hc13 (by assumption) ?_
        case hc13 => intro w hSw; have q9 := hSw.2; go_simp; try with_reducible rfl
        simp only [List.setIfInBounds_toArray, List.set_cons_zero, List.set_cons_succ]
        refine OrdE.one (i := 5) (by as_aux_lemma => kernel_rfl) rfl (fun K hK => ?_)
        go_simp
        have hA : Below v0.heap.size v0 (v0.alloc (.cells #[] 5)) := bel_alloc v0 _
        have hS5 : Rc (v0.alloc (.cells #[] 5)) gr (.slice (some ⟨gL, 0, none⟩) n cL) (.slice (some ⟨gW, 0, none⟩) m cW) false f ∧ (v0.alloc (.cells #[] 5)).cell? ⟨gW, q * 2 + 1, none⟩ = some (.slice (some ⟨gy, 0, none⟩) 512 cy) := ⟨(hA.block gr hSS.1.lt).trans hSS.1, (hA.cell (p := ⟨gW, q * 2 + 1, none⟩) (Array.getElem?_eq_some_iff.1 HGD.out).1).trans hSS.2⟩
        refine hK.out _ _ (fun _ => hS5) ?_
        clear hK K
        try refine OrdE.put (d := 83) rfl ?_
        try simp only [List.setIfInBounds_toArray, List.set_cons_zero, List.set_cons_succ]
        refine OrdE.one (i := 14) (by as_aux_lemma => kernel_rfl) rfl (fun K hK => ?_)
        rw [if_pos (by rfl)]
        refine wp_fresh v0 (.tmp 83) (.tmp 91) rfl rfl (.slice (some ⟨gy, 0, none⟩) 512 cy) xb rfl HBD.out (fun g9 c9 cs v2 hg9 hge hc1 hc2 htk hb2 => ?_)
        have hS6 : Rc v2 gr (.slice (some ⟨gL, 0, none⟩) n cL) (.slice (some ⟨gW, 0, none⟩) m cW) false f ∧ v2.cell? ⟨gW, q * 2 + 1, none⟩ = some (.slice (some ⟨gy, 0, none⟩) 512 cy) := ⟨(hb2.block gr hSS.1.lt).trans hSS.1, (hb2.cell (p := ⟨gW, q * 2 + 1, none⟩) (Array.getElem?_eq_some_iff.1 HGD.out).1).trans hSS.2⟩
        refine hK.out _ _ (fun _ => hS6) ?_
        clear hK K
        try refine OrdE.put (d := 92) rfl ?_
        try simp only [List.setIfInBounds_toArray, List.set_cons_zero, List.set_cons_succ]
        refine OrdE.one (i := 15) (by as_aux_lemma => kernel_rfl) rfl (fun K hK => ?_)
        go_simp
        refine hK.out _ _ (fun _ => hS6) ?_
        clear hK K
        try refine OrdE.put (d := 93) rfl ?_
        try simp only [List.setIfInBounds_toArray, List.set_cons_zero, List.set_cons_succ]
        refine OrdE.one (i := 16) (by as_aux_lemma => kernel_rfl) rfl (fun K hK => ?_)
        go_simp
        refine hK.out _ _ (fun _ => hS6) ?_
        clear hK K
        try refine OrdE.put (d := 94) rfl ?_
        try simp only [List.setIfInBounds_toArray, List.set_cons_zero, List.set_cons_succ]
        have yc := hS6.2
        have yf : v2.frozen? ⟨gW, q * 2 + 1, none⟩ = false := Joins.unfrozen_of_block ((hb2.block gW (Array.getElem?_eq_some_iff.1 HGD.out).1).trans HGD.out) (q * 2 + 1)
        refine OrdE.one (i := 17) (by as_aux_lemma => kernel_rfl) rfl (fun K hK => ?_)
        go_simp
        refine hK.out _ _ (fun h => absurd rfl h) ?_
        clear hK K
        try simp only [List.setIfInBounds_toArray, List.set_cons_zero, List.set_cons_succ]
        refine OrdE.done (by as_aux_lemma => kernel_rfl) ?_ _
        have HCO : Hid (v0.cell? ⟨gW, q * 2 + 1, none⟩ = some (.slice (some ⟨gy, 0, none⟩) 512 cy)) := hSS.2
        have hng : g9 ≠ gW := fun e => by have := (Array.getElem?_eq_some_iff.1 HGD.out).1; omega
        have HOL : Hid (Old gW v0 (v2.setCell ⟨gW, q * 2 + 1, none⟩ (.slice (some ⟨g9, 0, none⟩) 512 c9))) := ⟨(hb2.mono (Nat.zero_le _)).setCell (Nat.zero_le _) _, fun j o hj hne => (Below.heap_setCell v2 ⟨gW, q * 2 + 1, none⟩ _ j hne).trans ((hb2.block j (Array.getElem?_eq_some_iff.1 hj).1).trans hj)⟩
        have HRX : Hid ((v2.setCell ⟨gW, q * 2 + 1, none⟩ (.slice (some ⟨g9, 0, none⟩) 512 c9)).heap[gW]? = (v0.setCell ⟨gW, q * 2 + 1, none⟩ (.slice (some ⟨g9, 0, none⟩) 512 c9)).heap[gW]?) := by
          show _ = _
          rw [Joins.block_setCell ((hb2.block gW (Array.getElem?_eq_some_iff.1 HGD.out).1).trans HGD.out) _, Joins.block_setCell HGD.out _]
        have H96 : Hid ((v2.setCell ⟨gW, q * 2 + 1, none⟩ (.slice (some ⟨g9, 0, none⟩) 512 c9)).heap[g9]? = some (.cells cs 5 (0, 0))) := (Below.heap_setCell v2 ⟨gW, q * 2 + 1, none⟩ _ g9 hng).trans hg9
        have HRC6 : Hid (Rc (v2.setCell ⟨gW, q * 2 + 1, none⟩ (.slice (some ⟨g9, 0, none⟩) 512 c9)) gr (.slice (some ⟨gL, 0, none⟩) n cL) (.slice (some ⟨gW, 0, none⟩) m cW) false f) := (Below.heap_setCell v2 ⟨gW, q * 2 + 1, none⟩ _ gr (fun e => by have h1 := hS6.1; unfold Rc at h1; have h2 := (hb2.block gW (Array.getElem?_eq_some_iff.1 HGD.out).1).trans HGD.out; have e' : gr = gW := e; rw [← e', h1] at h2; simp at h2)).trans hS6.1
        have HCX : Hid ((v2.setCell ⟨gW, q * 2 + 1, none⟩ (.slice (some ⟨g9, 0, none⟩) 512 c9)).cell? ⟨gW, q * 2 + 1, none⟩ = some (.slice (some ⟨g9, 0, none⟩) 512 c9)) := by
          have h1 := HRX.out
          have h2 := Joins.block_setCell HGD.out (i := q * 2 + 1) (.slice (some ⟨g9, 0, none⟩) 512 c9)
          have h4 := h1.trans h2
          show _ = _
          rw [Joins.cell_of_block h4 (q * 2 + 1)]
          have h5 : q * 2 + 1 < csW.size := by
            have h6 := HCO.out
            rw [Joins.cell_of_block HGD.out (q * 2 + 1)] at h6
            exact (Array.getElem?_eq_some_iff.1 h6).1
          simp [h5]
        have HBB := hid HBD.out.blk
        have HC1 := hid hc1
        have HC2 := hid hc2
        have HTK := hid htk
        have HGE := hid hge
        have HNG := hid hng
        clear hg9 hge hc1 hc2 htk hb2 hS5 hS6 hSS yc yf hA HBD hng
        generalize v2.setCell ⟨gW, q * 2 + 1, none⟩ (.slice (some ⟨g9, 0, none⟩) 512 c9) = W6 at *
        go_wp2_with fail
        obtain ⟨cB, hcB⟩ : ∃ c, c = xb.getD an 0 := ⟨_, rfl⟩
        have HCE := hid hcB
        have HQ8 : Hid (0 ≤ cB ∧ cB ≤ 255) := by
          show _ ∧ _
          rw [hcB]
          exact getD_fits HBB.out an
        clear hcB
        have HCB : Hid (∀ W : World, W.heap[g9]? = some (.cells cs 5 (0, 0)) → W.cell? ⟨g9, an, none⟩ = some (.int .u8 cB)) := fun W hW => by
          rw [Joins.cell_of_block hW an]
          have e : (cs.toList.take 512)[an]? = cs[an]? := by rw [List.getElem?_take_of_lt han, Array.getElem?_toList]
          rw [← e, HTK.out, HCE.out]
          exact arr_at' (by rw [HBB.out.len]; exact han)
        refine OrdE.region (fun W => Rc W gr (.slice (some ⟨gL, 0, none⟩) n cL) (.slice (some ⟨gW, 0, none⟩) m cW) false f ∧ W.cell? ⟨gW, q * 2 + 1, none⟩ = some (.slice (some ⟨g9, 0, none⟩) 512 c9) ∧ W.heap[g9]? = some (.cells cs 5 (0, 0))) 23 (by kernel_rfl) (show Rc W6.drew gr (.slice (some ⟨gL, 0, none⟩) n cL) (.slice (some ⟨gW, 0, none⟩) m cW) false f ∧ W6.drew.cell? ⟨gW, q * 2 + 1, none⟩ = some (.slice (some ⟨g9, 0, none⟩) 512 c9) ∧ W6.drew.heap[g9]? = some (.cells cs 5 (0, 0)) from ⟨HRC6.out, HCX.out, H96.out⟩) (fun hSS => ?_)
        have HOL6 : Hid (Old gW v0 W6.drew) := ⟨HOL.out.1.drew, HOL.out.2⟩
        have HRX6 : Hid (W6.drew.heap[gW]? = (v0.setCell ⟨gW, q * 2 + 1, none⟩ (.slice (some ⟨g9, 0, none⟩) 512 c9)).heap[gW]?) := HRX.out
        clear HOL HRX HRC6 HCX H96
        generalize W6.drew = W7 at *
        have c512 : (an : Int) < 512 := by omega
        refine OrdE.take (i := 0) (d := 95) (v := ?vd0) rfl rfl rfl (by as_aux_lemma => kernel_rfl) (by as_aux_lemma => kernel_rfl) (by as_aux_lemma => kernel_rfl) (by as_aux_lemma => kernel_rfl) (fun _ _ _ h => h) (by rfl) ?hd0 (by assumption) ?_
        case hd0 => intro w hSw; go_simp; try with_reducible rfl
        simp only [List.setIfInBounds_toArray, List.set_cons_zero, List.set_cons_succ]
        refine OrdE.take (i := 1) (d := 96) (v := ?vd1) rfl rfl rfl (by as_aux_lemma => kernel_rfl) (by as_aux_lemma => kernel_rfl) (by as_aux_lemma => kernel_rfl) (by as_aux_lemma => kernel_rfl) (fun _ _ _ h => h) (by rfl) ?hd1 (by assumption) ?_
        case hd1 => intro w hSw; go_simp; try with_reducible rfl
        simp only [List.setIfInBounds_toArray, List.set_cons_zero, List.set_cons_succ]
        refine OrdE.take (i := 2) (d := 97) (v := ?vd2) rfl rfl rfl (by as_aux_lemma => kernel_rfl) (by as_aux_lemma => kernel_rfl) (by as_aux_lemma => kernel_rfl) (by as_aux_lemma => kernel_rfl) (fun _ _ _ h => h) (by rfl) ?hd2 (by assumption) ?_
        case hd2 => intro w hSw; go_simp; try with_reducible rfl
        simp only [List.setIfInBounds_toArray, List.set_cons_zero, List.set_cons_succ]
        refine OrdE.take (i := 3) (d := 98) (v := .slice (some ⟨gW, 0, none⟩) m cW) rfl rfl rfl (by as_aux_lemma => kernel_rfl) (by as_aux_lemma => kernel_rfl) (by as_aux_lemma => kernel_rfl) (by as_aux_lemma => kernel_rfl) (fun _ _ _ h => h) (by rfl) ?hd3 (by assumption) ?_
        case hd3 => intro w hSw; obtain ⟨q0, q1, q2, q3, q4⟩ := hSw.1.cells; go_simp; try with_reducible rfl
        simp only [List.setIfInBounds_toArray, List.set_cons_zero, List.set_cons_succ]
        refine OrdE.take (i := 4) (d := 99) (v := ?vd4) rfl rfl rfl (by as_aux_lemma => kernel_rfl) (by as_aux_lemma => kernel_rfl) (by as_aux_lemma => kernel_rfl) (by as_aux_lemma => kernel_rfl) (fun _ _ _ h => h) (by rfl) ?hd4 (by assumption) ?_
        case hd4 => intro w hSw; go_simp; try with_reducible rfl
        simp only [List.setIfInBounds_toArray, List.set_cons_zero, List.set_cons_succ]
        refine OrdE.take (i := 5) (d := 100) (v := .pointer (some ⟨gW, q * 2, none⟩)) rfl rfl rfl (by as_aux_lemma => kernel_rfl) (by as_aux_lemma => kernel_rfl) (by as_aux_lemma => kernel_rfl) (by as_aux_lemma => kernel_rfl) (fun _ _ _ h => h) (by rfl) ?hd5 (by assumption) ?_
        case hd5 => intro w hSw; go_simp; try with_reducible rfl
        simp only [List.setIfInBounds_toArray, List.set_cons_zero, List.set_cons_succ]
        refine OrdE.take (i := 6) (d := 101) (v := .pointer (some ⟨gW, q * 2 + 1, none⟩)) rfl rfl rfl (by as_aux_lemma => kernel_rfl) (by as_aux_lemma => kernel_rfl) (by as_aux_lemma => kernel_rfl) (by as_aux_lemma => kernel_rfl) (fun _ _ _ h => h) (by rfl) ?hd6 (by assumption) ?_
        case hd6 => intro w hSw; go_simp; try with_reducible rfl
        simp only [List.setIfInBounds_toArray, List.set_cons_zero, List.set_cons_succ]
        refine OrdE.take (i := 7) (d := 102) (v := .slice (some ⟨g9, 0, none⟩) 512 c9) rfl rfl rfl (by as_aux_lemma => kernel_rfl) (by as_aux_lemma => kernel_rfl) (by as_aux_lemma => kernel_rfl) (by as_aux_lemma => kernel_rfl) (fun _ _ _ h => h) (by rfl) ?hd7 (by assumption) ?_
        case hd7 => intro w hSw; have q9 := hSw.2.1; go_simp; try with_reducible rfl
        simp only [List.setIfInBounds_toArray, List.set_cons_zero, List.set_cons_succ]
        refine OrdE.take (i := 8) (d := 103) (v := ?vd8) rfl rfl rfl (by as_aux_lemma => kernel_rfl) (by as_aux_lemma => kernel_rfl) (by as_aux_lemma => kernel_rfl) (by as_aux_lemma => kernel_rfl) (fun _ _ _ h => h) (by rfl) ?hd8 (by assumption) ?_
        case hd8 => intro w hSw; go_simp; try with_reducible rfl
        simp only [List.setIfInBounds_toArray, List.set_cons_zero, List.set_cons_succ]
        refine OrdE.take (i := 9) (d := 104) (v := ?vd9) rfl rfl rfl (by as_aux_lemma => kernel_rfl) (by as_aux_lemma => kernel_rfl) (by as_aux_lemma => kernel_rfl) (by as_aux_lemma => kernel_rfl) (fun _ _ _ h => h) (by rfl) ?hd9 (by assumption) ?_
        case hd9 => intro w hSw; go_simp; try with_reducible rfl
        simp only [List.setIfInBounds_toArray, List.set_cons_zero, List.set_cons_succ]
        refine OrdE.take (i := 10) (d := 105) (v := ?vd10) rfl rfl rfl (by as_aux_lemma => kernel_rfl) (by as_aux_lemma => kernel_rfl) (by as_aux_lemma => kernel_rfl) (by as_aux_lemma => kernel_rfl) (fun _ _ _ h => h) (by rfl) ?hd10 (by assumption) ?_
        case hd10 => intro w hSw; go_simp; try with_reducible rfl
        simp only [List.setIfInBounds_toArray, List.set_cons_zero, List.set_cons_succ]
        refine OrdE.take (i := 11) (d := 106) (v := ?vd11) rfl rfl rfl (by as_aux_lemma => kernel_rfl) (by as_aux_lemma => kernel_rfl) (by as_aux_lemma => kernel_rfl) (by as_aux_lemma => kernel_rfl) (fun _ _ _ h => h) (by rfl) ?hd11 (by assumption) ?_
        case hd11 => intro w hSw; go_simp; try with_reducible rfl
        simp only [List.setIfInBounds_toArray, List.set_cons_zero, List.set_cons_succ]
        refine OrdE.take (i := 12) (d := 107) (v := .slice (some ⟨gW, 0, none⟩) m cW) rfl rfl rfl (by as_aux_lemma => kernel_rfl) (by as_aux_lemma => kernel_rfl) (by as_aux_lemma => kernel_rfl) (by as_aux_lemma => kernel_rfl) (fun _ _ _ h => h) (by rfl) ?hd12 (by assumption) ?_
        case hd12 => intro w hSw; obtain ⟨q0, q1, q2, q3, q4⟩ := hSw.1.cells; go_simp; try with_reducible rfl
        simp only [List.setIfInBounds_toArray, List.set_cons_zero, List.set_cons_succ]
        refine OrdE.take (i := 13) (d := 108) (v := ?vd13) rfl rfl rfl (by as_aux_lemma => kernel_rfl) (by as_aux_lemma => kernel_rfl) (by as_aux_lemma => kernel_rfl) (by as_aux_lemma => kernel_rfl) (fun _ _ _ h => h) (by rfl) ?hd13 (by assumption) ?_
        case hd13 => intro w hSw; go_simp; try with_reducible rfl
        simp only [List.setIfInBounds_toArray, List.set_cons_zero, List.set_cons_succ]
        refine OrdE.take (i := 14) (d := 109) (v := .pointer (some ⟨gW, q * 2, none⟩)) rfl rfl rfl (by as_aux_lemma => kernel_rfl) (by as_aux_lemma => kernel_rfl) (by as_aux_lemma => kernel_rfl) (by as_aux_lemma => kernel_rfl) (fun _ _ _ h => h) (by rfl) ?hd14 (by assumption) ?_
        case hd14 => intro w hSw; go_simp; try with_reducible rfl
        simp only [List.setIfInBounds_toArray, List.set_cons_zero, List.set_cons_succ]
        refine OrdE.take (i := 15) (d := 110) (v := .pointer (some ⟨gW, q * 2 + 1, none⟩)) rfl rfl rfl (by as_aux_lemma => kernel_rfl) (by as_aux_lemma => kernel_rfl) (by as_aux_lemma => kernel_rfl) (by as_aux_lemma => kernel_rfl) (fun _ _ _ h => h) (by rfl) ?hd15 (by assumption) ?_
        case hd15 => intro w hSw; go_simp; try with_reducible rfl
        simp only [List.setIfInBounds_toArray, List.set_cons_zero, List.set_cons_succ]
        refine OrdE.take (i := 16) (d := 111) (v := .slice (some ⟨g9, 0, none⟩) 512 c9) rfl rfl rfl (by as_aux_lemma => kernel_rfl) (by as_aux_lemma => kernel_rfl) (by as_aux_lemma => kernel_rfl) (by as_aux_lemma => kernel_rfl) (fun _ _ _ h => h) (by rfl) ?hd16 (by assumption) ?_
        case hd16 => intro w hSw; have q9 := hSw.2.1; go_simp; try with_reducible rfl
        simp only [List.setIfInBounds_toArray, List.set_cons_zero, List.set_cons_succ]
        refine OrdE.take (i := 17) (d := 112) (v := ?vd17) rfl rfl rfl (by as_aux_lemma => kernel_rfl) (by as_aux_lemma => kernel_rfl) (by as_aux_lemma => kernel_rfl) (by as_aux_lemma => kernel_rfl) (fun _ _ _ h => h) (by rfl) ?hd17 (by assumption) ?_
        case hd17 => intro w hSw; go_simp; try with_reducible rfl
        simp only [List.setIfInBounds_toArray, List.set_cons_zero, List.set_cons_succ]
        refine OrdE.take (i := 18) (d := 113) (v := .pointer (some ⟨g9, an, none⟩)) rfl rfl rfl (by as_aux_lemma => kernel_rfl) (by as_aux_lemma => kernel_rfl) (by as_aux_lemma => kernel_rfl) (by as_aux_lemma => kernel_rfl) (fun _ _ _ h => h) (by rfl) ?hd18 (by assumption) ?_
        case hd18 => intro w hSw; go_simp; try with_reducible rfl
        simp only [List.setIfInBounds_toArray, List.set_cons_zero, List.set_cons_succ]
        refine OrdE.take (i := 19) (d := 114) (v := .int .u8 cB) rfl rfl rfl (by as_aux_lemma => kernel_rfl) (by as_aux_lemma => kernel_rfl) (by as_aux_lemma => kernel_rfl) (by as_aux_lemma => kernel_rfl) (fun _ _ _ h => h) (by rfl) ?hd19 (by assumption) ?_
        case hd19 => intro w hSw; have q9 := HCB.out w hSw.2.2; go_simp; try with_reducible rfl
        simp only [List.setIfInBounds_toArray, List.set_cons_zero, List.set_cons_succ]
        refine OrdE.take (i := 20) (d := 115) (v := ?vd20) rfl rfl rfl (by as_aux_lemma => kernel_rfl) (by as_aux_lemma => kernel_rfl) (by as_aux_lemma => kernel_rfl) (by as_aux_lemma => kernel_rfl) (fun _ _ _ h => h) (by rfl) ?hd20 (by assumption) ?_
        case hd20 => intro w hSw; go_simp; try with_reducible rfl
        simp only [List.setIfInBounds_toArray, List.set_cons_zero, List.set_cons_succ]
        refine OrdE.take (i := 21) (d := 116) (v := .int .u8 (bits .xor .u8 cB mk)) rfl rfl rfl (by as_aux_lemma => kernel_rfl) (by as_aux_lemma => kernel_rfl) (by as_aux_lemma => kernel_rfl) (by as_aux_lemma => kernel_rfl) (fun _ _ _ h => h) (by rfl) ?hd21 (by assumption) ?_
        case hd21 => intro w hSw; have q8 := HQ8.out; go_simp; try with_reducible rfl
        simp only [List.setIfInBounds_toArray, List.set_cons_zero, List.set_cons_succ]
        refine OrdE.one (i := 22) (by as_aux_lemma => kernel_rfl) rfl (fun K hK => ?_)
        go_simp
        refine hK.out _ _ (fun _ => hSS) ?_
        clear hK K
        try refine OrdE.put (d := 117) rfl ?_
        try simp only [List.setIfInBounds_toArray, List.set_cons_zero, List.set_cons_succ]
        have yc := HCB.out W7 hSS.2.2
        have yf : W7.frozen? ⟨g9, an, none⟩ = false := Joins.unfrozen_of_block hSS.2.2 an
        refine OrdE.one (i := 23) (by as_aux_lemma => kernel_rfl) rfl (fun K hK => ?_)
        go_simp
        refine hK.out _ _ (fun h => absurd rfl h) ?_
        clear hK K
        try simp only [List.setIfInBounds_toArray, List.set_cons_zero, List.set_cons_succ]
        refine OrdE.done (by as_aux_lemma => kernel_rfl) ?_ _
        have HOL7 : Hid (Old gW v0 (W7.setCell ⟨g9, an, none⟩ (.int .u8 (xorZ cB mk)))) := ⟨HOL6.out.1.setCell (Nat.zero_le _) _, fun j o hj hne => (Below.heap_setCell W7 ⟨g9, an, none⟩ _ j (by have h1 := (Array.getElem?_eq_some_iff.1 hj).1; have h2 := HGE.out; show j ≠ g9; omega)).trans (HOL6.out.2 j o hj hne)⟩
        have HRX7 : Hid ((W7.setCell ⟨g9, an, none⟩ (.int .u8 (xorZ cB mk))).heap[gW]? = (v0.setCell ⟨gW, q * 2 + 1, none⟩ (.slice (some ⟨g9, 0, none⟩) 512 c9)).heap[gW]?) := (Below.heap_setCell W7 ⟨g9, an, none⟩ _ gW (Ne.symm HNG.out)).trans HRX6.out
        have HB7 : Hid (Bk (W7.setCell ⟨g9, an, none⟩ (.int .u8 (xorZ cB mk))) (.slice (some ⟨g9, 0, none⟩) 512 c9) (xorL an mk xb)) := by
          have h1 := bk_set (a := an) hSS.2.2 HC1.out HC2.out HTK.out HBB.out (xorZ cB mk) (xorZ_rng (by rw [HCE.out]; exact getD_fits HBB.out an) hmk)
          show Bk _ _ _
          unfold xorL
          rw [← HCE.out]
          exact h1
        have HFIN : Hid (Rv (W7.setCell ⟨g9, an, none⟩ (.int .u8 (bits .xor .u8 cB mk))) base gr (.slice (some ⟨gL, 0, none⟩) n cL) (.slice (some ⟨gW, 0, none⟩) m cW) n L' (rotQ (iN : Int) an mk O (q + 1)) f ∧ FrD base w (W7.setCell ⟨g9, an, none⟩ (.int .u8 (bits .xor .u8 cB mk)))) := by
          have hk9 := HKD.out
          rw [← hrl] at hk9
          obtain ⟨h1, h2⟩ := hk9.rotW q g9 c9 (by omega) HOL7.out HRX7.out ((iN : Int), xorL an mk xb) (by rw [hmem]) HB7.out
          rw [hrl, ← HSU.out] at h1
          exact ⟨h1, HFD.out.trans h2⟩
        clear HOL7 HRX7 HB7 HOL6 HRX6 HCB hSS yc yf HKD HFD HGD HBB HC1 HC2 HTK HGE HNG c512 HSU hmem HCE HQ8
        generalize W7.setCell ⟨g9, an, none⟩ (.int .u8 (bits .xor .u8 cB mk)) = W8 at *
        obtain ⟨_, c1, _, _, _⟩ := HFIN.out.1.blk.cells
        clear c1
        go_wp2_with fail
        exact ⟨⟨q + 1, by go_num, hlt, hid HFIN.out.1, hid HFIN.out.2⟩, by simp only [intOf]; omega⟩
      · have e1 : (xi == (iN : Int)) = false := by simpa using hxi
        have HD3 : Hid (Rv wr base gr (.slice (some ⟨gL, 0, none⟩) n cL) (.slice (some ⟨gW, 0, none⟩) m cW) n L' (rotQ (iN : Int) an mk O (q + 1)) f) := by
          show Rv _ _ _ _ _ _ _ _ _
          rw [HSU.out, show rotX (iN : Int) an mk (xi, xb) = (xi, xb) from if_neg hxi]
          have : (rotQ (iN : Int) an mk O q).set q (xi, xb) = rotQ (iN : Int) an mk O q := by
            have hq2 : q < (rotQ (iN : Int) an mk O q).length := by omega
            have e9 : (rotQ (iN : Int) an mk O q)[q] = (xi, xb) := by simpa [List.getD, List.getElem?_eq_getElem hq2] using hmem
            rw [← e9, List.set_getElem_self]
          rw [this]
          exact HD.out
        clear HD HKY HGW HSU hmem
        go_wp2_with fail
        exact ⟨⟨q + 1, by go_num, hlt, HD3, HFR⟩, by simp only [intOf]; omega⟩
    · have hqn : q = m := by omega
      subst hqn
      have hz : ¬ (q : Int) < (q : Int) := by omega
      have HDF : Hid (Rv wr base gr (.slice (some ⟨gL, 0, none⟩) n cL) (.slice aW q cW) n L' (rotO (iN : Int) an mk O) f) := by
        have h1 := HD.out
        rw [HM.out, rotQ_all, ← HM.out] at h1
        exact h1
      clear HD
      go_wp2_with fail
      go_ret
      exact ⟨rfl, by rw [← HLE.out]; exact HDF.out, HFR.out⟩
end Go.Proofs.Ytldgiimkkgmgaaa
