/-
  The document's Lose.
-/
import Derived.Test.YtldgiimkkgmgaaaPart09
namespace Go.Proofs.Ytldgiimkkgmgaaa
open Go.RowKit

theorem FrD.mono {base b2 : Nat} {w w' : World} (h : FrD b2 w w') (hb : base ≤ b2) : FrD base w w' := ⟨h.bel.mono hb, h.keep⟩
def KxD (base : Nat) (w : World) (a : Option Addr) (cap : Nat) (K : List Bool) : Prop := ∀ W, FrD base w W → Bls W a cap K
theorem KxD.low {base : Nat} {w0 w : World} {a : Option Addr} {cap : Nat} {K : List Bool} (hr : Bls w0 a cap K) (hb : w0.heap.size = base) (hw : Below base w0 w) : KxD base w a cap K := fun W hW => hr.later (by rw [hb]; exact hw.trans hW.bel)
theorem setI_self {α : Type} (f : Int → α) (i : Int) : setI f i (f i) = f := by
  funext j
  unfold setI
  split
  · rename_i h; rw [h]
  · rfl
/-- Bytes put behind bytes of one's own. -/
theorem wp_appb (w : World) {o : Oper} {ac : Act} {KK : Act → World → Prop} {Q : Exit → Act → World → Prop} (s x : Operand) (ho : o.op = .call { callee := .builtin .append, args := #[s, x], argTypes := #[33, 33] }) (B : Nat) (v : Value) (l : List Int) (hs : ac.eval s = v) (hown : w.ownsRow B 5 1 v l.length (bytesV l))
    (ad : Addr) (cap n : Nat) (zs : List Int) (hn : zs.length = n) (hx : ac.eval x = .slice (some ad) n cap) (hnews : ∀ j u, (bytesV zs)[j]? = some u → w.cell? (ad.add j) = some u) (hbd : l.length + zs.length ≤ 10000000) (hB : B ≤ w.heap.size)
    (h : ∀ v' w', w'.ownsRow B 5 1 v' (l ++ zs).length (bytesV (l ++ zs)) → w.grownBy w' v.ownBlock → KK (ac.put o.dst v') w') : o.wp Try.prog ac w KK Q := by
  obtain ⟨i0, hi0, hz0, hz1, hz2⟩ := info_parts Try.info5c
  subst hn
  refine wp_append_own w s x 33 ho B 5 i0 (.int .u8 0) 1 1 Try.underlying33 hi0 hz0 hz1 hz2 rfl (by decide) v l.length (bytesV l) hs hown ad zs.length cap (bytesV zs) hx (by rw [bytesV_len, Nat.mul_one]) hnews (bytesV_one zs) (by unfold maxLen; omega) (by omega) hB (fun v' w' h1 h2 _ => h v' w' ?_ h2)
  rw [List.length_append]
  unfold bytesV at h1 ⊢
  rw [List.map_append]
  exact h1
theorem own_lt {W : World} {base e s k g n c : Nat} {xs : List Value} (h : W.ownsRow base e s (.slice (some ⟨g, 0, none⟩) n c) k xs) : g < W.heap.size := by
  obtain ⟨_, cs, h1⟩ := own_at h (q := g) rfl
  exact (Array.getElem?_eq_some_iff.1 h1).1
structure L1I (w wr : World) (base b2 gr gx : Nat) (vL vW vX : Value) (n q : Nat) (L : Int → List Int) (O : List (Int × List Int)) (f : Int) : Prop where
  old : Rc wr gr vL vW true f
  rowL : RowL wr base vL n L
  rowW : RowW wr base vW O
  new : Rc wr gx vX nilV false (-1)
  rowX : RowL wr b2 vX q L
  frd : FrD base w wr
  siz : b2 ≤ wr.heap.size
structure L2I (w wr : World) (base b2 gr gx : Nat) (vL vW vX : Value) (n : Nat) (L : Int → List Int) (O : List (Int × List Int)) (f : Int) : Prop where
  old : Rc wr gr vL vW true f
  rowW : RowW wr base vW O
  new : Rc wr gx vX nilV false (-1)
  rowX : RowL wr b2 vX n L
  frd : FrD base w wr
  siz : b2 ≤ wr.heap.size
theorem L2I.below {w wr W : World} {base b2 gr gx n : Nat} {vL vW vX : Value} {L : Int → List Int} {O : List (Int × List Int)} {f : Int} (h : L2I w wr base b2 gr gx vL vW vX n L O f) (hb : Below wr.heap.size wr W) (hbs : base ≤ b2) : L2I w W base b2 gr gx vL vW vX n L O f := by
  have hk : ∀ (i : Nat) (cs : Array Value) (t : TypeId) (fr : Nat × Nat), wr.heap[i]? = some (.cells cs t fr) → W.heap[i]? = some (.cells cs t fr) := fun i cs t fr hi => (hb.block i (Array.getElem?_eq_some_iff.1 hi).1).trans hi
  exact ⟨hk _ _ _ _ h.old, h.rowW.keep (fun i cs => hk i cs 87 _) (fun i cs fr => hk i cs 5 fr), hk _ _ _ _ h.new, h.rowX.keep (fun i cs => hk i cs 33 _) (fun i cs fr => hk i cs 5 fr), h.frd.trans (FrD.of_below hb (Nat.le_trans hbs h.siz)), Nat.le_trans h.siz hb.size⟩
theorem L2I.set {w wr : World} {base b2 gr gx n gX cX : Nat} {vL vW : Value} {L : Int → List Int} {O : List (Int × List Int)} {f : Int} (h : L2I w wr base b2 gr gx vL vW (.slice (some ⟨gX, 0, none⟩) n cX) n L O f) (hbs : base ≤ b2) (j : Nat) (hj : j < n) (y : Value) (b : List Int) (hy : Bk wr y b) : L2I w (wr.setCell ⟨gX, j, none⟩ y) base b2 gr gx vL vW (.slice (some ⟨gX, 0, none⟩) n cX) n (setI L (j : Int) b) O f := by
  obtain ⟨h1, h2, h3⟩ := h.rowX.set j hj y b hy
  have hg : ∃ cs, wr.heap[gX]? = some (.cells cs 33 (0, 0)) := by obtain ⟨xs, h9, _⟩ := h.rowX; exact (own_at h9 (q := gX) rfl).2
  obtain ⟨cs, hg⟩ := hg
  have hk : ∀ (i : Nat) (cs' : Array Value) (t : TypeId) (fr : Nat × Nat), t ≠ 33 → wr.heap[i]? = some (.cells cs' t fr) → (wr.setCell ⟨gX, j, none⟩ y).heap[i]? = some (.cells cs' t fr) := fun i cs' t fr ht hi => (h2 i (by rintro rfl; rw [hg] at hi; injection hi with hi; injection hi with _ hi; exact ht hi.symm)).trans hi
  exact ⟨hk _ _ 62 _ (by decide) h.old, h.rowW.keep (fun i cs' => hk i cs' 87 _ (by decide)) (fun i cs' fr => hk i cs' 5 fr (by decide)), hk _ _ 62 _ (by decide) h.new, h1, h.frd.trans (h3.mono hbs), Nat.le_trans h.siz (h3.bel.size)⟩
def RlPost (base : Nat) (n : Nat) (L : Int → List Int) (O : List (Int × List Int)) (K : List Bool) (torn at_ : Int) (w : World) (e : Ending) (w' : World) : Prop :=
  ∃ gx vX, e = .returned (.tuple #[.pointer (some ⟨gx, 0, none⟩), .int .i64 0]) ∧ Rv w' base gx vX nilV n (loseF L O K torn at_ O.length) [] (-1) ∧ FrD base w w'
set_option maxHeartbeats 6400000 in
set_option maxRecDepth 100000 in
theorem rlose_ref (base gr n : Nat) (vL vW : Value) (L : Int → List Int) (O : List (Int × List Int)) (f : Int) (a : Option Addr) (cap : Nat) (K : List Bool) (torn at_ : Int) (w : World) (k : Rv w base gr vL vW n L O f) (hK : KxD base w a cap K) (ha : okI at_) (hO : O.length ≤ 60000) :
    Calls Try.prog 28 #[.pointer (some ⟨gr, 0, none⟩), .slice a K.length cap, .int .i64 torn, .int .i64 at_] w (RlPost base n L O K torn at_ w) := by
  unfold RlPost
  obtain ⟨gL, cL, rfl, hcl1, hcl2, _, ⟨csL, hgL⟩, _⟩ := k.rowL.at (by have := k.okN; omega)
  unfold maxLen at hcl2
  obtain ⟨aW, cW, rfl⟩ := k.rowW.slice
  obtain ⟨_, _, c2, _, _⟩ := k.blk.cells
  have f2 := k.blk.unfrozen 2
  have HKX := hid hK
  have hwa := wf_i64 ha
  have HON := hid k.okN
  have HOO := hid k.okO
  have HSZ0 := hid k.size
  have hlt0 := (Array.getElem?_eq_some_iff.1 hgL).1
  obtain ⟨m, hm⟩ : ∃ m, m = O.length := ⟨_, rfl⟩
  have HM := hid hm
  obtain ⟨nk, hnk⟩ : ∃ z, z = K.length := ⟨_, rfl⟩
  have HNK := hid hnk
  rw [← hnk]
  have HI0 : Hid (L1I w ((w.setCell ⟨gr, 2, none⟩ (.bool true)).alloc (.cells #[.slice none 0 0, .slice none 0 0, .bool false, .bool false, .int .i64 0] 62)) base w.heap.size gr w.heap.size (.slice (some ⟨gL, 0, none⟩) n cL) (.slice aW O.length cW) (.slice none 0 0) n 0 L O f) := by
    obtain ⟨h1, h2⟩ := rc_set k.blk k.bg 2 (.bool true)
    obtain ⟨h3, h4⟩ := k.rows 2 (.bool true)
    have hA := bel_alloc (w.setCell ⟨gr, 2, none⟩ (.bool true)) (.cells #[.slice none 0 0, .slice none 0 0, .bool false, .bool false, .int .i64 0] 62)
    have hss : (w.setCell ⟨gr, 2, none⟩ (.bool true)).heap.size = w.heap.size := by simp
    have hk : ∀ (i : Nat) (cs : Array Value) (t : TypeId) (fr : Nat × Nat), (w.setCell ⟨gr, 2, none⟩ (.bool true)).heap[i]? = some (.cells cs t fr) → ((w.setCell ⟨gr, 2, none⟩ (.bool true)).alloc (.cells #[.slice none 0 0, .slice none 0 0, .bool false, .bool false, .int .i64 0] 62)).heap[i]? = some (.cells cs t fr) := fun i cs t fr hi => (hA.block i (Array.getElem?_eq_some_iff.1 hi).1).trans hi
    refine ⟨hk _ _ _ _ (k.blk.put.2.2 true), h3.keep (fun i cs => hk i cs 33 _) (fun i cs fr => hk i cs 5 fr), h4.keep (fun i cs => hk i cs 87 _) (fun i cs fr => hk i cs 5 fr), ?_, ⟨[], ⟨rfl, .inl ⟨rfl, rfl⟩⟩, fun i hi => absurd hi (Nat.not_lt_zero _)⟩, h2.trans (FrD.of_below hA (by rw [hss]; exact k.size)), by rw [← hss]; exact hA.size⟩
    have h9 := heap_new (w.setCell ⟨gr, 2, none⟩ (.bool true)) (.cells #[.slice none 0 0, .slice none 0 0, .bool false, .bool false, .int .i64 0] 62)
    rw [hss] at h9
    exact h9
  rw [← hm] at HI0 hO
  have HGLT := hid hlt0
  obtain ⟨i0, hi0, hz0, hz1, hz2⟩ := info_parts Try.info33
  have hn4 : (n : Int) ≤ 4096 := by have := HON.out; omega
  clear k hK ha hgL hlt0 hnk
  obtain ⟨b2, hb2⟩ : ∃ b, b = w.heap.size := ⟨_, rfl⟩
  have HB2 := hid hb2
  have hcA := HI0.out.old.cells
  have hcB := HI0.out.new.cells
  go_enter Try.func28, Try.ntmps28
  go_wp2_with fail
  rw [← hb2] at HI0 HGLT ⊢
  clear hcA hcB hb2 hm c2 f2
  go_loopw [11] (fun j wr => ∃ (q : Nat) (vX : Value), j = .int .i64 (q : Int) ∧ q ≤ n ∧ Hid (L1I w wr base b2 gr b2 (.slice (some ⟨gL, 0, none⟩) n cL) (.slice aW m cW) vX n q L O f)) (fun j _ => n - (intOf j).toNat)
  case atStart => exact ⟨0, _, rfl, Nat.zero_le _, HI0.out⟩
  case round =>
    clear HI0
    obtain ⟨q, vX, rfl, hq, HI⟩ := hrel
    obtain ⟨e0, e1, _, _, _⟩ := HI.out.old.cells
    by_cases hlt : q < n
    · have hz : (q : Int) < (n : Int) := by omega
      have hzz : (0 : Int) ≤ (q : Int) := by omega
      obtain ⟨aX, cX, rfl⟩ := HI.out.rowX.slice
      obtain ⟨g', c', e, _, _, _, ⟨csq, hgq⟩, hla⟩ := HI.out.rowL.at (by omega)
      cases e
      obtain ⟨x0, hx0, hbx⟩ := hla q hlt
      obtain ⟨gq, cq, hxv, _⟩ := hbx.ri
      subst hxv
      have HBX := hid hbx
      have HGQ := hid hgq
      clear hla hbx hgq
      go_wp2_with fail
      refine OrdE.region (fun W => Rc W b2 (.slice aX q cX) nilV false (-1) ∧ Rc W gr (.slice (some ⟨gL, 0, none⟩) n cL) (.slice aW m cW) true f ∧ W.cell? ⟨gL, q, none⟩ = some (.slice (some ⟨gq, 0, none⟩) 512 cq)) 18 (by kernel_rfl) (show Rc wr.drew b2 (.slice aX q cX) nilV false (-1) ∧ Rc wr.drew gr (.slice (some ⟨gL, 0, none⟩) n cL) (.slice aW m cW) true f ∧ wr.drew.cell? ⟨gL, q, none⟩ = some (.slice (some ⟨gq, 0, none⟩) 512 cq) from ⟨HI.out.new, HI.out.old, hx0⟩) (fun hSS => ?_)
      have HID : Hid (L1I w wr.drew base b2 gr b2 (.slice (some ⟨gL, 0, none⟩) n cL) (.slice aW m cW) (.slice aX q cX) n q L O f) := ⟨HI.out.old, HI.out.rowL, HI.out.rowW, HI.out.new, HI.out.rowX, HI.out.frd.drew, HI.out.siz⟩
      have HBD : Hid (Bk wr.drew (.slice (some ⟨gq, 0, none⟩) 512 cq) (L (q : Int))) := HBX.out
      have HGD : Hid (wr.drew.heap[gL]? = some (.cells csq 33 (0, 0))) := HGQ.out
      clear HI HBX HGQ hx0 e0 e1
      generalize wr.drew = v0 at *
      refine OrdE.take (i := 0) (d := 33) (v := ?va0) rfl rfl rfl (by as_aux_lemma => kernel_rfl) (by as_aux_lemma => kernel_rfl) (by as_aux_lemma => kernel_rfl) (by as_aux_lemma => kernel_rfl) (fun _ _ _ h => h) (by rfl) ?ha0 (by assumption) ?_
      case ha0 => intro w hSw; go_simp; try with_reducible rfl
      simp only [List.setIfInBounds_toArray, List.set_cons_zero, List.set_cons_succ]
      refine OrdE.take (i := 1) (d := 34) (v := ?va1) rfl rfl rfl (by as_aux_lemma => kernel_rfl) (by as_aux_lemma => kernel_rfl) (by as_aux_lemma => kernel_rfl) (by as_aux_lemma => kernel_rfl) (fun _ _ _ h => h) (by rfl) ?ha1 (by assumption) ?_
      case ha1 => intro w hSw; go_simp; try with_reducible rfl
      simp only [List.setIfInBounds_toArray, List.set_cons_zero, List.set_cons_succ]
      refine OrdE.take (i := 2) (d := 35) (v := ?va2) rfl rfl rfl (by as_aux_lemma => kernel_rfl) (by as_aux_lemma => kernel_rfl) (by as_aux_lemma => kernel_rfl) (by as_aux_lemma => kernel_rfl) (fun _ _ _ h => h) (by rfl) ?ha2 (by assumption) ?_
      case ha2 => intro w hSw; go_simp; try with_reducible rfl
      simp only [List.setIfInBounds_toArray, List.set_cons_zero, List.set_cons_succ]
      refine OrdE.take (i := 3) (d := 36) (v := ?va3) rfl rfl rfl (by as_aux_lemma => kernel_rfl) (by as_aux_lemma => kernel_rfl) (by as_aux_lemma => kernel_rfl) (by as_aux_lemma => kernel_rfl) (fun _ _ _ h => h) (by rfl) ?ha3 (by assumption) ?_
      case ha3 => intro w hSw; go_simp; try with_reducible rfl
      simp only [List.setIfInBounds_toArray, List.set_cons_zero, List.set_cons_succ]
      refine OrdE.take (i := 4) (d := 37) (v := .slice aX q cX) rfl rfl rfl (by as_aux_lemma => kernel_rfl) (by as_aux_lemma => kernel_rfl) (by as_aux_lemma => kernel_rfl) (by as_aux_lemma => kernel_rfl) (fun _ _ _ h => h) (by rfl) ?ha4 (by assumption) ?_
      case ha4 => intro w hSw; obtain ⟨q0, q1, q2, q3, q4⟩ := hSw.1.cells; go_simp; try with_reducible rfl
      simp only [List.setIfInBounds_toArray, List.set_cons_zero, List.set_cons_succ]
      refine OrdE.take (i := 6) (d := 39) (v := ?va6) rfl rfl rfl (by as_aux_lemma => kernel_rfl) (by as_aux_lemma => kernel_rfl) (by as_aux_lemma => kernel_rfl) (by as_aux_lemma => kernel_rfl) (fun _ _ _ h => h) (by rfl) ?ha6 (by assumption) ?_
      case ha6 => intro w hSw; go_simp; try with_reducible rfl
      simp only [List.setIfInBounds_toArray, List.set_cons_zero, List.set_cons_succ]
      refine OrdE.take (i := 7) (d := 40) (v := ?va7) rfl rfl rfl (by as_aux_lemma => kernel_rfl) (by as_aux_lemma => kernel_rfl) (by as_aux_lemma => kernel_rfl) (by as_aux_lemma => kernel_rfl) (fun _ _ _ h => h) (by rfl) ?ha7 (by assumption) ?_
      case ha7 => intro w hSw; go_simp; try with_reducible rfl
      simp only [List.setIfInBounds_toArray, List.set_cons_zero, List.set_cons_succ]
      refine OrdE.take (i := 8) (d := 41) (v := ?va8) rfl rfl rfl (by as_aux_lemma => kernel_rfl) (by as_aux_lemma => kernel_rfl) (by as_aux_lemma => kernel_rfl) (by as_aux_lemma => kernel_rfl) (fun _ _ _ h => h) (by rfl) ?ha8 (by assumption) ?_
      case ha8 => intro w hSw; go_simp; try with_reducible rfl
      simp only [List.setIfInBounds_toArray, List.set_cons_zero, List.set_cons_succ]
      refine OrdE.take (i := 9) (d := 42) (v := .slice (some ⟨gL, 0, none⟩) n cL) rfl rfl rfl (by as_aux_lemma => kernel_rfl) (by as_aux_lemma => kernel_rfl) (by as_aux_lemma => kernel_rfl) (by as_aux_lemma => kernel_rfl) (fun _ _ _ h => h) (by rfl) ?ha9 (by assumption) ?_
      case ha9 => intro w hSw; obtain ⟨q0, q1, q2, q3, q4⟩ := hSw.2.1.cells; go_simp; try with_reducible rfl
      simp only [List.setIfInBounds_toArray, List.set_cons_zero, List.set_cons_succ]
      refine OrdE.take (i := 10) (d := 43) (v := ?va10) rfl rfl rfl (by as_aux_lemma => kernel_rfl) (by as_aux_lemma => kernel_rfl) (by as_aux_lemma => kernel_rfl) (by as_aux_lemma => kernel_rfl) (fun _ _ _ h => h) (by rfl) ?ha10 (by assumption) ?_
      case ha10 => intro w hSw; go_simp; try with_reducible rfl
      simp only [List.setIfInBounds_toArray, List.set_cons_zero, List.set_cons_succ]
      refine OrdE.take (i := 11) (d := 44) (v := .pointer (some ⟨gL, q, none⟩)) rfl rfl rfl (by as_aux_lemma => kernel_rfl) (by as_aux_lemma => kernel_rfl) (by as_aux_lemma => kernel_rfl) (by as_aux_lemma => kernel_rfl) (fun _ _ _ h => h) (by rfl) ?ha11 (by assumption) ?_
      case ha11 => intro w hSw; go_simp; try with_reducible rfl
      simp only [List.setIfInBounds_toArray, List.set_cons_zero, List.set_cons_succ]
      refine OrdE.take (i := 12) (d := 45) (v := .slice (some ⟨gq, 0, none⟩) 512 cq) rfl rfl rfl (by as_aux_lemma => kernel_rfl) (by as_aux_lemma => kernel_rfl) (by as_aux_lemma => kernel_rfl) (by as_aux_lemma => kernel_rfl) (fun _ _ _ h => h) (by rfl) ?ha12 (by assumption) ?_
      case ha12 => intro w hSw; have q9 := hSw.2.2; go_simp; try with_reducible rfl
      simp only [List.setIfInBounds_toArray, List.set_cons_zero, List.set_cons_succ]
      refine OrdE.one (i := 5) (by as_aux_lemma => kernel_rfl) rfl (fun KK hK => ?_)
      go_simp
      have hA : Below v0.heap.size v0 (v0.alloc (.cells #[] 5)) := bel_alloc v0 _
      have hS5 : Rc (v0.alloc (.cells #[] 5)) b2 (.slice aX q cX) nilV false (-1) ∧ Rc (v0.alloc (.cells #[] 5)) gr (.slice (some ⟨gL, 0, none⟩) n cL) (.slice aW m cW) true f ∧ (v0.alloc (.cells #[] 5)).cell? ⟨gL, q, none⟩ = some (.slice (some ⟨gq, 0, none⟩) 512 cq) := ⟨(hA.block b2 hSS.1.lt).trans hSS.1, (hA.block gr hSS.2.1.lt).trans hSS.2.1, (hA.cell (p := ⟨gL, q, none⟩) (Array.getElem?_eq_some_iff.1 HGD.out).1).trans hSS.2.2⟩
      refine hK.out _ _ (fun _ => hS5) ?_
      clear hK KK
      try refine OrdE.put (d := 38) rfl ?_
      try simp only [List.setIfInBounds_toArray, List.set_cons_zero, List.set_cons_succ]
      refine OrdE.one (i := 13) (by as_aux_lemma => kernel_rfl) rfl (fun KK hK => ?_)
      rw [if_pos (by rfl)]
      refine wp_fresh v0 (.tmp 38) (.tmp 45) rfl rfl (.slice (some ⟨gq, 0, none⟩) 512 cq) (L (q : Int)) rfl HBD.out (fun g9 c9 cs v2 hg9 hge hc1 hc2 htk hb2' => ?_)
      have hS6 : Rc v2 b2 (.slice aX q cX) nilV false (-1) ∧ Rc v2 gr (.slice (some ⟨gL, 0, none⟩) n cL) (.slice aW m cW) true f ∧ v2.cell? ⟨gL, q, none⟩ = some (.slice (some ⟨gq, 0, none⟩) 512 cq) := ⟨(hb2'.block b2 hSS.1.lt).trans hSS.1, (hb2'.block gr hSS.2.1.lt).trans hSS.2.1, (hb2'.cell (p := ⟨gL, q, none⟩) (Array.getElem?_eq_some_iff.1 HGD.out).1).trans hSS.2.2⟩
      refine hK.out _ _ (fun _ => hS6) ?_
      clear hK KK
      try refine OrdE.put (d := 46) rfl ?_
      try simp only [List.setIfInBounds_toArray, List.set_cons_zero, List.set_cons_succ]
      have hbs := slice_one (.slice (some ⟨g9, 0, none⟩) 512 c9) rfl v2
      have HBK : Hid (Bk v2 (.slice (some ⟨g9, 0, none⟩) 512 c9) (L (q : Int))) := ⟨g9, c9, cs, (0, 0), rfl, hc1, hc2, hg9, htk, HBD.out.blk⟩
      refine OrdE.one (i := 14) (by as_aux_lemma => kernel_rfl) rfl (fun KK hK => ?_)
      rw [if_pos (by rfl)]
      refine wp_bslice 44 1 (.tmp 46) rfl _ _ rfl hbs ?_
      have hA3 : Below v2.heap.size v2 (v2.alloc (.cells #[.slice (some ⟨g9, 0, none⟩) 512 c9] 33)) := bel_alloc v2 _
      have hb3 := Bn hb2' hA3
      have hS7 : Rc (v2.alloc (.cells #[.slice (some ⟨g9, 0, none⟩) 512 c9] 33)) b2 (.slice aX q cX) nilV false (-1) ∧ Rc (v2.alloc (.cells #[.slice (some ⟨g9, 0, none⟩) 512 c9] 33)) gr (.slice (some ⟨gL, 0, none⟩) n cL) (.slice aW m cW) true f ∧ (v2.alloc (.cells #[.slice (some ⟨g9, 0, none⟩) 512 c9] 33)).cell? ⟨gL, q, none⟩ = some (.slice (some ⟨gq, 0, none⟩) 512 cq) := ⟨(hb3.block b2 hSS.1.lt).trans hSS.1, (hb3.block gr hSS.2.1.lt).trans hSS.2.1, (hb3.cell (p := ⟨gL, q, none⟩) (Array.getElem?_eq_some_iff.1 HGD.out).1).trans hSS.2.2⟩
      refine hK.out _ _ (fun _ => hS7) ?_
      clear hK KK
      try refine OrdE.put (d := 47) rfl ?_
      try simp only [List.setIfInBounds_toArray, List.set_cons_zero, List.set_cons_succ]
      have hk3 : ∀ (i : Nat) (cs : Array Value) (t : TypeId) (fr : Nat × Nat), v0.heap[i]? = some (.cells cs t fr) → (v2.alloc (.cells #[.slice (some ⟨g9, 0, none⟩) 512 c9] 33)).heap[i]? = some (.cells cs t fr) := fun i cs t fr hi => (hb3.block i (Array.getElem?_eq_some_iff.1 hi).1).trans hi
      have HI3 : Hid (L1I w (v2.alloc (.cells #[.slice (some ⟨g9, 0, none⟩) 512 c9] 33)) base b2 gr b2 (.slice (some ⟨gL, 0, none⟩) n cL) (.slice aW m cW) (.slice aX q cX) n q L O f) := ⟨hS7.2.1, HID.out.rowL.keep (fun i cs => hk3 i cs 33 _) (fun i cs fr => hk3 i cs 5 fr), HID.out.rowW.keep (fun i cs => hk3 i cs 87 _) (fun i cs fr => hk3 i cs 5 fr), hS7.1, HID.out.rowX.keep (fun i cs => hk3 i cs 33 _) (fun i cs fr => hk3 i cs 5 fr), HID.out.frd.trans (FrD.of_below hb3 (Nat.le_trans (by rw [HB2.out]; exact HSZ0.out) HID.out.siz)), Nat.le_trans HID.out.siz hb3.size⟩
      have HK3 := hid (HBK.out.keep (fun i cs fr hi => (hA3.block i (Array.getElem?_eq_some_iff.1 hi).1).trans hi))
      have HNW : Hid (∀ (j : Nat) (u : Value), ([.slice (some ⟨g9, 0, none⟩) 512 c9] : List Value)[j]? = some u → (v2.alloc (.cells #[.slice (some ⟨g9, 0, none⟩) 512 c9] 33)).cell? (Addr.add ⟨v2.heap.size, 0, none⟩ j) = some u) := fun j u hu => by
        rw [Go.WideShapes.add_plain, Nat.zero_add, Joins.cell_of_block (heap_new v2 _) j]
        simpa using hu
      obtain ⟨xs, hxo, hxb⟩ := HI3.out.rowX
      have hsz3 := HI3.out.siz
      clear hbs hA3 hb3 hk3 hS5 hS6 hA HBK HID HBD HGD hg9 hge hc1 hc2 htk hb2' hSS
      generalize v2.alloc (.cells #[.slice (some ⟨g9, 0, none⟩) 512 c9] 33) = v3 at *
      refine OrdE.one (i := 15) (by as_aux_lemma => kernel_rfl) rfl (fun KK hK => ?_)
      rw [if_pos (by rfl)]
      refine wp_append_own v3 (.tmp 37) (.tmp 47) 44 rfl b2 33 i0 (.slice none 0 0) 1 24 Try.underlying44 hi0 hz0 hz1 hz2 rfl (by decide) _ q xs rfl hxo ⟨v2.heap.size, 0, none⟩ 1 1 [.slice (some ⟨g9, 0, none⟩) 512 c9] rfl rfl HNW.out (by simp [Value.oneCell']) (by unfold maxLen; omega) (by omega) hsz3 (fun v' w4 hown hgrow _ => ?_)
      have hkx : ∀ (i : Nat) (o : Obj), v3.heap[i]? = some o → i < b2 ∨ (∀ cs, o ≠ .cells cs 33 (0, 0)) → w4.heap[i]? = some o := fun i o hi hor => by
        rcases hor with h9 | h9
        · refine (hgrow.block i (Array.getElem?_eq_some_iff.1 hi).1 (fun e' => ?_)).trans hi
          have := (own_at hxo e'.symm).1
          omega
        · exact grown_obj hxo hgrow i o hi h9
      have hS8 : Rc w4 b2 (.slice aX q cX) nilV false (-1) ∧ Rc w4 gr (.slice (some ⟨gL, 0, none⟩) n cL) (.slice aW m cW) true f ∧ w4.cell? ⟨gL, q, none⟩ = some (.slice (some ⟨gq, 0, none⟩) 512 cq) := by
        refine ⟨hkx _ _ hS7.1 (.inr (fun cs e => by injection e with _ e; cases e)), hkx _ _ hS7.2.1 (.inr (fun cs e => by injection e with _ e; cases e)), ?_⟩
        obtain ⟨xl, hl1, _⟩ := HI3.out.rowL
        obtain ⟨_, csl, hl2⟩ := own_at hl1 (q := gL) rfl
        have h9 := hkx gL _ hl2 (.inl (by have := HGLT.out; omega))
        rw [← hS7.2.2]
        unfold World.cell?
        rw [show w4.heap[gL]? = v3.heap[gL]? from h9.trans hl2.symm]
      refine hK.out _ _ (fun _ => hS8) ?_
      clear hK KK
      try refine OrdE.put (d := 48) rfl ?_
      try simp only [List.setIfInBounds_toArray, List.set_cons_zero, List.set_cons_succ]
      obtain ⟨a4, c4, rfl⟩ := own_slice hown
      have HRX : Hid (RowL w4 b2 (.slice a4 (q + 1) c4) (q + 1) L) := RowL.push (L := L) (L' := L) hxo hxb HK3.out (fun _ _ => rfl) hown hgrow
      have HRL : Hid (RowL w4 base (.slice (some ⟨gL, 0, none⟩) n cL) n L) := by
        obtain ⟨xl, hl1, hl2⟩ := HI3.out.rowL
        obtain ⟨_, csl, hl3⟩ := own_at hl1 (q := gL) rfl
        exact ⟨xl, own_eq hl1 ((hkx gL _ hl3 (.inl (by have := HGLT.out; omega))).trans hl3.symm), fun i hi => (hl2 i hi).keep (fun i cs fr hi => hkx i _ hi (.inr (fun cs' e => by injection e with _ e; cases e)))⟩
      have HRW : Hid (RowW w4 base (.slice aW m cW) O) := HI3.out.rowW.keep (fun i cs hi => hkx i _ hi (.inr (fun cs' e => by injection e with _ e; cases e))) (fun i cs fr hi => hkx i _ hi (.inr (fun cs' e => by injection e with _ e; cases e)))
      have HFD := hid (HI3.out.frd.trans ((grown_frd hxo (.inl rfl) hgrow hsz3).mono (show base ≤ b2 by rw [HB2.out]; exact HSZ0.out)))
      have HS4 := hid (Nat.le_trans hsz3 hgrow.size)
      obtain ⟨y0, y1, y2, y3, y4⟩ := hS8.1.cells
      have yf := hS8.1.unfrozen 0
      have hne : gr ≠ b2 := fun e => by have h1 := hS8.1; have h2 := hS8.2.1; unfold Rc at h1 h2; rw [e, h1] at h2; simp [rC] at h2
      clear hown hgrow hkx hS7 HNW hxo hxb HI3 HK3
      refine OrdE.one (i := 16) (by as_aux_lemma => kernel_rfl) rfl (fun KK hK => ?_)
      go_simp
      refine hK.out _ _ (fun _ => hS8) ?_
      clear hK KK
      try refine OrdE.put (d := 49) rfl ?_
      try simp only [List.setIfInBounds_toArray, List.set_cons_zero, List.set_cons_succ]
      refine OrdE.one (i := 17) (by as_aux_lemma => kernel_rfl) rfl (fun KK hK => ?_)
      go_simp
      refine hK.out _ _ (fun _ => hS8) ?_
      clear hK KK
      try refine OrdE.put (d := 50) rfl ?_
      try simp only [List.setIfInBounds_toArray, List.set_cons_zero, List.set_cons_succ]
      refine OrdE.one (i := 18) (by as_aux_lemma => kernel_rfl) rfl (fun KK hK => ?_)
      go_simp
      refine hK.out _ _ (fun h => absurd rfl h) ?_
      clear hK KK
      try simp only [List.setIfInBounds_toArray, List.set_cons_zero, List.set_cons_succ]
      refine OrdE.done (by as_aux_lemma => kernel_rfl) ?_ _
      have HIN : Hid (L1I w (w4.setCell ⟨b2, 0, none⟩ (.slice a4 (q + 1) c4)) base b2 gr b2 (.slice (some ⟨gL, 0, none⟩) n cL) (.slice aW m cW) (.slice a4 (q + 1) c4) n (q + 1) L O f) := by
        obtain ⟨h5, h6⟩ := rc_set hS8.1 (show base ≤ b2 by rw [HB2.out]; exact HSZ0.out) 0 (.slice a4 (q + 1) c4)
        have hk5 : ∀ (i : Nat) (cs : Array Value) (t : TypeId) (fr : Nat × Nat), t ≠ 62 → w4.heap[i]? = some (.cells cs t fr) → (w4.setCell ⟨b2, 0, none⟩ (.slice a4 (q + 1) c4)).heap[i]? = some (.cells cs t fr) := fun i cs t fr ht hi => (h5 i (hS8.1.ne5 hi ht)).trans hi
        exact ⟨(h5 gr hne).trans hS8.2.1, HRL.out.keep (fun i cs => hk5 i cs 33 _ (by decide)) (fun i cs fr => hk5 i cs 5 fr (by decide)), HRW.out.keep (fun i cs => hk5 i cs 87 _ (by decide)) (fun i cs fr => hk5 i cs 5 fr (by decide)), hS8.1.put.1 _, HRX.out.keep (fun i cs => hk5 i cs 33 _ (by decide)) (fun i cs fr => hk5 i cs 5 fr (by decide)), HFD.out.trans h6, Nat.le_trans HS4.out h6.bel.size⟩
      clear hS8 y0 y1 y2 y3 y4 yf HRX HRL HRW HFD HS4 hne
      go_wp2_with fail
      exact ⟨⟨q + 1, _, by go_num, hlt, HIN⟩, by simp only [intOf]; omega⟩
    · have hqn : q = n := by omega
      subst hqn
      have hz : ¬ (q : Int) < (q : Int) := by omega
      obtain ⟨gX, cX, rfl, hcx1, hcx2, _, _, _⟩ := HI.out.rowX.at (by have := HON.out; omega)
      unfold maxLen at hcx2
      have HJ0 : Hid (L2I w wr base b2 gr b2 (.slice (some ⟨gL, 0, none⟩) q cL) (.slice aW m cW) (.slice (some ⟨gX, 0, none⟩) q cX) q L O f) := ⟨HI.out.old, HI.out.rowW, HI.out.new, HI.out.rowX, HI.out.frd, HI.out.siz⟩
      have HBB : Hid (base ≤ b2) := by rw [HB2.out]; exact HSZ0.out
      obtain ⟨an, hane⟩ : ∃ z : Nat, z = at_.toNat % 513 := ⟨_, rfl⟩
      have HAN := hid hane
      have han : an ≤ 512 := by have := Nat.mod_lt at_.toNat (show 0 < 513 by decide); omega
      clear HI
      by_cases hpos : 0 < at_
      · have he : at_ % 513 = (an : Int) := by omega
        have HE := hid he
        clear he hane
        go_wp2_with fail
        rw [HE.out]
        clear HE
        go_loopw [13] (fun j wr => ∃ r : Nat, j = .int .i64 (r : Int) ∧ r ≤ m ∧ Hid (L2I w wr base b2 gr b2 (.slice (some ⟨gL, 0, none⟩) q cL) (.slice aW m cW) (.slice (some ⟨gX, 0, none⟩) q cX) q (loseF L O K torn at_ r) O f)) (fun j _ => m - (intOf j).toNat)
        case atStart => exact ⟨0, rfl, Nat.zero_le _, HJ0.out⟩
        case round =>
          clear HJ0
          obtain ⟨r, rfl, hr, HJ⟩ := hrel
          obtain ⟨_, e1, _, _, _⟩ := HJ.out.old.cells
          by_cases hrl : r < m
          · have hz : (r : Int) < (m : Int) := by omega
            have hzz : (0 : Int) ≤ (r : Int) := by omega
            have hrO : r < O.length := by rw [← HM.out]; exact hrl
            obtain ⟨gW, cW', e, hw1, hw2, _, _, hwa⟩ := HJ.out.rowW.at (by omega)
            rw [← HM.out] at e hw1
            cases e
            unfold maxLen at hw2
            obtain ⟨d1, y, d2, hky⟩ := hwa r hrO
            obtain ⟨gy, cy, hyv, hyr⟩ := hky.ri
            subst hyv
            have hmem := HOO.out _ (getD_mem hrO)
            have HLS : Hid (loseF L O K torn at_ (r + 1) = setI (loseF L O K torn at_ r) (O.getD r (0, [])).1 (tearL (keptN r K torn at_) (O.getD r (0, [])).2 (loseF L O K torn at_ r (O.getD r (0, [])).1))) := rfl
            have HKY := hid hky
            have HYR := hid hyr
            clear hwa hky hyr
            generalize O.getD r (0, []) = x at *
            obtain ⟨xi, xb⟩ := x
            dsimp only at *
            obtain ⟨xn, rfl⟩ : ∃ z : Nat, xi = (z : Int) := ⟨xi.toNat, by omega⟩
            have hxn : xn < q := by omega
            have hxz : (xn : Int) < (q : Int) := by omega
            have hxz0 : (0 : Int) ≤ (xn : Int) := by omega
            have hrg : wr.rangeAt gW (r * 2) [.int .i64 (xn : Int), .slice (some ⟨gy, 0, none⟩) 512 cy] := fun j u hu => by
              match j, hu with
              | 0, hu => cases hu; exact d1
              | 1, hu => cases hu; exact d2
            have hs87 : (Try.prog.info? 87).map (·.size) = some ([.int .i64 (xn : Int), .slice (some ⟨gy, 0, none⟩) 512 cy] : List Value).length := by kernel_rfl
            have HA := hid (bel_alloc wr (.cells #[.int .i64 (xn : Int), .slice (some ⟨gy, 0, none⟩) 512 cy] 87))
            have HE := hid (heap_new wr (.cells #[.int .i64 (xn : Int), .slice (some ⟨gy, 0, none⟩) 512 cy] 87))
            have HJA := hid (HJ.out.below HA.out HBB.out)
            have HKA := hid (HKY.out.keep (fun i cs fr hi => (HA.out.block i (Array.getElem?_eq_some_iff.1 hi).1).trans hi))
            have HYA := hid (HYR.out.later HA.out)
            clear HJ HKY HYR
            by_cases htn : (r : Int) = torn
            · have et : ((r : Int) == torn) = true := by simpa using htn
              rw [show keptN r K torn at_ = an from by unfold keptN; rw [if_pos htn]; exact HAN.out.symm] at HLS
              clear htn
              go_wp2_with (refine wpList_load_mid rfl 87 _ rfl gW (r * 2) rfl [.int .i64 (xn : Int), .slice (some ⟨gy, 0, none⟩) 512 cy] _ hrg Try.underlying87 rfl hs87 ?_)
              obtain ⟨g14, hg14⟩ : ∃ g, g = wr.heap.size := ⟨_, rfl⟩
              have hge14 := HA.out.size
              rw [← hg14] at HE ⊢
              clear hg14 HA hge14
              have HNXT : Hid (∀ W, Below (wr.alloc (.cells #[.int .i64 (xn : Int), .slice (some ⟨gy, 0, none⟩) 512 cy] 87)).heap.size (wr.alloc (.cells #[.int .i64 (xn : Int), .slice (some ⟨gy, 0, none⟩) 512 cy] 87)) W → L2I w W base b2 gr b2 (.slice (some ⟨gL, 0, none⟩) q cL) (.slice (some ⟨gW, 0, none⟩) m cW) (.slice (some ⟨gX, 0, none⟩) q cX) q (loseF L O K torn at_ r) O f) := fun W hW => HJA.out.below hW HBB.out
              generalize wr.alloc (.cells #[.int .i64 (xn : Int), .slice (some ⟨gy, 0, none⟩) 512 cy] 87) = wA at *
              obtain ⟨g', c', e', _, _, _, ⟨csX, hgX⟩, hXa⟩ := HJA.out.rowX.at (by omega)
              cases e'
              obtain ⟨z0, hz0', hbz⟩ := hXa xn hxn
              obtain ⟨gz, cz, hzv, hzr⟩ := hbz.ri
              subst hzv
              have hzroom := hzr.room
              have hzmost := hzr.most
              rw [hbz.blk.len] at hzroom
              unfold maxLen at hzmost
              have HBZ := hid hbz
              have HGX := hid hgX
              clear hXa hbz hzr
              have hS0 : Rc wA.drew b2 (.slice (some ⟨gX, 0, none⟩) q cX) nilV false (-1) ∧ wA.drew.heap[g14]? = some (.cells #[.int .i64 (xn : Int), .slice (some ⟨gy, 0, none⟩) 512 cy] 87 (0, 0)) ∧ wA.drew.cell? ⟨gX, xn, none⟩ = some (.slice (some ⟨gz, 0, none⟩) 512 cz) := ⟨HJA.out.new, HE.out, hz0'⟩
              have hq1 : (an : Int) ≤ 512 := by omega
              have hq2 : (0 : Int) ≤ (an : Int) := by omega
              have hq3 : (an : Int) ≤ (cy : Int) := by have h1 := HYA.out.room; rw [HKA.out.blk.len] at h1; omega
              have hq4 : (an : Int) ≤ (cz : Int) := by omega
              have han' : an ≤ 512 := by omega
              by_cases hcn : cz = an
              · have hcn' := hcn.symm
                clear hcn hq4
                subst hcn'
                have HZR := hid hzroom
                clear hzroom
                refine OrdE.region (fun W => Rc W b2 (.slice (some ⟨gX, 0, none⟩) q cX) nilV false (-1) ∧ W.heap[g14]? = some (.cells #[.int .i64 (xn : Int), .slice (some ⟨gy, 0, none⟩) 512 cy] 87 (0, 0)) ∧ W.cell? ⟨gX, xn, none⟩ = some (.slice (some ⟨gz, 0, none⟩) 512 an)) 24 (by kernel_rfl) hS0 (fun hSS => ?_)
                have HBD : Hid (Below wA.heap.size wA wA.drew) := (Below.refl _ _).drew
                have HKD : Hid (Bk wA.drew (.slice (some ⟨gy, 0, none⟩) 512 cy) xb) := HKA.out
                have HBZD : Hid (Bk wA.drew (.slice (some ⟨gz, 0, none⟩) 512 an) (loseF L O K torn at_ r (xn : Int))) := HBZ.out
                have HGXD : Hid (wA.drew.heap[gX]? = some (.cells csX 33 (0, 0))) := HGX.out
                clear hS0 HKA HYA HBZ HGX HJA HE hz0' e1 d1 d2 hrg hs87
                generalize wA.drew = v0 at *
                refine OrdE.take (i := 0) (d := 75) (v := ?vpt0) rfl rfl rfl (by as_aux_lemma => kernel_rfl) (by as_aux_lemma => kernel_rfl) (by as_aux_lemma => kernel_rfl) (by as_aux_lemma => kernel_rfl) (fun _ _ _ h => h) (by rfl) ?hpt0 (by assumption) ?_
                case hpt0 => intro w hSw; go_simp; try with_reducible rfl
                simp only [List.setIfInBounds_toArray, List.set_cons_zero, List.set_cons_succ]
                refine OrdE.take (i := 1) (d := 76) (v := ?vpt1) rfl rfl rfl (by as_aux_lemma => kernel_rfl) (by as_aux_lemma => kernel_rfl) (by as_aux_lemma => kernel_rfl) (by as_aux_lemma => kernel_rfl) (fun _ _ _ h => h) (by rfl) ?hpt1 (by assumption) ?_
                case hpt1 => intro w hSw; go_simp; try with_reducible rfl
                simp only [List.setIfInBounds_toArray, List.set_cons_zero, List.set_cons_succ]
                refine OrdE.take (i := 2) (d := 77) (v := ?vpt2) rfl rfl rfl (by as_aux_lemma => kernel_rfl) (by as_aux_lemma => kernel_rfl) (by as_aux_lemma => kernel_rfl) (by as_aux_lemma => kernel_rfl) (fun _ _ _ h => h) (by rfl) ?hpt2 (by assumption) ?_
                case hpt2 => intro w hSw; go_simp; try with_reducible rfl
                simp only [List.setIfInBounds_toArray, List.set_cons_zero, List.set_cons_succ]
                refine OrdE.take (i := 3) (d := 78) (v := .slice (some ⟨gX, 0, none⟩) q cX) rfl rfl rfl (by as_aux_lemma => kernel_rfl) (by as_aux_lemma => kernel_rfl) (by as_aux_lemma => kernel_rfl) (by as_aux_lemma => kernel_rfl) (fun _ _ _ h => h) (by rfl) ?hpt3 (by assumption) ?_
                case hpt3 => intro w hSw; obtain ⟨q0, q1, q2, q3, q4⟩ := hSw.1.cells; go_simp; try with_reducible rfl
                simp only [List.setIfInBounds_toArray, List.set_cons_zero, List.set_cons_succ]
                refine OrdE.take (i := 4) (d := 79) (v := ?vpt4) rfl rfl rfl (by as_aux_lemma => kernel_rfl) (by as_aux_lemma => kernel_rfl) (by as_aux_lemma => kernel_rfl) (by as_aux_lemma => kernel_rfl) (fun _ _ _ h => h) (by rfl) ?hpt4 (by assumption) ?_
                case hpt4 => intro w hSw; go_simp; try with_reducible rfl
                simp only [List.setIfInBounds_toArray, List.set_cons_zero, List.set_cons_succ]
                refine OrdE.take (i := 5) (d := 80) (v := .int .i64 (xn : Int)) rfl rfl rfl (by as_aux_lemma => kernel_rfl) (by as_aux_lemma => kernel_rfl) (by as_aux_lemma => kernel_rfl) (by as_aux_lemma => kernel_rfl) (fun _ _ _ h => h) (by rfl) ?hpt5 (by assumption) ?_
                case hpt5 => intro w hSw; have q9 := Joins.cell_of_block hSw.2.1 0; simp only [List.getElem?_toArray, List.getElem?_cons_zero] at q9; go_simp; try with_reducible rfl
                simp only [List.setIfInBounds_toArray, List.set_cons_zero, List.set_cons_succ]
                refine OrdE.take (i := 7) (d := 82) (v := ?vpt7) rfl rfl rfl (by as_aux_lemma => kernel_rfl) (by as_aux_lemma => kernel_rfl) (by as_aux_lemma => kernel_rfl) (by as_aux_lemma => kernel_rfl) (fun _ _ _ h => h) (by rfl) ?hpt7 (by assumption) ?_
                case hpt7 => intro w hSw; go_simp; try with_reducible rfl
                simp only [List.setIfInBounds_toArray, List.set_cons_zero, List.set_cons_succ]
                refine OrdE.take (i := 8) (d := 83) (v := .slice (some ⟨gy, 0, none⟩) 512 cy) rfl rfl rfl (by as_aux_lemma => kernel_rfl) (by as_aux_lemma => kernel_rfl) (by as_aux_lemma => kernel_rfl) (by as_aux_lemma => kernel_rfl) (fun _ _ _ h => h) (by rfl) ?hpt8 (by assumption) ?_
                case hpt8 => intro w hSw; have q9 := Joins.cell_of_block hSw.2.1 1; simp only [List.getElem?_toArray, List.getElem?_cons_zero, List.getElem?_cons_succ] at q9; go_simp; try with_reducible rfl
                simp only [List.setIfInBounds_toArray, List.set_cons_zero, List.set_cons_succ]
                refine OrdE.take (i := 9) (d := 84) (v := ?vpt9) rfl rfl rfl (by as_aux_lemma => kernel_rfl) (by as_aux_lemma => kernel_rfl) (by as_aux_lemma => kernel_rfl) (by as_aux_lemma => kernel_rfl) (fun _ _ _ h => h) (by rfl) ?hpt9 (by assumption) ?_
                case hpt9 => intro w hSw; go_simp; try with_reducible rfl
                simp only [List.setIfInBounds_toArray, List.set_cons_zero, List.set_cons_succ]
                refine OrdE.take (i := 10) (d := 85) (v := .slice (some ⟨gy, 0, none⟩) an cy) rfl rfl rfl (by as_aux_lemma => kernel_rfl) (by as_aux_lemma => kernel_rfl) (by as_aux_lemma => kernel_rfl) (by as_aux_lemma => kernel_rfl) (fun _ _ _ h => h) (by rfl) ?hpt10 (by assumption) ?_
                case hpt10 => intro w hSw; go_simp; try with_reducible rfl
                simp only [List.setIfInBounds_toArray, List.set_cons_zero, List.set_cons_succ]
                refine OrdE.take (i := 12) (d := 87) (v := ?vpt12) rfl rfl rfl (by as_aux_lemma => kernel_rfl) (by as_aux_lemma => kernel_rfl) (by as_aux_lemma => kernel_rfl) (by as_aux_lemma => kernel_rfl) (fun _ _ _ h => h) (by rfl) ?hpt12 (by assumption) ?_
                case hpt12 => intro w hSw; go_simp; try with_reducible rfl
                simp only [List.setIfInBounds_toArray, List.set_cons_zero, List.set_cons_succ]
                refine OrdE.take (i := 13) (d := 88) (v := ?vpt13) rfl rfl rfl (by as_aux_lemma => kernel_rfl) (by as_aux_lemma => kernel_rfl) (by as_aux_lemma => kernel_rfl) (by as_aux_lemma => kernel_rfl) (fun _ _ _ h => h) (by rfl) ?hpt13 (by assumption) ?_
                case hpt13 => intro w hSw; go_simp; try with_reducible rfl
                simp only [List.setIfInBounds_toArray, List.set_cons_zero, List.set_cons_succ]
                refine OrdE.take (i := 14) (d := 89) (v := ?vpt14) rfl rfl rfl (by as_aux_lemma => kernel_rfl) (by as_aux_lemma => kernel_rfl) (by as_aux_lemma => kernel_rfl) (by as_aux_lemma => kernel_rfl) (fun _ _ _ h => h) (by rfl) ?hpt14 (by assumption) ?_
                case hpt14 => intro w hSw; go_simp; try with_reducible rfl
                simp only [List.setIfInBounds_toArray, List.set_cons_zero, List.set_cons_succ]
                refine OrdE.take (i := 15) (d := 90) (v := .slice (some ⟨gX, 0, none⟩) q cX) rfl rfl rfl (by as_aux_lemma => kernel_rfl) (by as_aux_lemma => kernel_rfl) (by as_aux_lemma => kernel_rfl) (by as_aux_lemma => kernel_rfl) (fun _ _ _ h => h) (by rfl) ?hpt15 (by assumption) ?_
                case hpt15 => intro w hSw; obtain ⟨q0, q1, q2, q3, q4⟩ := hSw.1.cells; go_simp; try with_reducible rfl
                simp only [List.setIfInBounds_toArray, List.set_cons_zero, List.set_cons_succ]
                refine OrdE.take (i := 16) (d := 91) (v := ?vpt16) rfl rfl rfl (by as_aux_lemma => kernel_rfl) (by as_aux_lemma => kernel_rfl) (by as_aux_lemma => kernel_rfl) (by as_aux_lemma => kernel_rfl) (fun _ _ _ h => h) (by rfl) ?hpt16 (by assumption) ?_
                case hpt16 => intro w hSw; go_simp; try with_reducible rfl
                simp only [List.setIfInBounds_toArray, List.set_cons_zero, List.set_cons_succ]
                refine OrdE.take (i := 17) (d := 92) (v := .int .i64 (xn : Int)) rfl rfl rfl (by as_aux_lemma => kernel_rfl) (by as_aux_lemma => kernel_rfl) (by as_aux_lemma => kernel_rfl) (by as_aux_lemma => kernel_rfl) (fun _ _ _ h => h) (by rfl) ?hpt17 (by assumption) ?_
                case hpt17 => intro w hSw; have q9 := Joins.cell_of_block hSw.2.1 0; simp only [List.getElem?_toArray, List.getElem?_cons_zero] at q9; go_simp; try with_reducible rfl
                simp only [List.setIfInBounds_toArray, List.set_cons_zero, List.set_cons_succ]
                refine OrdE.take (i := 18) (d := 93) (v := .pointer (some ⟨gX, xn, none⟩)) rfl rfl rfl (by as_aux_lemma => kernel_rfl) (by as_aux_lemma => kernel_rfl) (by as_aux_lemma => kernel_rfl) (by as_aux_lemma => kernel_rfl) (fun _ _ _ h => h) (by rfl) ?hpt18 (by assumption) ?_
                case hpt18 => intro w hSw; go_simp; try with_reducible rfl
                simp only [List.setIfInBounds_toArray, List.set_cons_zero, List.set_cons_succ]
                refine OrdE.take (i := 19) (d := 94) (v := .slice (some ⟨gz, 0, none⟩) 512 an) rfl rfl rfl (by as_aux_lemma => kernel_rfl) (by as_aux_lemma => kernel_rfl) (by as_aux_lemma => kernel_rfl) (by as_aux_lemma => kernel_rfl) (fun _ _ _ h => h) (by rfl) ?hpt19 (by assumption) ?_
                case hpt19 => intro w hSw; have q9 := hSw.2.2; go_simp; try with_reducible rfl
                simp only [List.setIfInBounds_toArray, List.set_cons_zero, List.set_cons_succ]
                refine OrdE.take (i := 20) (d := 95) (v := ?vpt20) rfl rfl rfl (by as_aux_lemma => kernel_rfl) (by as_aux_lemma => kernel_rfl) (by as_aux_lemma => kernel_rfl) (by as_aux_lemma => kernel_rfl) (fun _ _ _ h => h) (by rfl) ?hpt20 (by assumption) ?_
                case hpt20 => intro w hSw; go_simp; try with_reducible rfl
                simp only [List.setIfInBounds_toArray, List.set_cons_zero, List.set_cons_succ]
                refine OrdE.take (i := 21) (d := 96) (v := .slice (some ⟨gz, 0, none⟩) (512 - an) 0) rfl rfl rfl (by as_aux_lemma => kernel_rfl) (by as_aux_lemma => kernel_rfl) (by as_aux_lemma => kernel_rfl) (by as_aux_lemma => kernel_rfl) (fun _ _ _ h => h) (by rfl) ?hpt21 (by assumption) ?_
                case hpt21 => intro w hSw; go_simp; try with_reducible rfl
                simp only [List.setIfInBounds_toArray, List.set_cons_zero, List.set_cons_succ]
                refine OrdE.one (i := 6) (by as_aux_lemma => kernel_rfl) rfl (fun KK hK => ?_)
                go_simp
                have hA : Below v0.heap.size v0 (v0.alloc (.cells #[] 5)) := bel_alloc v0 _
                have hS5 : Rc (v0.alloc (.cells #[] 5)) b2 (.slice (some ⟨gX, 0, none⟩) q cX) nilV false (-1) ∧ (v0.alloc (.cells #[] 5)).heap[g14]? = some (.cells #[.int .i64 (xn : Int), .slice (some ⟨gy, 0, none⟩) 512 cy] 87 (0, 0)) ∧ (v0.alloc (.cells #[] 5)).cell? ⟨gX, xn, none⟩ = some (.slice (some ⟨gz, 0, none⟩) 512 an) := ⟨(hA.block b2 hSS.1.lt).trans hSS.1, (hA.block g14 (Array.getElem?_eq_some_iff.1 hSS.2.1).1).trans hSS.2.1, (hA.cell (p := ⟨gX, xn, none⟩) (Array.getElem?_eq_some_iff.1 HGXD.out).1).trans hSS.2.2⟩
                refine hK.out _ _ (fun _ => hS5) ?_
                clear hK KK
                try refine OrdE.put (d := 81) rfl ?_
                try simp only [List.setIfInBounds_toArray, List.set_cons_zero, List.set_cons_succ]
                have HO0 : Hid ((v0.alloc (.cells #[] 5)).ownsRow v0.heap.size 5 1 (.slice (some ⟨v0.heap.size, 0, none⟩) 0 0) ([] : List Int).length (bytesV [])) := new_own v0 v0.heap.size (Nat.le_refl _)
                have hxbl := HKD.out.blk.len
                have hzbl := HBZD.out.blk.len
                have hyri : Ri v0 .u8 (some ⟨gy, 0, none⟩) cy xb := by obtain ⟨g1, c1, e1, r1⟩ := HKD.out.ri; cases e1; exact r1
                have hzri : Ri v0 .u8 (some ⟨gz, 0, none⟩) an (loseF L O K torn at_ r (xn : Int)) := by obtain ⟨g1, c1, e1, r1⟩ := HBZD.out.ri; cases e1; exact r1
                have HN1 : Hid (∀ (j : Nat) (u : Value), (bytesV (xb.take an))[j]? = some u → (v0.alloc (.cells #[] 5)).cell? (Addr.add ⟨gy, 0, none⟩ j) = some u) := fun j u hu => by
                  have hj : j < (xb.take an).length := by have := (List.getElem?_eq_some_iff.1 hu).1; rwa [bytesV_len] at this
                  rw [List.length_take] at hj
                  obtain ⟨b', off, e9, _, hc⟩ := (hyri.later hA).cells (by omega)
                  cases e9
                  rw [Go.WideShapes.add_plain, hc j (by omega), ← hu, arr_at' (by rw [List.length_take]; omega), getD_take _ _ _ (by omega)]
                refine OrdE.one (i := 11) (by as_aux_lemma => kernel_rfl) rfl (fun KK hK => ?_)
                rw [if_pos (by rfl)]
                refine wp_appb (v0.alloc (.cells #[] 5)) (.tmp 81) (.tmp 85) rfl v0.heap.size _ [] rfl HO0.out ⟨gy, 0, none⟩ cy an (xb.take an) (by rw [List.length_take]; omega) rfl HN1.out (by rw [List.length_take]; simp <;> omega) hA.size (fun v1' w1 hown1 hgr1 => ?_)
                have hb1 := hA.trans (bel_grown HO0.out hgr1 hA.size)
                have hS51 : Rc w1 b2 (.slice (some ⟨gX, 0, none⟩) q cX) nilV false (-1) ∧ w1.heap[g14]? = some (.cells #[.int .i64 (xn : Int), .slice (some ⟨gy, 0, none⟩) 512 cy] 87 (0, 0)) ∧ w1.cell? ⟨gX, xn, none⟩ = some (.slice (some ⟨gz, 0, none⟩) 512 an) := ⟨(hb1.block b2 hSS.1.lt).trans hSS.1, (hb1.block g14 (Array.getElem?_eq_some_iff.1 hSS.2.1).1).trans hSS.2.1, (hb1.cell (p := ⟨gX, xn, none⟩) (Array.getElem?_eq_some_iff.1 HGXD.out).1).trans hSS.2.2⟩
                refine hK.out _ _ (fun _ => hS51) ?_
                clear hK KK
                try refine OrdE.put (d := 86) rfl ?_
                try simp only [List.setIfInBounds_toArray, List.set_cons_zero, List.set_cons_succ]
                rw [List.nil_append] at hown1
                have HN2 : Hid (∀ (j : Nat) (u : Value), (bytesV ((loseF L O K torn at_ r (xn : Int)).drop an))[j]? = some u → w1.cell? (Addr.add ⟨gz, 0, none⟩ j) = some u) := fun j u hu => by
                  have hj : j < ((loseF L O K torn at_ r (xn : Int)).drop an).length := by have := (List.getElem?_eq_some_iff.1 hu).1; rwa [bytesV_len] at this
                  rw [List.length_drop] at hj
                  obtain ⟨b', off, e9, _, hc⟩ := (hzri.later hb1).cells (by omega)
                  cases e9
                  have hzr9 := HZR.out
                  omega
                have hsz1 := hb1.size
                clear hgr1 HO0 HN1 hS5
                refine OrdE.one (i := 22) (by as_aux_lemma => kernel_rfl) rfl (fun KK hK => ?_)
                rw [if_pos (by rfl)]
                refine wp_appb w1 (.tmp 86) (.tmp 96) rfl v0.heap.size _ (xb.take an) rfl hown1 ⟨gz, 0, none⟩ 0 (512 - an) ((loseF L O K torn at_ r (xn : Int)).drop an) (by rw [List.length_drop]; omega) rfl HN2.out (by rw [List.length_take, List.length_drop]; omega) hsz1 (fun v2' v2 hown2 hgr2 => ?_)
                have hbb := hb1.trans (bel_grown hown1 hgr2 hsz1)
                have hS6 : Rc v2 b2 (.slice (some ⟨gX, 0, none⟩) q cX) nilV false (-1) ∧ v2.heap[g14]? = some (.cells #[.int .i64 (xn : Int), .slice (some ⟨gy, 0, none⟩) 512 cy] 87 (0, 0)) ∧ v2.cell? ⟨gX, xn, none⟩ = some (.slice (some ⟨gz, 0, none⟩) 512 an) := ⟨(hbb.block b2 hSS.1.lt).trans hSS.1, (hbb.block g14 (Array.getElem?_eq_some_iff.1 hSS.2.1).1).trans hSS.2.1, (hbb.cell (p := ⟨gX, xn, none⟩) (Array.getElem?_eq_some_iff.1 HGXD.out).1).trans hSS.2.2⟩
                refine hK.out _ _ (fun _ => hS6) ?_
                clear hK KK
                try refine OrdE.put (d := 97) rfl ?_
                try simp only [List.setIfInBounds_toArray, List.set_cons_zero, List.set_cons_succ]
                have HBK0 : Hid (Bk v2 v2' (tearL an xb (loseF L O K torn at_ r (xn : Int)))) := by
                  have hl9 : (xb.take an ++ (loseF L O K torn at_ r (xn : Int)).drop an).length = 512 := by rw [List.length_append, List.length_take, List.length_drop]; omega
                  rw [hl9] at hown2
                  exact Bk.own hown2 (tear_blk han' HKD.out.blk HBZD.out.blk)
                obtain ⟨g9, c9, hv9, _⟩ := HBK0.out.ri
                subst hv9
                have HBK := HBK0
                clear hown1 hown2 hgr2 hS51 hb1 hsz1 HN2 hyri hzri hA HBK0
                refine OrdE.one (i := 23) (by as_aux_lemma => kernel_rfl) rfl (fun KK hK => ?_)
                go_simp
                refine hK.out _ _ (fun _ => hS6) ?_
                clear hK KK
                try refine OrdE.put (d := 98) rfl ?_
                try simp only [List.setIfInBounds_toArray, List.set_cons_zero, List.set_cons_succ]
                have yc := hS6.2.2
                have yf : v2.frozen? ⟨gX, xn, none⟩ = false := Joins.unfrozen_of_block ((hbb.block gX (Array.getElem?_eq_some_iff.1 HGXD.out).1).trans HGXD.out) xn
                refine OrdE.one (i := 24) (by as_aux_lemma => kernel_rfl) rfl (fun KK hK => ?_)
                go_simp
                refine hK.out _ _ (fun h => absurd rfl h) ?_
                clear hK KK
                try simp only [List.setIfInBounds_toArray, List.set_cons_zero, List.set_cons_succ]
                refine OrdE.done (by as_aux_lemma => kernel_rfl) ?_ _
                have HJN : Hid (L2I w (v2.setCell ⟨gX, xn, none⟩ (.slice (some ⟨g9, 0, none⟩) 512 c9)) base b2 gr b2 (.slice (some ⟨gL, 0, none⟩) q cL) (.slice (some ⟨gW, 0, none⟩) m cW) (.slice (some ⟨gX, 0, none⟩) q cX) q (loseF L O K torn at_ (r + 1)) O f) := by
                  have h1 := (HNXT.out v2 (Bn HBD.out hbb)).set HBB.out xn hxn _ _ HBK.out
                  rw [HLS.out]
                  exact h1
                clear hS6 hSS yc yf hbb HBK HNXT HBD HKD HBZD HGXD HLS
                go_wp2_with fail
                exact ⟨⟨r + 1, by go_num, hrl, HJN⟩, by simp only [intOf]; omega⟩
              · skip
                refine OrdE.region (fun W => Rc W b2 (.slice (some ⟨gX, 0, none⟩) q cX) nilV false (-1) ∧ W.heap[g14]? = some (.cells #[.int .i64 (xn : Int), .slice (some ⟨gy, 0, none⟩) 512 cy] 87 (0, 0)) ∧ W.cell? ⟨gX, xn, none⟩ = some (.slice (some ⟨gz, 0, none⟩) 512 cz)) 24 (by kernel_rfl) hS0 (fun hSS => ?_)
                have HBD : Hid (Below wA.heap.size wA wA.drew) := (Below.refl _ _).drew
                have HKD : Hid (Bk wA.drew (.slice (some ⟨gy, 0, none⟩) 512 cy) xb) := HKA.out
                have HBZD : Hid (Bk wA.drew (.slice (some ⟨gz, 0, none⟩) 512 cz) (loseF L O K torn at_ r (xn : Int))) := HBZ.out
                have HGXD : Hid (wA.drew.heap[gX]? = some (.cells csX 33 (0, 0))) := HGX.out
                clear hS0 HKA HYA HBZ HGX HJA HE hz0' e1 d1 d2 hrg hs87
                generalize wA.drew = v0 at *
                refine OrdE.take (i := 0) (d := 75) (v := ?vpu0) rfl rfl rfl (by as_aux_lemma => kernel_rfl) (by as_aux_lemma => kernel_rfl) (by as_aux_lemma => kernel_rfl) (by as_aux_lemma => kernel_rfl) (fun _ _ _ h => h) (by rfl) ?hpu0 (by assumption) ?_
                case hpu0 => intro w hSw; go_simp; try with_reducible rfl
                simp only [List.setIfInBounds_toArray, List.set_cons_zero, List.set_cons_succ]
                refine OrdE.take (i := 1) (d := 76) (v := ?vpu1) rfl rfl rfl (by as_aux_lemma => kernel_rfl) (by as_aux_lemma => kernel_rfl) (by as_aux_lemma => kernel_rfl) (by as_aux_lemma => kernel_rfl) (fun _ _ _ h => h) (by rfl) ?hpu1 (by assumption) ?_
                case hpu1 => intro w hSw; go_simp; try with_reducible rfl
                simp only [List.setIfInBounds_toArray, List.set_cons_zero, List.set_cons_succ]
                refine OrdE.take (i := 2) (d := 77) (v := ?vpu2) rfl rfl rfl (by as_aux_lemma => kernel_rfl) (by as_aux_lemma => kernel_rfl) (by as_aux_lemma => kernel_rfl) (by as_aux_lemma => kernel_rfl) (fun _ _ _ h => h) (by rfl) ?hpu2 (by assumption) ?_
                case hpu2 => intro w hSw; go_simp; try with_reducible rfl
                simp only [List.setIfInBounds_toArray, List.set_cons_zero, List.set_cons_succ]
                refine OrdE.take (i := 3) (d := 78) (v := .slice (some ⟨gX, 0, none⟩) q cX) rfl rfl rfl (by as_aux_lemma => kernel_rfl) (by as_aux_lemma => kernel_rfl) (by as_aux_lemma => kernel_rfl) (by as_aux_lemma => kernel_rfl) (fun _ _ _ h => h) (by rfl) ?hpu3 (by assumption) ?_
                case hpu3 => intro w hSw; obtain ⟨q0, q1, q2, q3, q4⟩ := hSw.1.cells; go_simp; try with_reducible rfl
                simp only [List.setIfInBounds_toArray, List.set_cons_zero, List.set_cons_succ]
                refine OrdE.take (i := 4) (d := 79) (v := ?vpu4) rfl rfl rfl (by as_aux_lemma => kernel_rfl) (by as_aux_lemma => kernel_rfl) (by as_aux_lemma => kernel_rfl) (by as_aux_lemma => kernel_rfl) (fun _ _ _ h => h) (by rfl) ?hpu4 (by assumption) ?_
                case hpu4 => intro w hSw; go_simp; try with_reducible rfl
                simp only [List.setIfInBounds_toArray, List.set_cons_zero, List.set_cons_succ]
                refine OrdE.take (i := 5) (d := 80) (v := .int .i64 (xn : Int)) rfl rfl rfl (by as_aux_lemma => kernel_rfl) (by as_aux_lemma => kernel_rfl) (by as_aux_lemma => kernel_rfl) (by as_aux_lemma => kernel_rfl) (fun _ _ _ h => h) (by rfl) ?hpu5 (by assumption) ?_
                case hpu5 => intro w hSw; have q9 := Joins.cell_of_block hSw.2.1 0; simp only [List.getElem?_toArray, List.getElem?_cons_zero] at q9; go_simp; try with_reducible rfl
                simp only [List.setIfInBounds_toArray, List.set_cons_zero, List.set_cons_succ]
                refine OrdE.take (i := 7) (d := 82) (v := ?vpu7) rfl rfl rfl (by as_aux_lemma => kernel_rfl) (by as_aux_lemma => kernel_rfl) (by as_aux_lemma => kernel_rfl) (by as_aux_lemma => kernel_rfl) (fun _ _ _ h => h) (by rfl) ?hpu7 (by assumption) ?_
                case hpu7 => intro w hSw; go_simp; try with_reducible rfl
                simp only [List.setIfInBounds_toArray, List.set_cons_zero, List.set_cons_succ]
                refine OrdE.take (i := 8) (d := 83) (v := .slice (some ⟨gy, 0, none⟩) 512 cy) rfl rfl rfl (by as_aux_lemma => kernel_rfl) (by as_aux_lemma => kernel_rfl) (by as_aux_lemma => kernel_rfl) (by as_aux_lemma => kernel_rfl) (fun _ _ _ h => h) (by rfl) ?hpu8 (by assumption) ?_
                case hpu8 => intro w hSw; have q9 := Joins.cell_of_block hSw.2.1 1; simp only [List.getElem?_toArray, List.getElem?_cons_zero, List.getElem?_cons_succ] at q9; go_simp; try with_reducible rfl
                simp only [List.setIfInBounds_toArray, List.set_cons_zero, List.set_cons_succ]
                refine OrdE.take (i := 9) (d := 84) (v := ?vpu9) rfl rfl rfl (by as_aux_lemma => kernel_rfl) (by as_aux_lemma => kernel_rfl) (by as_aux_lemma => kernel_rfl) (by as_aux_lemma => kernel_rfl) (fun _ _ _ h => h) (by rfl) ?hpu9 (by assumption) ?_
                case hpu9 => intro w hSw; go_simp; try with_reducible rfl
                simp only [List.setIfInBounds_toArray, List.set_cons_zero, List.set_cons_succ]
                refine OrdE.take (i := 10) (d := 85) (v := .slice (some ⟨gy, 0, none⟩) an cy) rfl rfl rfl (by as_aux_lemma => kernel_rfl) (by as_aux_lemma => kernel_rfl) (by as_aux_lemma => kernel_rfl) (by as_aux_lemma => kernel_rfl) (fun _ _ _ h => h) (by rfl) ?hpu10 (by assumption) ?_
                case hpu10 => intro w hSw; go_simp; try with_reducible rfl
                simp only [List.setIfInBounds_toArray, List.set_cons_zero, List.set_cons_succ]
                refine OrdE.take (i := 12) (d := 87) (v := ?vpu12) rfl rfl rfl (by as_aux_lemma => kernel_rfl) (by as_aux_lemma => kernel_rfl) (by as_aux_lemma => kernel_rfl) (by as_aux_lemma => kernel_rfl) (fun _ _ _ h => h) (by rfl) ?hpu12 (by assumption) ?_
                case hpu12 => intro w hSw; go_simp; try with_reducible rfl
                simp only [List.setIfInBounds_toArray, List.set_cons_zero, List.set_cons_succ]
                refine OrdE.take (i := 13) (d := 88) (v := ?vpu13) rfl rfl rfl (by as_aux_lemma => kernel_rfl) (by as_aux_lemma => kernel_rfl) (by as_aux_lemma => kernel_rfl) (by as_aux_lemma => kernel_rfl) (fun _ _ _ h => h) (by rfl) ?hpu13 (by assumption) ?_
                case hpu13 => intro w hSw; go_simp; try with_reducible rfl
                simp only [List.setIfInBounds_toArray, List.set_cons_zero, List.set_cons_succ]
                refine OrdE.take (i := 14) (d := 89) (v := ?vpu14) rfl rfl rfl (by as_aux_lemma => kernel_rfl) (by as_aux_lemma => kernel_rfl) (by as_aux_lemma => kernel_rfl) (by as_aux_lemma => kernel_rfl) (fun _ _ _ h => h) (by rfl) ?hpu14 (by assumption) ?_
                case hpu14 => intro w hSw; go_simp; try with_reducible rfl
                simp only [List.setIfInBounds_toArray, List.set_cons_zero, List.set_cons_succ]
                refine OrdE.take (i := 15) (d := 90) (v := .slice (some ⟨gX, 0, none⟩) q cX) rfl rfl rfl (by as_aux_lemma => kernel_rfl) (by as_aux_lemma => kernel_rfl) (by as_aux_lemma => kernel_rfl) (by as_aux_lemma => kernel_rfl) (fun _ _ _ h => h) (by rfl) ?hpu15 (by assumption) ?_
                case hpu15 => intro w hSw; obtain ⟨q0, q1, q2, q3, q4⟩ := hSw.1.cells; go_simp; try with_reducible rfl
                simp only [List.setIfInBounds_toArray, List.set_cons_zero, List.set_cons_succ]
                refine OrdE.take (i := 16) (d := 91) (v := ?vpu16) rfl rfl rfl (by as_aux_lemma => kernel_rfl) (by as_aux_lemma => kernel_rfl) (by as_aux_lemma => kernel_rfl) (by as_aux_lemma => kernel_rfl) (fun _ _ _ h => h) (by rfl) ?hpu16 (by assumption) ?_
                case hpu16 => intro w hSw; go_simp; try with_reducible rfl
                simp only [List.setIfInBounds_toArray, List.set_cons_zero, List.set_cons_succ]
                refine OrdE.take (i := 17) (d := 92) (v := .int .i64 (xn : Int)) rfl rfl rfl (by as_aux_lemma => kernel_rfl) (by as_aux_lemma => kernel_rfl) (by as_aux_lemma => kernel_rfl) (by as_aux_lemma => kernel_rfl) (fun _ _ _ h => h) (by rfl) ?hpu17 (by assumption) ?_
                case hpu17 => intro w hSw; have q9 := Joins.cell_of_block hSw.2.1 0; simp only [List.getElem?_toArray, List.getElem?_cons_zero] at q9; go_simp; try with_reducible rfl
                simp only [List.setIfInBounds_toArray, List.set_cons_zero, List.set_cons_succ]
                refine OrdE.take (i := 18) (d := 93) (v := .pointer (some ⟨gX, xn, none⟩)) rfl rfl rfl (by as_aux_lemma => kernel_rfl) (by as_aux_lemma => kernel_rfl) (by as_aux_lemma => kernel_rfl) (by as_aux_lemma => kernel_rfl) (fun _ _ _ h => h) (by rfl) ?hpu18 (by assumption) ?_
                case hpu18 => intro w hSw; go_simp; try with_reducible rfl
                simp only [List.setIfInBounds_toArray, List.set_cons_zero, List.set_cons_succ]
                refine OrdE.take (i := 19) (d := 94) (v := .slice (some ⟨gz, 0, none⟩) 512 cz) rfl rfl rfl (by as_aux_lemma => kernel_rfl) (by as_aux_lemma => kernel_rfl) (by as_aux_lemma => kernel_rfl) (by as_aux_lemma => kernel_rfl) (fun _ _ _ h => h) (by rfl) ?hpu19 (by assumption) ?_
                case hpu19 => intro w hSw; have q9 := hSw.2.2; go_simp; try with_reducible rfl
                simp only [List.setIfInBounds_toArray, List.set_cons_zero, List.set_cons_succ]
                refine OrdE.take (i := 20) (d := 95) (v := ?vpu20) rfl rfl rfl (by as_aux_lemma => kernel_rfl) (by as_aux_lemma => kernel_rfl) (by as_aux_lemma => kernel_rfl) (by as_aux_lemma => kernel_rfl) (fun _ _ _ h => h) (by rfl) ?hpu20 (by assumption) ?_
                case hpu20 => intro w hSw; go_simp; try with_reducible rfl
                simp only [List.setIfInBounds_toArray, List.set_cons_zero, List.set_cons_succ]
                refine OrdE.take (i := 21) (d := 96) (v := .slice (some ⟨gz, an, none⟩) (512 - an) (cz - an)) rfl rfl rfl (by as_aux_lemma => kernel_rfl) (by as_aux_lemma => kernel_rfl) (by as_aux_lemma => kernel_rfl) (by as_aux_lemma => kernel_rfl) (fun _ _ _ h => h) (by rfl) ?hpu21 (by assumption) ?_
                case hpu21 => intro w hSw; go_simp; try with_reducible rfl
                simp only [List.setIfInBounds_toArray, List.set_cons_zero, List.set_cons_succ]
                refine OrdE.one (i := 6) (by as_aux_lemma => kernel_rfl) rfl (fun KK hK => ?_)
                go_simp
                have hA : Below v0.heap.size v0 (v0.alloc (.cells #[] 5)) := bel_alloc v0 _
                have hS5 : Rc (v0.alloc (.cells #[] 5)) b2 (.slice (some ⟨gX, 0, none⟩) q cX) nilV false (-1) ∧ (v0.alloc (.cells #[] 5)).heap[g14]? = some (.cells #[.int .i64 (xn : Int), .slice (some ⟨gy, 0, none⟩) 512 cy] 87 (0, 0)) ∧ (v0.alloc (.cells #[] 5)).cell? ⟨gX, xn, none⟩ = some (.slice (some ⟨gz, 0, none⟩) 512 cz) := ⟨(hA.block b2 hSS.1.lt).trans hSS.1, (hA.block g14 (Array.getElem?_eq_some_iff.1 hSS.2.1).1).trans hSS.2.1, (hA.cell (p := ⟨gX, xn, none⟩) (Array.getElem?_eq_some_iff.1 HGXD.out).1).trans hSS.2.2⟩
                refine hK.out _ _ (fun _ => hS5) ?_
                clear hK KK
                try refine OrdE.put (d := 81) rfl ?_
                try simp only [List.setIfInBounds_toArray, List.set_cons_zero, List.set_cons_succ]
                have HO0 : Hid ((v0.alloc (.cells #[] 5)).ownsRow v0.heap.size 5 1 (.slice (some ⟨v0.heap.size, 0, none⟩) 0 0) ([] : List Int).length (bytesV [])) := new_own v0 v0.heap.size (Nat.le_refl _)
                have hxbl := HKD.out.blk.len
                have hzbl := HBZD.out.blk.len
                have hyri : Ri v0 .u8 (some ⟨gy, 0, none⟩) cy xb := by obtain ⟨g1, c1, e1, r1⟩ := HKD.out.ri; cases e1; exact r1
                have hzri : Ri v0 .u8 (some ⟨gz, 0, none⟩) cz (loseF L O K torn at_ r (xn : Int)) := by obtain ⟨g1, c1, e1, r1⟩ := HBZD.out.ri; cases e1; exact r1
                have HN1 : Hid (∀ (j : Nat) (u : Value), (bytesV (xb.take an))[j]? = some u → (v0.alloc (.cells #[] 5)).cell? (Addr.add ⟨gy, 0, none⟩ j) = some u) := fun j u hu => by
                  have hj : j < (xb.take an).length := by have := (List.getElem?_eq_some_iff.1 hu).1; rwa [bytesV_len] at this
                  rw [List.length_take] at hj
                  obtain ⟨b', off, e9, _, hc⟩ := (hyri.later hA).cells (by omega)
                  cases e9
                  rw [Go.WideShapes.add_plain, hc j (by omega), ← hu, arr_at' (by rw [List.length_take]; omega), getD_take _ _ _ (by omega)]
                refine OrdE.one (i := 11) (by as_aux_lemma => kernel_rfl) rfl (fun KK hK => ?_)
                rw [if_pos (by rfl)]
                refine wp_appb (v0.alloc (.cells #[] 5)) (.tmp 81) (.tmp 85) rfl v0.heap.size _ [] rfl HO0.out ⟨gy, 0, none⟩ cy an (xb.take an) (by rw [List.length_take]; omega) rfl HN1.out (by rw [List.length_take]; simp <;> omega) hA.size (fun v1' w1 hown1 hgr1 => ?_)
                have hb1 := hA.trans (bel_grown HO0.out hgr1 hA.size)
                have hS51 : Rc w1 b2 (.slice (some ⟨gX, 0, none⟩) q cX) nilV false (-1) ∧ w1.heap[g14]? = some (.cells #[.int .i64 (xn : Int), .slice (some ⟨gy, 0, none⟩) 512 cy] 87 (0, 0)) ∧ w1.cell? ⟨gX, xn, none⟩ = some (.slice (some ⟨gz, 0, none⟩) 512 cz) := ⟨(hb1.block b2 hSS.1.lt).trans hSS.1, (hb1.block g14 (Array.getElem?_eq_some_iff.1 hSS.2.1).1).trans hSS.2.1, (hb1.cell (p := ⟨gX, xn, none⟩) (Array.getElem?_eq_some_iff.1 HGXD.out).1).trans hSS.2.2⟩
                refine hK.out _ _ (fun _ => hS51) ?_
                clear hK KK
                try refine OrdE.put (d := 86) rfl ?_
                try simp only [List.setIfInBounds_toArray, List.set_cons_zero, List.set_cons_succ]
                rw [List.nil_append] at hown1
                have HN2 : Hid (∀ (j : Nat) (u : Value), (bytesV ((loseF L O K torn at_ r (xn : Int)).drop an))[j]? = some u → w1.cell? (Addr.add ⟨gz, an, none⟩ j) = some u) := fun j u hu => by
                  have hj : j < ((loseF L O K torn at_ r (xn : Int)).drop an).length := by have := (List.getElem?_eq_some_iff.1 hu).1; rwa [bytesV_len] at this
                  rw [List.length_drop] at hj
                  obtain ⟨b', off, e9, _, hc⟩ := (hzri.later hb1).cells (by omega)
                  cases e9
                  have h9 := hc (an + j) (by omega)
                  rw [Nat.zero_add] at h9
                  rw [Go.WideShapes.add_plain, h9, ← hu, arr_at' (by rw [List.length_drop]; omega)]
                  simp [List.getD, List.getElem?_drop]
                have hsz1 := hb1.size
                clear hgr1 HO0 HN1 hS5
                refine OrdE.one (i := 22) (by as_aux_lemma => kernel_rfl) rfl (fun KK hK => ?_)
                rw [if_pos (by rfl)]
                refine wp_appb w1 (.tmp 86) (.tmp 96) rfl v0.heap.size _ (xb.take an) rfl hown1 ⟨gz, an, none⟩ (cz - an) (512 - an) ((loseF L O K torn at_ r (xn : Int)).drop an) (by rw [List.length_drop]; omega) rfl HN2.out (by rw [List.length_take, List.length_drop]; omega) hsz1 (fun v2' v2 hown2 hgr2 => ?_)
                have hbb := hb1.trans (bel_grown hown1 hgr2 hsz1)
                have hS6 : Rc v2 b2 (.slice (some ⟨gX, 0, none⟩) q cX) nilV false (-1) ∧ v2.heap[g14]? = some (.cells #[.int .i64 (xn : Int), .slice (some ⟨gy, 0, none⟩) 512 cy] 87 (0, 0)) ∧ v2.cell? ⟨gX, xn, none⟩ = some (.slice (some ⟨gz, 0, none⟩) 512 cz) := ⟨(hbb.block b2 hSS.1.lt).trans hSS.1, (hbb.block g14 (Array.getElem?_eq_some_iff.1 hSS.2.1).1).trans hSS.2.1, (hbb.cell (p := ⟨gX, xn, none⟩) (Array.getElem?_eq_some_iff.1 HGXD.out).1).trans hSS.2.2⟩
                refine hK.out _ _ (fun _ => hS6) ?_
                clear hK KK
                try refine OrdE.put (d := 97) rfl ?_
                try simp only [List.setIfInBounds_toArray, List.set_cons_zero, List.set_cons_succ]
                have HBK0 : Hid (Bk v2 v2' (tearL an xb (loseF L O K torn at_ r (xn : Int)))) := by
                  have hl9 : (xb.take an ++ (loseF L O K torn at_ r (xn : Int)).drop an).length = 512 := by rw [List.length_append, List.length_take, List.length_drop]; omega
                  rw [hl9] at hown2
                  exact Bk.own hown2 (tear_blk han' HKD.out.blk HBZD.out.blk)
                obtain ⟨g9, c9, hv9, _⟩ := HBK0.out.ri
                subst hv9
                have HBK := HBK0
                clear hown1 hown2 hgr2 hS51 hb1 hsz1 HN2 hyri hzri hA HBK0
                refine OrdE.one (i := 23) (by as_aux_lemma => kernel_rfl) rfl (fun KK hK => ?_)
                go_simp
                refine hK.out _ _ (fun _ => hS6) ?_
                clear hK KK
                try refine OrdE.put (d := 98) rfl ?_
                try simp only [List.setIfInBounds_toArray, List.set_cons_zero, List.set_cons_succ]
                have yc := hS6.2.2
                have yf : v2.frozen? ⟨gX, xn, none⟩ = false := Joins.unfrozen_of_block ((hbb.block gX (Array.getElem?_eq_some_iff.1 HGXD.out).1).trans HGXD.out) xn
                refine OrdE.one (i := 24) (by as_aux_lemma => kernel_rfl) rfl (fun KK hK => ?_)
                go_simp
                refine hK.out _ _ (fun h => absurd rfl h) ?_
                clear hK KK
                try simp only [List.setIfInBounds_toArray, List.set_cons_zero, List.set_cons_succ]
                refine OrdE.done (by as_aux_lemma => kernel_rfl) ?_ _
                have HJN : Hid (L2I w (v2.setCell ⟨gX, xn, none⟩ (.slice (some ⟨g9, 0, none⟩) 512 c9)) base b2 gr b2 (.slice (some ⟨gL, 0, none⟩) q cL) (.slice (some ⟨gW, 0, none⟩) m cW) (.slice (some ⟨gX, 0, none⟩) q cX) q (loseF L O K torn at_ (r + 1)) O f) := by
                  have h1 := (HNXT.out v2 (Bn HBD.out hbb)).set HBB.out xn hxn _ _ HBK.out
                  rw [HLS.out]
                  exact h1
                clear hS6 hSS yc yf hbb HBK HNXT HBD HKD HBZD HGXD HLS
                go_wp2_with fail
                exact ⟨⟨r + 1, by go_num, hrl, HJN⟩, by simp only [intOf]; omega⟩
            · have et : ((r : Int) == torn) = false := by simpa using htn
              obtain ⟨hkb⟩ : Nonempty (Bls (wr.alloc (.cells #[.int .i64 (xn : Int), .slice (some ⟨gy, 0, none⟩) 512 cy] 87)) a cap K) := ⟨HKX.out _ HJA.out.frd⟩
              by_cases hrk : r < nk
              · have hz5 : (r : Int) < (nk : Int) := by omega
                obtain ⟨bK, oK, rfl, hbK, hcK⟩ := hkb.cells (by rw [← HNK.out]; omega)
                have xk := hcK r (by rw [← HNK.out]; exact hrk)
                have hbits := hkb.most
                clear hcK
                cases hkk : K.getD r false
                · rw [hkk] at xk
                  rw [show keptN r K torn at_ = 0 from by unfold keptN; rw [if_neg htn, hkk]; rfl, show tearL 0 xb (loseF L O K torn at_ r (xn : Int)) = loseF L O K torn at_ r (xn : Int) from by simp [tearL], setI_self] at HLS
                  have HJN : Hid (L2I w (wr.alloc (.cells #[.int .i64 (xn : Int), .slice (some ⟨gy, 0, none⟩) 512 cy] 87)) base b2 gr b2 (.slice (some ⟨gL, 0, none⟩) q cL) (.slice (some ⟨gW, 0, none⟩) m cW) (.slice (some ⟨gX, 0, none⟩) q cX) q (loseF L O K torn at_ (r + 1)) O f) := by rw [HLS.out]; exact HJA.out
                  clear HJA HKA HYA HLS HE HA
                  go_wp2_with (refine wpList_load_mid rfl 87 _ rfl gW (r * 2) rfl [.int .i64 (xn : Int), .slice (some ⟨gy, 0, none⟩) 512 cy] _ hrg Try.underlying87 rfl hs87 ?_)
                  exact ⟨⟨r + 1, by go_num, hrl, HJN⟩, by simp only [intOf]; omega⟩
                · rw [hkk] at xk
                  rw [show keptN r K torn at_ = 512 from by unfold keptN; rw [if_neg htn, hkk]; rfl] at HLS
                  go_wp2_with (refine wpList_load_mid rfl 87 _ rfl gW (r * 2) rfl [.int .i64 (xn : Int), .slice (some ⟨gy, 0, none⟩) 512 cy] _ hrg Try.underlying87 rfl hs87 ?_)
                  obtain ⟨g14, hg14⟩ : ∃ g, g = wr.heap.size := ⟨_, rfl⟩
                  have hge14 := HA.out.size
                  rw [← hg14] at HE ⊢
                  clear hg14 HA hge14
                  have HNXT : Hid (∀ W, Below (wr.alloc (.cells #[.int .i64 (xn : Int), .slice (some ⟨gy, 0, none⟩) 512 cy] 87)).heap.size (wr.alloc (.cells #[.int .i64 (xn : Int), .slice (some ⟨gy, 0, none⟩) 512 cy] 87)) W → L2I w W base b2 gr b2 (.slice (some ⟨gL, 0, none⟩) q cL) (.slice (some ⟨gW, 0, none⟩) m cW) (.slice (some ⟨gX, 0, none⟩) q cX) q (loseF L O K torn at_ r) O f) := fun W hW => HJA.out.below hW HBB.out
                  generalize wr.alloc (.cells #[.int .i64 (xn : Int), .slice (some ⟨gy, 0, none⟩) 512 cy] 87) = wA at *
                  obtain ⟨g', c', e', _, _, _, ⟨csX, hgX⟩, hXa⟩ := HJA.out.rowX.at (by omega)
                  cases e'
                  obtain ⟨z0, hz0', hbz⟩ := hXa xn hxn
                  obtain ⟨gz, cz, hzv, hzr⟩ := hbz.ri
                  subst hzv
                  have hzroom := hzr.room
                  have hzmost := hzr.most
                  rw [hbz.blk.len] at hzroom
                  unfold maxLen at hzmost
                  have HBZ := hid hbz
                  have HGX := hid hgX
                  clear hXa hbz hzr
                  have hS0 : Rc wA.drew b2 (.slice (some ⟨gX, 0, none⟩) q cX) nilV false (-1) ∧ wA.drew.heap[g14]? = some (.cells #[.int .i64 (xn : Int), .slice (some ⟨gy, 0, none⟩) 512 cy] 87 (0, 0)) ∧ wA.drew.cell? ⟨gX, xn, none⟩ = some (.slice (some ⟨gz, 0, none⟩) 512 cz) := ⟨HJA.out.new, HE.out, hz0'⟩
                  refine OrdE.region (fun W => Rc W b2 (.slice (some ⟨gX, 0, none⟩) q cX) nilV false (-1) ∧ W.heap[g14]? = some (.cells #[.int .i64 (xn : Int), .slice (some ⟨gy, 0, none⟩) 512 cy] 87 (0, 0)) ∧ W.cell? ⟨gX, xn, none⟩ = some (.slice (some ⟨gz, 0, none⟩) 512 cz)) 11 (by kernel_rfl) hS0 (fun hSS => ?_)
                  have HBD : Hid (Below wA.heap.size wA wA.drew) := (Below.refl _ _).drew
                  have HKD : Hid (Bk wA.drew (.slice (some ⟨gy, 0, none⟩) 512 cy) xb) := HKA.out
                  have HBZD : Hid (Bk wA.drew (.slice (some ⟨gz, 0, none⟩) 512 cz) (loseF L O K torn at_ r (xn : Int))) := HBZ.out
                  have HGXD : Hid (wA.drew.heap[gX]? = some (.cells csX 33 (0, 0))) := HGX.out
                  clear hS0 HKA HYA HBZ HGX HJA HE hz0' e1 d1 d2 hrg hs87
                  generalize wA.drew = v0 at *
                  refine OrdE.take (i := 0) (d := 110) (v := ?vpk0) rfl rfl rfl (by as_aux_lemma => kernel_rfl) (by as_aux_lemma => kernel_rfl) (by as_aux_lemma => kernel_rfl) (by as_aux_lemma => kernel_rfl) (fun _ _ _ h => h) (by rfl) ?hpk0 (by assumption) ?_
                  case hpk0 => intro w hSw; go_simp; try with_reducible rfl
                  simp only [List.setIfInBounds_toArray, List.set_cons_zero, List.set_cons_succ]
                  refine OrdE.take (i := 1) (d := 111) (v := ?vpk1) rfl rfl rfl (by as_aux_lemma => kernel_rfl) (by as_aux_lemma => kernel_rfl) (by as_aux_lemma => kernel_rfl) (by as_aux_lemma => kernel_rfl) (fun _ _ _ h => h) (by rfl) ?hpk1 (by assumption) ?_
                  case hpk1 => intro w hSw; go_simp; try with_reducible rfl
                  simp only [List.setIfInBounds_toArray, List.set_cons_zero, List.set_cons_succ]
                  refine OrdE.take (i := 2) (d := 112) (v := ?vpk2) rfl rfl rfl (by as_aux_lemma => kernel_rfl) (by as_aux_lemma => kernel_rfl) (by as_aux_lemma => kernel_rfl) (by as_aux_lemma => kernel_rfl) (fun _ _ _ h => h) (by rfl) ?hpk2 (by assumption) ?_
                  case hpk2 => intro w hSw; go_simp; try with_reducible rfl
                  simp only [List.setIfInBounds_toArray, List.set_cons_zero, List.set_cons_succ]
                  refine OrdE.take (i := 3) (d := 113) (v := .slice (some ⟨gX, 0, none⟩) q cX) rfl rfl rfl (by as_aux_lemma => kernel_rfl) (by as_aux_lemma => kernel_rfl) (by as_aux_lemma => kernel_rfl) (by as_aux_lemma => kernel_rfl) (fun _ _ _ h => h) (by rfl) ?hpk3 (by assumption) ?_
                  case hpk3 => intro w hSw; obtain ⟨q0, q1, q2, q3, q4⟩ := hSw.1.cells; go_simp; try with_reducible rfl
                  simp only [List.setIfInBounds_toArray, List.set_cons_zero, List.set_cons_succ]
                  refine OrdE.take (i := 4) (d := 114) (v := ?vpk4) rfl rfl rfl (by as_aux_lemma => kernel_rfl) (by as_aux_lemma => kernel_rfl) (by as_aux_lemma => kernel_rfl) (by as_aux_lemma => kernel_rfl) (fun _ _ _ h => h) (by rfl) ?hpk4 (by assumption) ?_
                  case hpk4 => intro w hSw; go_simp; try with_reducible rfl
                  simp only [List.setIfInBounds_toArray, List.set_cons_zero, List.set_cons_succ]
                  refine OrdE.take (i := 5) (d := 115) (v := .int .i64 (xn : Int)) rfl rfl rfl (by as_aux_lemma => kernel_rfl) (by as_aux_lemma => kernel_rfl) (by as_aux_lemma => kernel_rfl) (by as_aux_lemma => kernel_rfl) (fun _ _ _ h => h) (by rfl) ?hpk5 (by assumption) ?_
                  case hpk5 => intro w hSw; have q9 := Joins.cell_of_block hSw.2.1 0; simp only [List.getElem?_toArray, List.getElem?_cons_zero] at q9; go_simp; try with_reducible rfl
                  simp only [List.setIfInBounds_toArray, List.set_cons_zero, List.set_cons_succ]
                  refine OrdE.take (i := 7) (d := 117) (v := ?vpk7) rfl rfl rfl (by as_aux_lemma => kernel_rfl) (by as_aux_lemma => kernel_rfl) (by as_aux_lemma => kernel_rfl) (by as_aux_lemma => kernel_rfl) (fun _ _ _ h => h) (by rfl) ?hpk7 (by assumption) ?_
                  case hpk7 => intro w hSw; go_simp; try with_reducible rfl
                  simp only [List.setIfInBounds_toArray, List.set_cons_zero, List.set_cons_succ]
                  refine OrdE.take (i := 8) (d := 118) (v := .slice (some ⟨gy, 0, none⟩) 512 cy) rfl rfl rfl (by as_aux_lemma => kernel_rfl) (by as_aux_lemma => kernel_rfl) (by as_aux_lemma => kernel_rfl) (by as_aux_lemma => kernel_rfl) (fun _ _ _ h => h) (by rfl) ?hpk8 (by assumption) ?_
                  case hpk8 => intro w hSw; have q9 := Joins.cell_of_block hSw.2.1 1; simp only [List.getElem?_toArray, List.getElem?_cons_zero, List.getElem?_cons_succ] at q9; go_simp; try with_reducible rfl
                  simp only [List.setIfInBounds_toArray, List.set_cons_zero, List.set_cons_succ]
                  refine OrdE.one (i := 6) (by as_aux_lemma => kernel_rfl) rfl (fun KK hK => ?_)
                  go_simp
                  have hA : Below v0.heap.size v0 (v0.alloc (.cells #[] 5)) := bel_alloc v0 _
                  have hS5 : Rc (v0.alloc (.cells #[] 5)) b2 (.slice (some ⟨gX, 0, none⟩) q cX) nilV false (-1) ∧ (v0.alloc (.cells #[] 5)).heap[g14]? = some (.cells #[.int .i64 (xn : Int), .slice (some ⟨gy, 0, none⟩) 512 cy] 87 (0, 0)) ∧ (v0.alloc (.cells #[] 5)).cell? ⟨gX, xn, none⟩ = some (.slice (some ⟨gz, 0, none⟩) 512 cz) := ⟨(hA.block b2 hSS.1.lt).trans hSS.1, (hA.block g14 (Array.getElem?_eq_some_iff.1 hSS.2.1).1).trans hSS.2.1, (hA.cell (p := ⟨gX, xn, none⟩) (Array.getElem?_eq_some_iff.1 HGXD.out).1).trans hSS.2.2⟩
                  refine hK.out _ _ (fun _ => hS5) ?_
                  clear hK KK
                  try refine OrdE.put (d := 116) rfl ?_
                  try simp only [List.setIfInBounds_toArray, List.set_cons_zero, List.set_cons_succ]
                  refine OrdE.one (i := 9) (by as_aux_lemma => kernel_rfl) rfl (fun KK hK => ?_)
                  rw [if_pos (by rfl)]
                  refine wp_fresh v0 (.tmp 116) (.tmp 118) rfl rfl (.slice (some ⟨gy, 0, none⟩) 512 cy) xb rfl HKD.out (fun g9 c9 cs v2 hg9 hge hc1 hc2 htk hbb => ?_)
                  have hS6 : Rc v2 b2 (.slice (some ⟨gX, 0, none⟩) q cX) nilV false (-1) ∧ v2.heap[g14]? = some (.cells #[.int .i64 (xn : Int), .slice (some ⟨gy, 0, none⟩) 512 cy] 87 (0, 0)) ∧ v2.cell? ⟨gX, xn, none⟩ = some (.slice (some ⟨gz, 0, none⟩) 512 cz) := ⟨(hbb.block b2 hSS.1.lt).trans hSS.1, (hbb.block g14 (Array.getElem?_eq_some_iff.1 hSS.2.1).1).trans hSS.2.1, (hbb.cell (p := ⟨gX, xn, none⟩) (Array.getElem?_eq_some_iff.1 HGXD.out).1).trans hSS.2.2⟩
                  refine hK.out _ _ (fun _ => hS6) ?_
                  clear hK KK
                  try refine OrdE.put (d := 119) rfl ?_
                  try simp only [List.setIfInBounds_toArray, List.set_cons_zero, List.set_cons_succ]
                  have HBK : Hid (Bk v2 (.slice (some ⟨g9, 0, none⟩) 512 c9) (tearL 512 xb (loseF L O K torn at_ r (xn : Int)))) := by
                    show Bk _ _ _
                    rw [tear_all HKD.out.blk HBZD.out.blk]
                    exact ⟨g9, c9, cs, (0, 0), rfl, hc1, hc2, hg9, htk, HKD.out.blk⟩
                  clear hg9 hge hc1 hc2 htk hS5 hA
                  refine OrdE.one (i := 10) (by as_aux_lemma => kernel_rfl) rfl (fun KK hK => ?_)
                  go_simp
                  refine hK.out _ _ (fun _ => hS6) ?_
                  clear hK KK
                  try refine OrdE.put (d := 120) rfl ?_
                  try simp only [List.setIfInBounds_toArray, List.set_cons_zero, List.set_cons_succ]
                  have yc := hS6.2.2
                  have yf : v2.frozen? ⟨gX, xn, none⟩ = false := Joins.unfrozen_of_block ((hbb.block gX (Array.getElem?_eq_some_iff.1 HGXD.out).1).trans HGXD.out) xn
                  refine OrdE.one (i := 11) (by as_aux_lemma => kernel_rfl) rfl (fun KK hK => ?_)
                  go_simp
                  refine hK.out _ _ (fun h => absurd rfl h) ?_
                  clear hK KK
                  try simp only [List.setIfInBounds_toArray, List.set_cons_zero, List.set_cons_succ]
                  refine OrdE.done (by as_aux_lemma => kernel_rfl) ?_ _
                  have HJN : Hid (L2I w (v2.setCell ⟨gX, xn, none⟩ (.slice (some ⟨g9, 0, none⟩) 512 c9)) base b2 gr b2 (.slice (some ⟨gL, 0, none⟩) q cL) (.slice (some ⟨gW, 0, none⟩) m cW) (.slice (some ⟨gX, 0, none⟩) q cX) q (loseF L O K torn at_ (r + 1)) O f) := by
                    have h1 := (HNXT.out v2 (Bn HBD.out hbb)).set HBB.out xn hxn _ _ HBK.out
                    rw [HLS.out]
                    exact h1
                  clear hS6 hSS yc yf hbb HBK HNXT HBD HKD HBZD HGXD HLS
                  go_wp2_with fail
                  exact ⟨⟨r + 1, by go_num, hrl, HJN⟩, by simp only [intOf]; omega⟩
              · have hz5 : ¬ (r : Int) < (nk : Int) := by omega
                rw [show keptN r K torn at_ = 0 from by unfold keptN; rw [if_neg htn, show K.getD r false = false from by simp [List.getD, List.getElem?_eq_none (show K.length ≤ r by rw [← HNK.out]; omega)]]; rfl, show tearL 0 xb (loseF L O K torn at_ r (xn : Int)) = loseF L O K torn at_ r (xn : Int) from by simp [tearL], setI_self] at HLS
                have HJN : Hid (L2I w (wr.alloc (.cells #[.int .i64 (xn : Int), .slice (some ⟨gy, 0, none⟩) 512 cy] 87)) base b2 gr b2 (.slice (some ⟨gL, 0, none⟩) q cL) (.slice (some ⟨gW, 0, none⟩) m cW) (.slice (some ⟨gX, 0, none⟩) q cX) q (loseF L O K torn at_ (r + 1)) O f) := by rw [HLS.out]; exact HJA.out
                clear HJA HKA HYA HLS HE HA hkb
                go_wp2_with (refine wpList_load_mid rfl 87 _ rfl gW (r * 2) rfl [.int .i64 (xn : Int), .slice (some ⟨gy, 0, none⟩) 512 cy] _ hrg Try.underlying87 rfl hs87 ?_)
                exact ⟨⟨r + 1, by go_num, hrl, HJN⟩, by simp only [intOf]; omega⟩
          · have hrn : r = m := by omega
            subst hrn
            have hz : ¬ (r : Int) < (r : Int) := by omega
            have HRV : Hid (Rv wr base b2 (.slice (some ⟨gX, 0, none⟩) q cX) nilV q (loseF L O K torn at_ r) [] (-1)) := by
              obtain ⟨xs, h1, h2⟩ := HJ.out.rowX
              exact ⟨HJ.out.new, ⟨xs, own_mono h1 HBB.out, h2⟩, ⟨[], ⟨rfl, .inl ⟨rfl, rfl⟩⟩, rfl, fun k hk => absurd hk (Nat.not_lt_zero _)⟩, fun _ hx => absurd hx List.not_mem_nil, ⟨by omega, by omega⟩, HON.out, HBB.out⟩
            have HFD := hid HJ.out.frd
            rw [HM.out] at HRV
            clear HJ
            go_wp2_with fail
            go_ret2
            first
              | exact ⟨_, _, rfl, HRV.out, HFD.out⟩
              | exact ⟨_, rfl, ⟨_, HRV.out⟩, HFD.out⟩
      · have he : an = 0 := by omega
        subst he
        clear hane
        go_wp2_with fail
        go_loopw [13] (fun j wr => ∃ r : Nat, j = .int .i64 (r : Int) ∧ r ≤ m ∧ Hid (L2I w wr base b2 gr b2 (.slice (some ⟨gL, 0, none⟩) q cL) (.slice aW m cW) (.slice (some ⟨gX, 0, none⟩) q cX) q (loseF L O K torn at_ r) O f)) (fun j _ => m - (intOf j).toNat)
        case atStart => exact ⟨0, rfl, Nat.zero_le _, HJ0.out⟩
        case round =>
          clear HJ0
          obtain ⟨r, rfl, hr, HJ⟩ := hrel
          obtain ⟨_, e1, _, _, _⟩ := HJ.out.old.cells
          by_cases hrl : r < m
          · have hz : (r : Int) < (m : Int) := by omega
            have hzz : (0 : Int) ≤ (r : Int) := by omega
            have hrO : r < O.length := by rw [← HM.out]; exact hrl
            obtain ⟨gW, cW', e, hw1, hw2, _, _, hwa⟩ := HJ.out.rowW.at (by omega)
            rw [← HM.out] at e hw1
            cases e
            unfold maxLen at hw2
            obtain ⟨d1, y, d2, hky⟩ := hwa r hrO
            obtain ⟨gy, cy, hyv, hyr⟩ := hky.ri
            subst hyv
            have hmem := HOO.out _ (getD_mem hrO)
            have HLS : Hid (loseF L O K torn at_ (r + 1) = setI (loseF L O K torn at_ r) (O.getD r (0, [])).1 (tearL (keptN r K torn at_) (O.getD r (0, [])).2 (loseF L O K torn at_ r (O.getD r (0, [])).1))) := rfl
            have HKY := hid hky
            have HYR := hid hyr
            clear hwa hky hyr
            generalize O.getD r (0, []) = x at *
            obtain ⟨xi, xb⟩ := x
            dsimp only at *
            obtain ⟨xn, rfl⟩ : ∃ z : Nat, xi = (z : Int) := ⟨xi.toNat, by omega⟩
            have hxn : xn < q := by omega
            have hxz : (xn : Int) < (q : Int) := by omega
            have hxz0 : (0 : Int) ≤ (xn : Int) := by omega
            have hrg : wr.rangeAt gW (r * 2) [.int .i64 (xn : Int), .slice (some ⟨gy, 0, none⟩) 512 cy] := fun j u hu => by
              match j, hu with
              | 0, hu => cases hu; exact d1
              | 1, hu => cases hu; exact d2
            have hs87 : (Try.prog.info? 87).map (·.size) = some ([.int .i64 (xn : Int), .slice (some ⟨gy, 0, none⟩) 512 cy] : List Value).length := by kernel_rfl
            have HA := hid (bel_alloc wr (.cells #[.int .i64 (xn : Int), .slice (some ⟨gy, 0, none⟩) 512 cy] 87))
            have HE := hid (heap_new wr (.cells #[.int .i64 (xn : Int), .slice (some ⟨gy, 0, none⟩) 512 cy] 87))
            have HJA := hid (HJ.out.below HA.out HBB.out)
            have HKA := hid (HKY.out.keep (fun i cs fr hi => (HA.out.block i (Array.getElem?_eq_some_iff.1 hi).1).trans hi))
            have HYA := hid (HYR.out.later HA.out)
            clear HJ HKY HYR
            by_cases htn : (r : Int) = torn
            · have et : ((r : Int) == torn) = true := by simpa using htn
              rw [show keptN r K torn at_ = 0 from by unfold keptN; rw [if_pos htn]; exact HAN.out.symm] at HLS
              clear htn
              go_wp2_with (refine wpList_load_mid rfl 87 _ rfl gW (r * 2) rfl [.int .i64 (xn : Int), .slice (some ⟨gy, 0, none⟩) 512 cy] _ hrg Try.underlying87 rfl hs87 ?_)
              obtain ⟨g14, hg14⟩ : ∃ g, g = wr.heap.size := ⟨_, rfl⟩
              have hge14 := HA.out.size
              rw [← hg14] at HE ⊢
              clear hg14 HA hge14
              have HNXT : Hid (∀ W, Below (wr.alloc (.cells #[.int .i64 (xn : Int), .slice (some ⟨gy, 0, none⟩) 512 cy] 87)).heap.size (wr.alloc (.cells #[.int .i64 (xn : Int), .slice (some ⟨gy, 0, none⟩) 512 cy] 87)) W → L2I w W base b2 gr b2 (.slice (some ⟨gL, 0, none⟩) q cL) (.slice (some ⟨gW, 0, none⟩) m cW) (.slice (some ⟨gX, 0, none⟩) q cX) q (loseF L O K torn at_ r) O f) := fun W hW => HJA.out.below hW HBB.out
              generalize wr.alloc (.cells #[.int .i64 (xn : Int), .slice (some ⟨gy, 0, none⟩) 512 cy] 87) = wA at *
              obtain ⟨g', c', e', _, _, _, ⟨csX, hgX⟩, hXa⟩ := HJA.out.rowX.at (by omega)
              cases e'
              obtain ⟨z0, hz0', hbz⟩ := hXa xn hxn
              obtain ⟨gz, cz, hzv, hzr⟩ := hbz.ri
              subst hzv
              have hzroom := hzr.room
              have hzmost := hzr.most
              rw [hbz.blk.len] at hzroom
              unfold maxLen at hzmost
              have HBZ := hid hbz
              have HGX := hid hgX
              clear hXa hbz hzr
              have hS0 : Rc wA.drew b2 (.slice (some ⟨gX, 0, none⟩) q cX) nilV false (-1) ∧ wA.drew.heap[g14]? = some (.cells #[.int .i64 (xn : Int), .slice (some ⟨gy, 0, none⟩) 512 cy] 87 (0, 0)) ∧ wA.drew.cell? ⟨gX, xn, none⟩ = some (.slice (some ⟨gz, 0, none⟩) 512 cz) := ⟨HJA.out.new, HE.out, hz0'⟩
              have hq3 : (0 : Int) ≤ (cy : Int) := by have h1 := HYA.out.room; rw [HKA.out.blk.len] at h1; omega
              have hq4 : (0 : Int) ≤ (cz : Int) := by omega
              have han' : 0 ≤ 512 := by omega
              have hcn : ¬ cz = 0 := by omega
              refine OrdE.region (fun W => Rc W b2 (.slice (some ⟨gX, 0, none⟩) q cX) nilV false (-1) ∧ W.heap[g14]? = some (.cells #[.int .i64 (xn : Int), .slice (some ⟨gy, 0, none⟩) 512 cy] 87 (0, 0)) ∧ W.cell? ⟨gX, xn, none⟩ = some (.slice (some ⟨gz, 0, none⟩) 512 cz)) 24 (by kernel_rfl) hS0 (fun hSS => ?_)
              have HBD : Hid (Below wA.heap.size wA wA.drew) := (Below.refl _ _).drew
              have HKD : Hid (Bk wA.drew (.slice (some ⟨gy, 0, none⟩) 512 cy) xb) := HKA.out
              have HBZD : Hid (Bk wA.drew (.slice (some ⟨gz, 0, none⟩) 512 cz) (loseF L O K torn at_ r (xn : Int))) := HBZ.out
              have HGXD : Hid (wA.drew.heap[gX]? = some (.cells csX 33 (0, 0))) := HGX.out
              clear hS0 HKA HYA HBZ HGX HJA HE hz0' e1 d1 d2 hrg hs87
              generalize wA.drew = v0 at *
              refine OrdE.take (i := 0) (d := 75) (v := ?vzu0) rfl rfl rfl (by as_aux_lemma => kernel_rfl) (by as_aux_lemma => kernel_rfl) (by as_aux_lemma => kernel_rfl) (by as_aux_lemma => kernel_rfl) (fun _ _ _ h => h) (by rfl) ?hzu0 (by assumption) ?_
              case hzu0 => intro w hSw; go_simp; try with_reducible rfl
              simp only [List.setIfInBounds_toArray, List.set_cons_zero, List.set_cons_succ]
              refine OrdE.take (i := 1) (d := 76) (v := ?vzu1) rfl rfl rfl (by as_aux_lemma => kernel_rfl) (by as_aux_lemma => kernel_rfl) (by as_aux_lemma => kernel_rfl) (by as_aux_lemma => kernel_rfl) (fun _ _ _ h => h) (by rfl) ?hzu1 (by assumption) ?_
              case hzu1 => intro w hSw; go_simp; try with_reducible rfl
              simp only [List.setIfInBounds_toArray, List.set_cons_zero, List.set_cons_succ]
              refine OrdE.take (i := 2) (d := 77) (v := ?vzu2) rfl rfl rfl (by as_aux_lemma => kernel_rfl) (by as_aux_lemma => kernel_rfl) (by as_aux_lemma => kernel_rfl) (by as_aux_lemma => kernel_rfl) (fun _ _ _ h => h) (by rfl) ?hzu2 (by assumption) ?_
              case hzu2 => intro w hSw; go_simp; try with_reducible rfl
              simp only [List.setIfInBounds_toArray, List.set_cons_zero, List.set_cons_succ]
              refine OrdE.take (i := 3) (d := 78) (v := .slice (some ⟨gX, 0, none⟩) q cX) rfl rfl rfl (by as_aux_lemma => kernel_rfl) (by as_aux_lemma => kernel_rfl) (by as_aux_lemma => kernel_rfl) (by as_aux_lemma => kernel_rfl) (fun _ _ _ h => h) (by rfl) ?hzu3 (by assumption) ?_
              case hzu3 => intro w hSw; obtain ⟨q0, q1, q2, q3, q4⟩ := hSw.1.cells; go_simp; try with_reducible rfl
              simp only [List.setIfInBounds_toArray, List.set_cons_zero, List.set_cons_succ]
              refine OrdE.take (i := 4) (d := 79) (v := ?vzu4) rfl rfl rfl (by as_aux_lemma => kernel_rfl) (by as_aux_lemma => kernel_rfl) (by as_aux_lemma => kernel_rfl) (by as_aux_lemma => kernel_rfl) (fun _ _ _ h => h) (by rfl) ?hzu4 (by assumption) ?_
              case hzu4 => intro w hSw; go_simp; try with_reducible rfl
              simp only [List.setIfInBounds_toArray, List.set_cons_zero, List.set_cons_succ]
              refine OrdE.take (i := 5) (d := 80) (v := .int .i64 (xn : Int)) rfl rfl rfl (by as_aux_lemma => kernel_rfl) (by as_aux_lemma => kernel_rfl) (by as_aux_lemma => kernel_rfl) (by as_aux_lemma => kernel_rfl) (fun _ _ _ h => h) (by rfl) ?hzu5 (by assumption) ?_
              case hzu5 => intro w hSw; have q9 := Joins.cell_of_block hSw.2.1 0; simp only [List.getElem?_toArray, List.getElem?_cons_zero] at q9; go_simp; try with_reducible rfl
              simp only [List.setIfInBounds_toArray, List.set_cons_zero, List.set_cons_succ]
              refine OrdE.take (i := 7) (d := 82) (v := ?vzu7) rfl rfl rfl (by as_aux_lemma => kernel_rfl) (by as_aux_lemma => kernel_rfl) (by as_aux_lemma => kernel_rfl) (by as_aux_lemma => kernel_rfl) (fun _ _ _ h => h) (by rfl) ?hzu7 (by assumption) ?_
              case hzu7 => intro w hSw; go_simp; try with_reducible rfl
              simp only [List.setIfInBounds_toArray, List.set_cons_zero, List.set_cons_succ]
              refine OrdE.take (i := 8) (d := 83) (v := .slice (some ⟨gy, 0, none⟩) 512 cy) rfl rfl rfl (by as_aux_lemma => kernel_rfl) (by as_aux_lemma => kernel_rfl) (by as_aux_lemma => kernel_rfl) (by as_aux_lemma => kernel_rfl) (fun _ _ _ h => h) (by rfl) ?hzu8 (by assumption) ?_
              case hzu8 => intro w hSw; have q9 := Joins.cell_of_block hSw.2.1 1; simp only [List.getElem?_toArray, List.getElem?_cons_zero, List.getElem?_cons_succ] at q9; go_simp; try with_reducible rfl
              simp only [List.setIfInBounds_toArray, List.set_cons_zero, List.set_cons_succ]
              refine OrdE.take (i := 9) (d := 84) (v := ?vzu9) rfl rfl rfl (by as_aux_lemma => kernel_rfl) (by as_aux_lemma => kernel_rfl) (by as_aux_lemma => kernel_rfl) (by as_aux_lemma => kernel_rfl) (fun _ _ _ h => h) (by rfl) ?hzu9 (by assumption) ?_
              case hzu9 => intro w hSw; go_simp; try with_reducible rfl
              simp only [List.setIfInBounds_toArray, List.set_cons_zero, List.set_cons_succ]
              refine OrdE.take (i := 10) (d := 85) (v := .slice (some ⟨gy, 0, none⟩) 0 cy) rfl rfl rfl (by as_aux_lemma => kernel_rfl) (by as_aux_lemma => kernel_rfl) (by as_aux_lemma => kernel_rfl) (by as_aux_lemma => kernel_rfl) (fun _ _ _ h => h) (by rfl) ?hzu10 (by assumption) ?_
              case hzu10 => intro w hSw; go_simp; try with_reducible rfl
              simp only [List.setIfInBounds_toArray, List.set_cons_zero, List.set_cons_succ]
              refine OrdE.take (i := 12) (d := 87) (v := ?vzu12) rfl rfl rfl (by as_aux_lemma => kernel_rfl) (by as_aux_lemma => kernel_rfl) (by as_aux_lemma => kernel_rfl) (by as_aux_lemma => kernel_rfl) (fun _ _ _ h => h) (by rfl) ?hzu12 (by assumption) ?_
              case hzu12 => intro w hSw; go_simp; try with_reducible rfl
              simp only [List.setIfInBounds_toArray, List.set_cons_zero, List.set_cons_succ]
              refine OrdE.take (i := 13) (d := 88) (v := ?vzu13) rfl rfl rfl (by as_aux_lemma => kernel_rfl) (by as_aux_lemma => kernel_rfl) (by as_aux_lemma => kernel_rfl) (by as_aux_lemma => kernel_rfl) (fun _ _ _ h => h) (by rfl) ?hzu13 (by assumption) ?_
              case hzu13 => intro w hSw; go_simp; try with_reducible rfl
              simp only [List.setIfInBounds_toArray, List.set_cons_zero, List.set_cons_succ]
              refine OrdE.take (i := 14) (d := 89) (v := ?vzu14) rfl rfl rfl (by as_aux_lemma => kernel_rfl) (by as_aux_lemma => kernel_rfl) (by as_aux_lemma => kernel_rfl) (by as_aux_lemma => kernel_rfl) (fun _ _ _ h => h) (by rfl) ?hzu14 (by assumption) ?_
              case hzu14 => intro w hSw; go_simp; try with_reducible rfl
              simp only [List.setIfInBounds_toArray, List.set_cons_zero, List.set_cons_succ]
              refine OrdE.take (i := 15) (d := 90) (v := .slice (some ⟨gX, 0, none⟩) q cX) rfl rfl rfl (by as_aux_lemma => kernel_rfl) (by as_aux_lemma => kernel_rfl) (by as_aux_lemma => kernel_rfl) (by as_aux_lemma => kernel_rfl) (fun _ _ _ h => h) (by rfl) ?hzu15 (by assumption) ?_
              case hzu15 => intro w hSw; obtain ⟨q0, q1, q2, q3, q4⟩ := hSw.1.cells; go_simp; try with_reducible rfl
              simp only [List.setIfInBounds_toArray, List.set_cons_zero, List.set_cons_succ]
              refine OrdE.take (i := 16) (d := 91) (v := ?vzu16) rfl rfl rfl (by as_aux_lemma => kernel_rfl) (by as_aux_lemma => kernel_rfl) (by as_aux_lemma => kernel_rfl) (by as_aux_lemma => kernel_rfl) (fun _ _ _ h => h) (by rfl) ?hzu16 (by assumption) ?_
              case hzu16 => intro w hSw; go_simp; try with_reducible rfl
              simp only [List.setIfInBounds_toArray, List.set_cons_zero, List.set_cons_succ]
              refine OrdE.take (i := 17) (d := 92) (v := .int .i64 (xn : Int)) rfl rfl rfl (by as_aux_lemma => kernel_rfl) (by as_aux_lemma => kernel_rfl) (by as_aux_lemma => kernel_rfl) (by as_aux_lemma => kernel_rfl) (fun _ _ _ h => h) (by rfl) ?hzu17 (by assumption) ?_
              case hzu17 => intro w hSw; have q9 := Joins.cell_of_block hSw.2.1 0; simp only [List.getElem?_toArray, List.getElem?_cons_zero] at q9; go_simp; try with_reducible rfl
              simp only [List.setIfInBounds_toArray, List.set_cons_zero, List.set_cons_succ]
              refine OrdE.take (i := 18) (d := 93) (v := .pointer (some ⟨gX, xn, none⟩)) rfl rfl rfl (by as_aux_lemma => kernel_rfl) (by as_aux_lemma => kernel_rfl) (by as_aux_lemma => kernel_rfl) (by as_aux_lemma => kernel_rfl) (fun _ _ _ h => h) (by rfl) ?hzu18 (by assumption) ?_
              case hzu18 => intro w hSw; go_simp; try with_reducible rfl
              simp only [List.setIfInBounds_toArray, List.set_cons_zero, List.set_cons_succ]
              refine OrdE.take (i := 19) (d := 94) (v := .slice (some ⟨gz, 0, none⟩) 512 cz) rfl rfl rfl (by as_aux_lemma => kernel_rfl) (by as_aux_lemma => kernel_rfl) (by as_aux_lemma => kernel_rfl) (by as_aux_lemma => kernel_rfl) (fun _ _ _ h => h) (by rfl) ?hzu19 (by assumption) ?_
              case hzu19 => intro w hSw; have q9 := hSw.2.2; go_simp; try with_reducible rfl
              simp only [List.setIfInBounds_toArray, List.set_cons_zero, List.set_cons_succ]
              refine OrdE.take (i := 20) (d := 95) (v := ?vzu20) rfl rfl rfl (by as_aux_lemma => kernel_rfl) (by as_aux_lemma => kernel_rfl) (by as_aux_lemma => kernel_rfl) (by as_aux_lemma => kernel_rfl) (fun _ _ _ h => h) (by rfl) ?hzu20 (by assumption) ?_
              case hzu20 => intro w hSw; go_simp; try with_reducible rfl
              simp only [List.setIfInBounds_toArray, List.set_cons_zero, List.set_cons_succ]
              refine OrdE.take (i := 21) (d := 96) (v := .slice (some ⟨gz, 0, none⟩) (512 - 0) (cz - 0)) rfl rfl rfl (by as_aux_lemma => kernel_rfl) (by as_aux_lemma => kernel_rfl) (by as_aux_lemma => kernel_rfl) (by as_aux_lemma => kernel_rfl) (fun _ _ _ h => h) (by rfl) ?hzu21 (by assumption) ?_
              case hzu21 => intro w hSw; go_simp; try with_reducible rfl
              simp only [List.setIfInBounds_toArray, List.set_cons_zero, List.set_cons_succ]
              refine OrdE.one (i := 6) (by as_aux_lemma => kernel_rfl) rfl (fun KK hK => ?_)
              go_simp
              have hA : Below v0.heap.size v0 (v0.alloc (.cells #[] 5)) := bel_alloc v0 _
              have hS5 : Rc (v0.alloc (.cells #[] 5)) b2 (.slice (some ⟨gX, 0, none⟩) q cX) nilV false (-1) ∧ (v0.alloc (.cells #[] 5)).heap[g14]? = some (.cells #[.int .i64 (xn : Int), .slice (some ⟨gy, 0, none⟩) 512 cy] 87 (0, 0)) ∧ (v0.alloc (.cells #[] 5)).cell? ⟨gX, xn, none⟩ = some (.slice (some ⟨gz, 0, none⟩) 512 cz) := ⟨(hA.block b2 hSS.1.lt).trans hSS.1, (hA.block g14 (Array.getElem?_eq_some_iff.1 hSS.2.1).1).trans hSS.2.1, (hA.cell (p := ⟨gX, xn, none⟩) (Array.getElem?_eq_some_iff.1 HGXD.out).1).trans hSS.2.2⟩
              refine hK.out _ _ (fun _ => hS5) ?_
              clear hK KK
              try refine OrdE.put (d := 81) rfl ?_
              try simp only [List.setIfInBounds_toArray, List.set_cons_zero, List.set_cons_succ]
              have HO0 : Hid ((v0.alloc (.cells #[] 5)).ownsRow v0.heap.size 5 1 (.slice (some ⟨v0.heap.size, 0, none⟩) 0 0) ([] : List Int).length (bytesV [])) := new_own v0 v0.heap.size (Nat.le_refl _)
              have hxbl := HKD.out.blk.len
              have hzbl := HBZD.out.blk.len
              have hyri : Ri v0 .u8 (some ⟨gy, 0, none⟩) cy xb := by obtain ⟨g1, c1, e1, r1⟩ := HKD.out.ri; cases e1; exact r1
              have hzri : Ri v0 .u8 (some ⟨gz, 0, none⟩) cz (loseF L O K torn at_ r (xn : Int)) := by obtain ⟨g1, c1, e1, r1⟩ := HBZD.out.ri; cases e1; exact r1
              have HN1 : Hid (∀ (j : Nat) (u : Value), (bytesV (xb.take 0))[j]? = some u → (v0.alloc (.cells #[] 5)).cell? (Addr.add ⟨gy, 0, none⟩ j) = some u) := fun j u hu => by
                have hj : j < (xb.take 0).length := by have := (List.getElem?_eq_some_iff.1 hu).1; rwa [bytesV_len] at this
                rw [List.length_take] at hj
                obtain ⟨b', off, e9, _, hc⟩ := (hyri.later hA).cells (by omega)
                cases e9
                rw [Go.WideShapes.add_plain, hc j (by omega), ← hu, arr_at' (by rw [List.length_take]; omega), getD_take _ _ _ (by omega)]
              refine OrdE.one (i := 11) (by as_aux_lemma => kernel_rfl) rfl (fun KK hK => ?_)
              rw [if_pos (by rfl)]
              refine wp_appb (v0.alloc (.cells #[] 5)) (.tmp 81) (.tmp 85) rfl v0.heap.size _ [] rfl HO0.out ⟨gy, 0, none⟩ cy 0 (xb.take 0) (by rw [List.length_take]; omega) rfl HN1.out (by rw [List.length_take]; simp) hA.size (fun v1' w1 hown1 hgr1 => ?_)
              have hb1 := hA.trans (bel_grown HO0.out hgr1 hA.size)
              have hS51 : Rc w1 b2 (.slice (some ⟨gX, 0, none⟩) q cX) nilV false (-1) ∧ w1.heap[g14]? = some (.cells #[.int .i64 (xn : Int), .slice (some ⟨gy, 0, none⟩) 512 cy] 87 (0, 0)) ∧ w1.cell? ⟨gX, xn, none⟩ = some (.slice (some ⟨gz, 0, none⟩) 512 cz) := ⟨(hb1.block b2 hSS.1.lt).trans hSS.1, (hb1.block g14 (Array.getElem?_eq_some_iff.1 hSS.2.1).1).trans hSS.2.1, (hb1.cell (p := ⟨gX, xn, none⟩) (Array.getElem?_eq_some_iff.1 HGXD.out).1).trans hSS.2.2⟩
              refine hK.out _ _ (fun _ => hS51) ?_
              clear hK KK
              try refine OrdE.put (d := 86) rfl ?_
              try simp only [List.setIfInBounds_toArray, List.set_cons_zero, List.set_cons_succ]
              rw [List.nil_append] at hown1
              have HN2 : Hid (∀ (j : Nat) (u : Value), (bytesV ((loseF L O K torn at_ r (xn : Int)).drop 0))[j]? = some u → w1.cell? (Addr.add ⟨gz, 0, none⟩ j) = some u) := fun j u hu => by
                have hj : j < ((loseF L O K torn at_ r (xn : Int)).drop 0).length := by have := (List.getElem?_eq_some_iff.1 hu).1; rwa [bytesV_len] at this
                rw [List.length_drop] at hj
                obtain ⟨b', off, e9, _, hc⟩ := (hzri.later hb1).cells (by omega)
                cases e9
                have h9 := hc (0 + j) (by omega)
                rw [Nat.zero_add] at h9
                rw [Go.WideShapes.add_plain, h9, ← hu, arr_at' (by rw [List.length_drop]; omega)]
                simp [List.getD]
              have hsz1 := hb1.size
              clear hgr1 HO0 HN1 hS5
              refine OrdE.one (i := 22) (by as_aux_lemma => kernel_rfl) rfl (fun KK hK => ?_)
              rw [if_pos (by rfl)]
              refine wp_appb w1 (.tmp 86) (.tmp 96) rfl v0.heap.size _ (xb.take 0) rfl hown1 ⟨gz, 0, none⟩ (cz - 0) (512 - 0) ((loseF L O K torn at_ r (xn : Int)).drop 0) (by rw [List.length_drop]; omega) rfl HN2.out (by rw [List.length_take, List.length_drop]; omega) hsz1 (fun v2' v2 hown2 hgr2 => ?_)
              have hbb := hb1.trans (bel_grown hown1 hgr2 hsz1)
              have hS6 : Rc v2 b2 (.slice (some ⟨gX, 0, none⟩) q cX) nilV false (-1) ∧ v2.heap[g14]? = some (.cells #[.int .i64 (xn : Int), .slice (some ⟨gy, 0, none⟩) 512 cy] 87 (0, 0)) ∧ v2.cell? ⟨gX, xn, none⟩ = some (.slice (some ⟨gz, 0, none⟩) 512 cz) := ⟨(hbb.block b2 hSS.1.lt).trans hSS.1, (hbb.block g14 (Array.getElem?_eq_some_iff.1 hSS.2.1).1).trans hSS.2.1, (hbb.cell (p := ⟨gX, xn, none⟩) (Array.getElem?_eq_some_iff.1 HGXD.out).1).trans hSS.2.2⟩
              refine hK.out _ _ (fun _ => hS6) ?_
              clear hK KK
              try refine OrdE.put (d := 97) rfl ?_
              try simp only [List.setIfInBounds_toArray, List.set_cons_zero, List.set_cons_succ]
              have HBK0 : Hid (Bk v2 v2' (tearL 0 xb (loseF L O K torn at_ r (xn : Int)))) := by
                have hl9 : (xb.take 0 ++ (loseF L O K torn at_ r (xn : Int)).drop 0).length = 512 := by rw [List.length_append, List.length_take, List.length_drop]; omega
                rw [hl9] at hown2
                exact Bk.own hown2 (tear_blk han' HKD.out.blk HBZD.out.blk)
              obtain ⟨g9, c9, hv9, _⟩ := HBK0.out.ri
              subst hv9
              have HBK := HBK0
              clear hown1 hown2 hgr2 hS51 hb1 hsz1 HN2 hyri hzri hA HBK0
              refine OrdE.one (i := 23) (by as_aux_lemma => kernel_rfl) rfl (fun KK hK => ?_)
              go_simp
              refine hK.out _ _ (fun _ => hS6) ?_
              clear hK KK
              try refine OrdE.put (d := 98) rfl ?_
              try simp only [List.setIfInBounds_toArray, List.set_cons_zero, List.set_cons_succ]
              have yc := hS6.2.2
              have yf : v2.frozen? ⟨gX, xn, none⟩ = false := Joins.unfrozen_of_block ((hbb.block gX (Array.getElem?_eq_some_iff.1 HGXD.out).1).trans HGXD.out) xn
              refine OrdE.one (i := 24) (by as_aux_lemma => kernel_rfl) rfl (fun KK hK => ?_)
              go_simp
              refine hK.out _ _ (fun h => absurd rfl h) ?_
              clear hK KK
              try simp only [List.setIfInBounds_toArray, List.set_cons_zero, List.set_cons_succ]
              refine OrdE.done (by as_aux_lemma => kernel_rfl) ?_ _
              have HJN : Hid (L2I w (v2.setCell ⟨gX, xn, none⟩ (.slice (some ⟨g9, 0, none⟩) 512 c9)) base b2 gr b2 (.slice (some ⟨gL, 0, none⟩) q cL) (.slice (some ⟨gW, 0, none⟩) m cW) (.slice (some ⟨gX, 0, none⟩) q cX) q (loseF L O K torn at_ (r + 1)) O f) := by
                have h1 := (HNXT.out v2 (Bn HBD.out hbb)).set HBB.out xn hxn _ _ HBK.out
                rw [HLS.out]
                exact h1
              clear hS6 hSS yc yf hbb HBK HNXT HBD HKD HBZD HGXD HLS
              go_wp2_with fail
              exact ⟨⟨r + 1, by go_num, hrl, HJN⟩, by simp only [intOf]; omega⟩
            · have et : ((r : Int) == torn) = false := by simpa using htn
              obtain ⟨hkb⟩ : Nonempty (Bls (wr.alloc (.cells #[.int .i64 (xn : Int), .slice (some ⟨gy, 0, none⟩) 512 cy] 87)) a cap K) := ⟨HKX.out _ HJA.out.frd⟩
              by_cases hrk : r < nk
              · have hz5 : (r : Int) < (nk : Int) := by omega
                obtain ⟨bK, oK, rfl, hbK, hcK⟩ := hkb.cells (by rw [← HNK.out]; omega)
                have xk := hcK r (by rw [← HNK.out]; exact hrk)
                have hbits := hkb.most
                clear hcK
                cases hkk : K.getD r false
                · rw [hkk] at xk
                  rw [show keptN r K torn at_ = 0 from by unfold keptN; rw [if_neg htn, hkk]; rfl, show tearL 0 xb (loseF L O K torn at_ r (xn : Int)) = loseF L O K torn at_ r (xn : Int) from by simp [tearL], setI_self] at HLS
                  have HJN : Hid (L2I w (wr.alloc (.cells #[.int .i64 (xn : Int), .slice (some ⟨gy, 0, none⟩) 512 cy] 87)) base b2 gr b2 (.slice (some ⟨gL, 0, none⟩) q cL) (.slice (some ⟨gW, 0, none⟩) m cW) (.slice (some ⟨gX, 0, none⟩) q cX) q (loseF L O K torn at_ (r + 1)) O f) := by rw [HLS.out]; exact HJA.out
                  clear HJA HKA HYA HLS HE HA
                  go_wp2_with (refine wpList_load_mid rfl 87 _ rfl gW (r * 2) rfl [.int .i64 (xn : Int), .slice (some ⟨gy, 0, none⟩) 512 cy] _ hrg Try.underlying87 rfl hs87 ?_)
                  exact ⟨⟨r + 1, by go_num, hrl, HJN⟩, by simp only [intOf]; omega⟩
                · rw [hkk] at xk
                  rw [show keptN r K torn at_ = 512 from by unfold keptN; rw [if_neg htn, hkk]; rfl] at HLS
                  go_wp2_with (refine wpList_load_mid rfl 87 _ rfl gW (r * 2) rfl [.int .i64 (xn : Int), .slice (some ⟨gy, 0, none⟩) 512 cy] _ hrg Try.underlying87 rfl hs87 ?_)
                  obtain ⟨g14, hg14⟩ : ∃ g, g = wr.heap.size := ⟨_, rfl⟩
                  have hge14 := HA.out.size
                  rw [← hg14] at HE ⊢
                  clear hg14 HA hge14
                  have HNXT : Hid (∀ W, Below (wr.alloc (.cells #[.int .i64 (xn : Int), .slice (some ⟨gy, 0, none⟩) 512 cy] 87)).heap.size (wr.alloc (.cells #[.int .i64 (xn : Int), .slice (some ⟨gy, 0, none⟩) 512 cy] 87)) W → L2I w W base b2 gr b2 (.slice (some ⟨gL, 0, none⟩) q cL) (.slice (some ⟨gW, 0, none⟩) m cW) (.slice (some ⟨gX, 0, none⟩) q cX) q (loseF L O K torn at_ r) O f) := fun W hW => HJA.out.below hW HBB.out
                  generalize wr.alloc (.cells #[.int .i64 (xn : Int), .slice (some ⟨gy, 0, none⟩) 512 cy] 87) = wA at *
                  obtain ⟨g', c', e', _, _, _, ⟨csX, hgX⟩, hXa⟩ := HJA.out.rowX.at (by omega)
                  cases e'
                  obtain ⟨z0, hz0', hbz⟩ := hXa xn hxn
                  obtain ⟨gz, cz, hzv, hzr⟩ := hbz.ri
                  subst hzv
                  have hzroom := hzr.room
                  have hzmost := hzr.most
                  rw [hbz.blk.len] at hzroom
                  unfold maxLen at hzmost
                  have HBZ := hid hbz
                  have HGX := hid hgX
                  clear hXa hbz hzr
                  have hS0 : Rc wA.drew b2 (.slice (some ⟨gX, 0, none⟩) q cX) nilV false (-1) ∧ wA.drew.heap[g14]? = some (.cells #[.int .i64 (xn : Int), .slice (some ⟨gy, 0, none⟩) 512 cy] 87 (0, 0)) ∧ wA.drew.cell? ⟨gX, xn, none⟩ = some (.slice (some ⟨gz, 0, none⟩) 512 cz) := ⟨HJA.out.new, HE.out, hz0'⟩
                  refine OrdE.region (fun W => Rc W b2 (.slice (some ⟨gX, 0, none⟩) q cX) nilV false (-1) ∧ W.heap[g14]? = some (.cells #[.int .i64 (xn : Int), .slice (some ⟨gy, 0, none⟩) 512 cy] 87 (0, 0)) ∧ W.cell? ⟨gX, xn, none⟩ = some (.slice (some ⟨gz, 0, none⟩) 512 cz)) 11 (by kernel_rfl) hS0 (fun hSS => ?_)
                  have HBD : Hid (Below wA.heap.size wA wA.drew) := (Below.refl _ _).drew
                  have HKD : Hid (Bk wA.drew (.slice (some ⟨gy, 0, none⟩) 512 cy) xb) := HKA.out
                  have HBZD : Hid (Bk wA.drew (.slice (some ⟨gz, 0, none⟩) 512 cz) (loseF L O K torn at_ r (xn : Int))) := HBZ.out
                  have HGXD : Hid (wA.drew.heap[gX]? = some (.cells csX 33 (0, 0))) := HGX.out
                  clear hS0 HKA HYA HBZ HGX HJA HE hz0' e1 d1 d2 hrg hs87
                  generalize wA.drew = v0 at *
                  refine OrdE.take (i := 0) (d := 110) (v := ?vzk0) rfl rfl rfl (by as_aux_lemma => kernel_rfl) (by as_aux_lemma => kernel_rfl) (by as_aux_lemma => kernel_rfl) (by as_aux_lemma => kernel_rfl) (fun _ _ _ h => h) (by rfl) ?hzk0 (by assumption) ?_
                  case hzk0 => intro w hSw; go_simp; try with_reducible rfl
                  simp only [List.setIfInBounds_toArray, List.set_cons_zero, List.set_cons_succ]
                  refine OrdE.take (i := 1) (d := 111) (v := ?vzk1) rfl rfl rfl (by as_aux_lemma => kernel_rfl) (by as_aux_lemma => kernel_rfl) (by as_aux_lemma => kernel_rfl) (by as_aux_lemma => kernel_rfl) (fun _ _ _ h => h) (by rfl) ?hzk1 (by assumption) ?_
                  case hzk1 => intro w hSw; go_simp; try with_reducible rfl
                  simp only [List.setIfInBounds_toArray, List.set_cons_zero, List.set_cons_succ]
                  refine OrdE.take (i := 2) (d := 112) (v := ?vzk2) rfl rfl rfl (by as_aux_lemma => kernel_rfl) (by as_aux_lemma => kernel_rfl) (by as_aux_lemma => kernel_rfl) (by as_aux_lemma => kernel_rfl) (fun _ _ _ h => h) (by rfl) ?hzk2 (by assumption) ?_
                  case hzk2 => intro w hSw; go_simp; try with_reducible rfl
                  simp only [List.setIfInBounds_toArray, List.set_cons_zero, List.set_cons_succ]
                  refine OrdE.take (i := 3) (d := 113) (v := .slice (some ⟨gX, 0, none⟩) q cX) rfl rfl rfl (by as_aux_lemma => kernel_rfl) (by as_aux_lemma => kernel_rfl) (by as_aux_lemma => kernel_rfl) (by as_aux_lemma => kernel_rfl) (fun _ _ _ h => h) (by rfl) ?hzk3 (by assumption) ?_
                  case hzk3 => intro w hSw; obtain ⟨q0, q1, q2, q3, q4⟩ := hSw.1.cells; go_simp; try with_reducible rfl
                  simp only [List.setIfInBounds_toArray, List.set_cons_zero, List.set_cons_succ]
                  refine OrdE.take (i := 4) (d := 114) (v := ?vzk4) rfl rfl rfl (by as_aux_lemma => kernel_rfl) (by as_aux_lemma => kernel_rfl) (by as_aux_lemma => kernel_rfl) (by as_aux_lemma => kernel_rfl) (fun _ _ _ h => h) (by rfl) ?hzk4 (by assumption) ?_
                  case hzk4 => intro w hSw; go_simp; try with_reducible rfl
                  simp only [List.setIfInBounds_toArray, List.set_cons_zero, List.set_cons_succ]
                  refine OrdE.take (i := 5) (d := 115) (v := .int .i64 (xn : Int)) rfl rfl rfl (by as_aux_lemma => kernel_rfl) (by as_aux_lemma => kernel_rfl) (by as_aux_lemma => kernel_rfl) (by as_aux_lemma => kernel_rfl) (fun _ _ _ h => h) (by rfl) ?hzk5 (by assumption) ?_
                  case hzk5 => intro w hSw; have q9 := Joins.cell_of_block hSw.2.1 0; simp only [List.getElem?_toArray, List.getElem?_cons_zero] at q9; go_simp; try with_reducible rfl
                  simp only [List.setIfInBounds_toArray, List.set_cons_zero, List.set_cons_succ]
                  refine OrdE.take (i := 7) (d := 117) (v := ?vzk7) rfl rfl rfl (by as_aux_lemma => kernel_rfl) (by as_aux_lemma => kernel_rfl) (by as_aux_lemma => kernel_rfl) (by as_aux_lemma => kernel_rfl) (fun _ _ _ h => h) (by rfl) ?hzk7 (by assumption) ?_
                  case hzk7 => intro w hSw; go_simp; try with_reducible rfl
                  simp only [List.setIfInBounds_toArray, List.set_cons_zero, List.set_cons_succ]
                  refine OrdE.take (i := 8) (d := 118) (v := .slice (some ⟨gy, 0, none⟩) 512 cy) rfl rfl rfl (by as_aux_lemma => kernel_rfl) (by as_aux_lemma => kernel_rfl) (by as_aux_lemma => kernel_rfl) (by as_aux_lemma => kernel_rfl) (fun _ _ _ h => h) (by rfl) ?hzk8 (by assumption) ?_
                  case hzk8 => intro w hSw; have q9 := Joins.cell_of_block hSw.2.1 1; simp only [List.getElem?_toArray, List.getElem?_cons_zero, List.getElem?_cons_succ] at q9; go_simp; try with_reducible rfl
                  simp only [List.setIfInBounds_toArray, List.set_cons_zero, List.set_cons_succ]
                  refine OrdE.one (i := 6) (by as_aux_lemma => kernel_rfl) rfl (fun KK hK => ?_)
                  go_simp
                  have hA : Below v0.heap.size v0 (v0.alloc (.cells #[] 5)) := bel_alloc v0 _
                  have hS5 : Rc (v0.alloc (.cells #[] 5)) b2 (.slice (some ⟨gX, 0, none⟩) q cX) nilV false (-1) ∧ (v0.alloc (.cells #[] 5)).heap[g14]? = some (.cells #[.int .i64 (xn : Int), .slice (some ⟨gy, 0, none⟩) 512 cy] 87 (0, 0)) ∧ (v0.alloc (.cells #[] 5)).cell? ⟨gX, xn, none⟩ = some (.slice (some ⟨gz, 0, none⟩) 512 cz) := ⟨(hA.block b2 hSS.1.lt).trans hSS.1, (hA.block g14 (Array.getElem?_eq_some_iff.1 hSS.2.1).1).trans hSS.2.1, (hA.cell (p := ⟨gX, xn, none⟩) (Array.getElem?_eq_some_iff.1 HGXD.out).1).trans hSS.2.2⟩
                  refine hK.out _ _ (fun _ => hS5) ?_
                  clear hK KK
                  try refine OrdE.put (d := 116) rfl ?_
                  try simp only [List.setIfInBounds_toArray, List.set_cons_zero, List.set_cons_succ]
                  refine OrdE.one (i := 9) (by as_aux_lemma => kernel_rfl) rfl (fun KK hK => ?_)
                  rw [if_pos (by rfl)]
                  refine wp_fresh v0 (.tmp 116) (.tmp 118) rfl rfl (.slice (some ⟨gy, 0, none⟩) 512 cy) xb rfl HKD.out (fun g9 c9 cs v2 hg9 hge hc1 hc2 htk hbb => ?_)
                  have hS6 : Rc v2 b2 (.slice (some ⟨gX, 0, none⟩) q cX) nilV false (-1) ∧ v2.heap[g14]? = some (.cells #[.int .i64 (xn : Int), .slice (some ⟨gy, 0, none⟩) 512 cy] 87 (0, 0)) ∧ v2.cell? ⟨gX, xn, none⟩ = some (.slice (some ⟨gz, 0, none⟩) 512 cz) := ⟨(hbb.block b2 hSS.1.lt).trans hSS.1, (hbb.block g14 (Array.getElem?_eq_some_iff.1 hSS.2.1).1).trans hSS.2.1, (hbb.cell (p := ⟨gX, xn, none⟩) (Array.getElem?_eq_some_iff.1 HGXD.out).1).trans hSS.2.2⟩
                  refine hK.out _ _ (fun _ => hS6) ?_
                  clear hK KK
                  try refine OrdE.put (d := 119) rfl ?_
                  try simp only [List.setIfInBounds_toArray, List.set_cons_zero, List.set_cons_succ]
                  have HBK : Hid (Bk v2 (.slice (some ⟨g9, 0, none⟩) 512 c9) (tearL 512 xb (loseF L O K torn at_ r (xn : Int)))) := by
                    show Bk _ _ _
                    rw [tear_all HKD.out.blk HBZD.out.blk]
                    exact ⟨g9, c9, cs, (0, 0), rfl, hc1, hc2, hg9, htk, HKD.out.blk⟩
                  clear hg9 hge hc1 hc2 htk hS5 hA
                  refine OrdE.one (i := 10) (by as_aux_lemma => kernel_rfl) rfl (fun KK hK => ?_)
                  go_simp
                  refine hK.out _ _ (fun _ => hS6) ?_
                  clear hK KK
                  try refine OrdE.put (d := 120) rfl ?_
                  try simp only [List.setIfInBounds_toArray, List.set_cons_zero, List.set_cons_succ]
                  have yc := hS6.2.2
                  have yf : v2.frozen? ⟨gX, xn, none⟩ = false := Joins.unfrozen_of_block ((hbb.block gX (Array.getElem?_eq_some_iff.1 HGXD.out).1).trans HGXD.out) xn
                  refine OrdE.one (i := 11) (by as_aux_lemma => kernel_rfl) rfl (fun KK hK => ?_)
                  go_simp
                  refine hK.out _ _ (fun h => absurd rfl h) ?_
                  clear hK KK
                  try simp only [List.setIfInBounds_toArray, List.set_cons_zero, List.set_cons_succ]
                  refine OrdE.done (by as_aux_lemma => kernel_rfl) ?_ _
                  have HJN : Hid (L2I w (v2.setCell ⟨gX, xn, none⟩ (.slice (some ⟨g9, 0, none⟩) 512 c9)) base b2 gr b2 (.slice (some ⟨gL, 0, none⟩) q cL) (.slice (some ⟨gW, 0, none⟩) m cW) (.slice (some ⟨gX, 0, none⟩) q cX) q (loseF L O K torn at_ (r + 1)) O f) := by
                    have h1 := (HNXT.out v2 (Bn HBD.out hbb)).set HBB.out xn hxn _ _ HBK.out
                    rw [HLS.out]
                    exact h1
                  clear hS6 hSS yc yf hbb HBK HNXT HBD HKD HBZD HGXD HLS
                  go_wp2_with fail
                  exact ⟨⟨r + 1, by go_num, hrl, HJN⟩, by simp only [intOf]; omega⟩
              · have hz5 : ¬ (r : Int) < (nk : Int) := by omega
                rw [show keptN r K torn at_ = 0 from by unfold keptN; rw [if_neg htn, show K.getD r false = false from by simp [List.getD, List.getElem?_eq_none (show K.length ≤ r by rw [← HNK.out]; omega)]]; rfl, show tearL 0 xb (loseF L O K torn at_ r (xn : Int)) = loseF L O K torn at_ r (xn : Int) from by simp [tearL], setI_self] at HLS
                have HJN : Hid (L2I w (wr.alloc (.cells #[.int .i64 (xn : Int), .slice (some ⟨gy, 0, none⟩) 512 cy] 87)) base b2 gr b2 (.slice (some ⟨gL, 0, none⟩) q cL) (.slice (some ⟨gW, 0, none⟩) m cW) (.slice (some ⟨gX, 0, none⟩) q cX) q (loseF L O K torn at_ (r + 1)) O f) := by rw [HLS.out]; exact HJA.out
                clear HJA HKA HYA HLS HE HA hkb
                go_wp2_with (refine wpList_load_mid rfl 87 _ rfl gW (r * 2) rfl [.int .i64 (xn : Int), .slice (some ⟨gy, 0, none⟩) 512 cy] _ hrg Try.underlying87 rfl hs87 ?_)
                exact ⟨⟨r + 1, by go_num, hrl, HJN⟩, by simp only [intOf]; omega⟩
          · have hrn : r = m := by omega
            subst hrn
            have hz : ¬ (r : Int) < (r : Int) := by omega
            have HRV : Hid (Rv wr base b2 (.slice (some ⟨gX, 0, none⟩) q cX) nilV q (loseF L O K torn at_ r) [] (-1)) := by
              obtain ⟨xs, h1, h2⟩ := HJ.out.rowX
              exact ⟨HJ.out.new, ⟨xs, own_mono h1 HBB.out, h2⟩, ⟨[], ⟨rfl, .inl ⟨rfl, rfl⟩⟩, rfl, fun k hk => absurd hk (Nat.not_lt_zero _)⟩, fun _ hx => absurd hx List.not_mem_nil, ⟨by omega, by omega⟩, HON.out, HBB.out⟩
            have HFD := hid HJ.out.frd
            rw [HM.out] at HRV
            clear HJ
            go_wp2_with fail
            go_ret2
            first
              | exact ⟨_, _, rfl, HRV.out, HFD.out⟩
              | exact ⟨_, rfl, ⟨_, HRV.out⟩, HFD.out⟩
end Go.Proofs.Ytldgiimkkgmgaaa
