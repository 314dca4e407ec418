/-
  The document's Same, on two rows of chunks that read alike.
-/
import Derived.Test.YtcapkkldjgmhfaaPart06
import Derived.Laws.AppendOwnNone
namespace Go.Proofs.Ytcapkkldjgmhfaa
open Go.RowKit

/-- A row of rows of bytes, as it reads. -/
structure Cs (w : World) (a : Option Addr) (cap : Nat) (L : List (List Int)) : Prop where
  room : L.length ≤ cap
  most : L.length ≤ 1048576
  cells : 0 < L.length → ∃ b off, a = some ⟨b, off, none⟩ ∧ b < w.heap.size ∧ ∀ j, j < L.length → ∃ aj cj, w.cell? ⟨b, off + j, none⟩ = some (.slice aj (L.getD j []).length cj) ∧ Ri w .u8 aj cj (L.getD j [])
theorem Ri.str {w : World} {a : Option Addr} {cap : Nat} {zs : List Int} (h : Ri w .u8 a cap zs) (W : World) (hb : Below w.heap.size w W) :
    (convert 25 9 (.slice a zs.length cap)).run Try.prog W = .ok (.string (strOfNums zs)) W := by
  have h' := h.later hb
  by_cases h0 : 0 < zs.length
  · obtain ⟨b, off, rfl, _, hc⟩ := h'.cells h0
    exact run_convert_bytes_arg (P := Try.prog) W 25 5 Try.underlying25 Try.underlying5 b off zs.length cap zs rfl hc 9 Try.underlying9
  · have hz : zs = [] := List.length_eq_zero_iff.1 (by omega)
    subst hz
    rw [run_convert_bytes_string W 25 9 5 a _ cap Try.underlying25 Try.underlying5 Try.underlying9]
    cases a with
    | none => rfl
    | some a => rfl
theorem getD_mem {L : List (List Int)} {i : Nat} (h : i < L.length) : L.getD i [] ∈ L := by
  rw [List.getD, List.getElem?_eq_getElem h]
  exact List.getElem_mem h
theorem Chs.cs {W : World} {base : Nat} {v : Value} {L : List (List Int)} (h : Chs W base v L) (hm : L.length ≤ 1048576) (hf : ∀ c ∈ L, ∀ z ∈ c, 0 ≤ z ∧ z ≤ 255) : ∃ a cap, v = .slice a L.length cap ∧ Cs W a cap L := by
  obtain ⟨xs, ⟨h1, h2⟩, h3⟩ := h
  rcases h2 with ⟨rfl, h0⟩ | ⟨gg, cp, cur, rfl, _, hb, hn, hx, hcs, ht⟩
  · exact ⟨none, 0, by rw [h0], by omega, hm, fun h => by omega⟩
  · refine ⟨some ⟨gg, 0, none⟩, cp, rfl, hn, hm, fun h0 => ⟨gg, 0, rfl, (Array.getElem?_eq_some_iff.1 hb).1, fun j hj => ?_⟩⟩
    rw [Nat.mul_one] at h1 ht
    obtain ⟨a, cap, e, hr⟩ := Ri.own (h3 j hj) (fun i => by
      have := fits_mem.2 (hf _ (getD_mem hj)) i
      exact wf_mk_u8 this.1 this.2)
    refine ⟨a, cap, ?_, hr⟩
    rw [← e, Joins.cell_of_block hb (0 + j), Nat.zero_add, ← ht]
    have hjx : j < xs.length := by omega
    have hjc : j < (cur.toList.take L.length).length := by rw [ht]; exact hjx
    rw [List.getD, List.getElem?_take_of_lt hj, Array.getElem?_toList]
    rw [List.length_take, Array.length_toList] at hjc
    rw [Array.getElem?_eq_getElem (by omega)]
    rfl
set_option maxHeartbeats 6400000 in
set_option maxRecDepth 100000 in
theorem same_eq (a1 a2 : Option Addr) (c1 c2 : Nat) (L : List (List Int)) (w : World) (h1 : Cs w a1 c1 L) (h2 : Cs w a2 c2 L) : Calls Try.prog 26 #[.slice a1 L.length c1, .slice a2 L.length c2] w fun e w' => e = .returned (.bool true) ∧ Below w.heap.size w w' := by
  have H1 := hid h1
  have H2 := hid h2
  have hm := h1.most
  obtain ⟨len, hl⟩ : ∃ n, n = L.length := ⟨_, rfl⟩
  have HL := hid hl
  rw [← hl] at hm ⊢
  clear h1 h2 hl
  go_enter Try.func26, Try.ntmps26
  go_wp2_with fail
  go_loopw [5] (fun p wr => ∃ k : Nat, k ≤ len ∧ p = .int .i64 (k : Int) ∧ Hid (Below w.heap.size w wr)) (fun p _ => len - (intOf p).toNat)
  case atStart => exact ⟨0, Nat.zero_le _, rfl, Below.refl _ _⟩
  case round =>
    obtain ⟨k, hk, rfl, HB⟩ := hrel
    by_cases hlt : k < len
    · have hltz : (k : Int) < (len : Int) := by omega
      have hk0 : (0 : Int) ≤ (k : Int) := by omega
      obtain ⟨b1, o1, rfl, hb1, hc1⟩ := H1.out.cells (by rw [← HL.out]; omega)
      obtain ⟨b2, o2, rfl, hb2, hc2⟩ := H2.out.cells (by rw [← HL.out]; omega)
      obtain ⟨x1, y1, e1, r1⟩ := hc1 k (by rw [← HL.out]; exact hlt)
      obtain ⟨x2, y2, e2, r2⟩ := hc2 k (by rw [← HL.out]; exact hlt)
      have k1 := fun W hW => r1.str W hW
      have k2 := fun W hW => r2.str W hW
      clear hc1 hc2 r1 r2
      generalize L.getD k [] = z at *
      go_wp2_with fail
      refine wp_region_held_drew (S := fun W => Below w.heap.size w W) (by kernel_rfl) (HB.out.trans ((Below.refl _ _).drew)) (fun hS => ?_)
      generalize wr.drew = wD at *
      refine Ord.take (i := 0) (d := 17) (v := ?va0) rfl rfl (by as_aux_lemma => kernel_rfl) (by as_aux_lemma => kernel_rfl) (by as_aux_lemma => kernel_rfl) (fun _ _ _ h => h) (by rfl) ?ha0 (by assumption) ?_
      case ha0 => intro w hSw; go_simp; try with_reducible rfl
      simp only [List.setIfInBounds_toArray, List.set_cons_zero, List.set_cons_succ]
      refine Ord.take (i := 1) (d := 18) (v := ?va1) rfl rfl (by as_aux_lemma => kernel_rfl) (by as_aux_lemma => kernel_rfl) (by as_aux_lemma => kernel_rfl) (fun _ _ _ h => h) (by rfl) ?ha1 (by assumption) ?_
      case ha1 => intro w hSw; go_simp; try with_reducible rfl
      simp only [List.setIfInBounds_toArray, List.set_cons_zero, List.set_cons_succ]
      refine Ord.take (i := 2) (d := 19) (v := .pointer (some ⟨b1, o1 + k, none⟩)) rfl rfl (by as_aux_lemma => kernel_rfl) (by as_aux_lemma => kernel_rfl) (by as_aux_lemma => kernel_rfl) (fun _ _ _ h => h) (by rfl) ?ha2 (by assumption) ?_
      case ha2 => intro w hSw; go_simp; try with_reducible rfl
      simp only [List.setIfInBounds_toArray, List.set_cons_zero, List.set_cons_succ]
      refine Ord.take (i := 3) (d := 20) (v := .slice x1 z.length y1) rfl rfl (by as_aux_lemma => kernel_rfl) (by as_aux_lemma => kernel_rfl) (by as_aux_lemma => kernel_rfl) (fun _ _ _ h => h) (by rfl) ?ha3 (by assumption) ?_
      case ha3 => intro w hSw; have q1 := (hSw.cell (p := ⟨b1, o1 + k, none⟩) hb1).trans e1; have q2 := (hSw.cell (p := ⟨b2, o2 + k, none⟩) hb2).trans e2; have j1 := k1 _ hSw; have j2 := k2 _ hSw; go_simp; try with_reducible rfl
      simp only [List.setIfInBounds_toArray, List.set_cons_zero, List.set_cons_succ]
      refine Ord.take (i := 4) (d := 21) (v := .string (strOfNums z)) rfl rfl (by as_aux_lemma => kernel_rfl) (by as_aux_lemma => kernel_rfl) (by as_aux_lemma => kernel_rfl) (fun _ _ _ h => h) (by rfl) ?ha4 (by assumption) ?_
      case ha4 => intro w hSw; have q1 := (hSw.cell (p := ⟨b1, o1 + k, none⟩) hb1).trans e1; have q2 := (hSw.cell (p := ⟨b2, o2 + k, none⟩) hb2).trans e2; have j1 := k1 _ hSw; have j2 := k2 _ hSw; go_simp; try with_reducible rfl
      simp only [List.setIfInBounds_toArray, List.set_cons_zero, List.set_cons_succ]
      refine Ord.take (i := 5) (d := 22) (v := ?va5) rfl rfl (by as_aux_lemma => kernel_rfl) (by as_aux_lemma => kernel_rfl) (by as_aux_lemma => kernel_rfl) (fun _ _ _ h => h) (by rfl) ?ha5 (by assumption) ?_
      case ha5 => intro w hSw; go_simp; try with_reducible rfl
      simp only [List.setIfInBounds_toArray, List.set_cons_zero, List.set_cons_succ]
      refine Ord.take (i := 6) (d := 23) (v := ?va6) rfl rfl (by as_aux_lemma => kernel_rfl) (by as_aux_lemma => kernel_rfl) (by as_aux_lemma => kernel_rfl) (fun _ _ _ h => h) (by rfl) ?ha6 (by assumption) ?_
      case ha6 => intro w hSw; go_simp; try with_reducible rfl
      simp only [List.setIfInBounds_toArray, List.set_cons_zero, List.set_cons_succ]
      refine Ord.take (i := 7) (d := 24) (v := .pointer (some ⟨b2, o2 + k, none⟩)) rfl rfl (by as_aux_lemma => kernel_rfl) (by as_aux_lemma => kernel_rfl) (by as_aux_lemma => kernel_rfl) (fun _ _ _ h => h) (by rfl) ?ha7 (by assumption) ?_
      case ha7 => intro w hSw; go_simp; try with_reducible rfl
      simp only [List.setIfInBounds_toArray, List.set_cons_zero, List.set_cons_succ]
      refine Ord.take (i := 8) (d := 25) (v := .slice x2 z.length y2) rfl rfl (by as_aux_lemma => kernel_rfl) (by as_aux_lemma => kernel_rfl) (by as_aux_lemma => kernel_rfl) (fun _ _ _ h => h) (by rfl) ?ha8 (by assumption) ?_
      case ha8 => intro w hSw; have q1 := (hSw.cell (p := ⟨b1, o1 + k, none⟩) hb1).trans e1; have q2 := (hSw.cell (p := ⟨b2, o2 + k, none⟩) hb2).trans e2; have j1 := k1 _ hSw; have j2 := k2 _ hSw; go_simp; try with_reducible rfl
      simp only [List.setIfInBounds_toArray, List.set_cons_zero, List.set_cons_succ]
      refine Ord.take (i := 9) (d := 26) (v := .string (strOfNums z)) rfl rfl (by as_aux_lemma => kernel_rfl) (by as_aux_lemma => kernel_rfl) (by as_aux_lemma => kernel_rfl) (fun _ _ _ h => h) (by rfl) ?ha9 (by assumption) ?_
      case ha9 => intro w hSw; have q1 := (hSw.cell (p := ⟨b1, o1 + k, none⟩) hb1).trans e1; have q2 := (hSw.cell (p := ⟨b2, o2 + k, none⟩) hb2).trans e2; have j1 := k1 _ hSw; have j2 := k2 _ hSw; go_simp; try with_reducible rfl
      simp only [List.setIfInBounds_toArray, List.set_cons_zero, List.set_cons_succ]
      refine Ord.take (i := 10) (d := 27) (v := .bool false) rfl rfl (by as_aux_lemma => kernel_rfl) (by as_aux_lemma => kernel_rfl) (by as_aux_lemma => kernel_rfl) (fun _ _ _ h => h) (by rfl) ?ha10 (by assumption) ?_
      case ha10 => intro w hSw; go_simp; try with_reducible rfl
      simp only [List.setIfInBounds_toArray, List.set_cons_zero, List.set_cons_succ]
      refine wpAnyH_done (by as_aux_lemma => kernel_rfl) ?_ _
      have HBD := hid hS
      clear hS
      go_wp2_with fail
      refine ⟨⟨k + 1, by omega, rfl, HBD.out⟩, ?_⟩
      simp only [intOf]
      omega
    · have hkl : k = len := by omega
      subst hkl
      have hz0 : ¬ (k : Int) < (k : Int) := by omega
      go_wp2_with fail
      go_ret
      exact ⟨rfl, HB.out⟩
end Go.Proofs.Ytcapkkldjgmhfaa
/-
  What a Write leaves behind, and that it does not hang on what the row holds behind what is left.
-/
namespace Go.Proofs.Ytcapkkldjgmhfaa
open Go.RowKit

/-- What holds of a cutter between two Writes. -/
structure Wg (m : Int) (S : Ws) : Prop where
  s0 : 0 ≤ S.2.1
  s1 : S.2.1 < m
  h0 : 0 ≤ S.2.2.1
  h1 : S.2.2.1 < 18446744073709551616
  hz : S.2.1 = 0 → S.2.2.1 = 0
  len : S.1.length = 4096
  fR : ∀ z ∈ S.1, 0 ≤ z ∧ z ≤ 255
  fL : ∀ c ∈ S.2.2.2, ∀ z ∈ c, 0 ≤ z ∧ z ≤ 255
def Cnd (m : Int) (bs : List Int) (s : Int) (x : Pt) : Prop := 0 ≤ s ∧ s + (x.2.1 : Int) = x.2.2.1 ∧ 1 ≤ x.2.1 ∧ x.2.2.1 ≤ m ∧ 0 ≤ x.2.2.2 ∧ x.2.2.2 < 18446744073709551616 ∧ x.1 + x.2.1 ≤ bs.length
theorem part_len {bs : List Int} {x : Pt} (h : x.1 + x.2.1 ≤ bs.length) : ((bs.drop x.1).take x.2.1).length = x.2.1 := by rw [List.length_take, List.length_drop]; omega
theorem Wg.step {l m b : Int} {bs : List Int} {S : Ws} {x : Pt} (k : Wg m S) (hm : m ≤ 4096) (hb : ∀ z ∈ bs, 0 ≤ z ∧ z ≤ 255) (c : Cnd m bs S.2.1 x) : Wg m (wrS l m b bs S x) := by
  obtain ⟨c1, c2, c3, c4, c5, c6, c7⟩ := c
  have hyl := part_len c7
  have hR : (wrR bs S x).length = 4096 := (putL_len (by rw [k.len, hyl]; omega)).trans k.len
  have hF : ∀ z ∈ wrR bs S x, 0 ≤ z ∧ z ≤ 255 := fits_mem.1 (putL_fits (fits_mem.2 k.fR) (fits_mem.2 (fun z hz => hb z (List.mem_of_mem_drop (List.mem_of_mem_take hz)))))
  unfold wrS
  split
  · refine ⟨Int.le_refl _, ?_, Int.le_refl _, by dsimp only; omega, fun _ => rfl, hR, hF, fun c hc => ?_⟩
    · dsimp only; omega
    · rcases List.mem_append.1 hc with hc | hc
      · exact k.fL c hc
      · rw [List.mem_singleton] at hc
        subst hc
        exact fun z hz => hF z (List.mem_of_mem_take hz)
  · rename_i he
    have hne := not_end he
    exact ⟨by dsimp only; omega, by dsimp only; omega, c5, c6, fun h => by dsimp only at h; omega, hR, hF, k.fL⟩
theorem Wg.fold {l m b : Int} {bs : List Int} (hm : m ≤ 4096) (hb : ∀ z ∈ bs, 0 ≤ z ∧ z ≤ 255) : ∀ (xs : List Pt) (S : Ws), Okp l m b bs S xs → Wg m S → Wg m (xs.foldl (wrS l m b bs) S)
  | [], _, _, k => k
  | _ :: xs, _, h, k => Wg.fold hm hb xs _ h.2 (k.step hm hb h.1)
/-- Two cutters that go on alike. -/
structure Eqv (S S' : Ws) : Prop where
  s : S.2.1 = S'.2.1
  h : S.2.2.1 = S'.2.2.1
  L : S.2.2.2 = S'.2.2.2
  R : S.1.take S.2.1.toNat = S'.1.take S.2.1.toNat
theorem wrR_take {m : Int} {bs : List Int} {S : Ws} {x : Pt} (hm : m ≤ 4096) (hl : S.1.length = 4096) (c : Cnd m bs S.2.1 x) : (wrR bs S x).take x.2.2.1.toNat = S.1.take S.2.1.toNat ++ (bs.drop x.1).take x.2.1 := by
  obtain ⟨c1, c2, c3, c4, c5, c6, c7⟩ := c
  have h := putL_take (R := S.1) (ys := (bs.drop x.1).take x.2.1) (s := S.2.1.toNat) (by omega)
  rw [part_len c7, show S.2.1.toNat + x.2.1 = x.2.2.1.toNat from by omega] at h
  exact h
theorem Eqv.step {l m b : Int} {bs : List Int} {S S' : Ws} {x : Pt} (e : Eqv S S') (hm : m ≤ 4096) (hl : S.1.length = 4096) (hl' : S'.1.length = 4096) (c : Cnd m bs S.2.1 x) : Eqv (wrS l m b bs S x) (wrS l m b bs S' x) := by
  have t1 := wrR_take hm hl c
  have t2 := wrR_take hm hl' (e.s ▸ c)
  rw [← e.s, ← e.R] at t2
  have t3 := t1.trans t2.symm
  unfold wrS
  split
  · exact ⟨rfl, rfl, by dsimp only; rw [t3, e.L], rfl⟩
  · exact ⟨rfl, rfl, e.L, t3⟩
theorem Eqv.fold {l m b : Int} {bs : List Int} (hm : m ≤ 4096) (hb : ∀ z ∈ bs, 0 ≤ z ∧ z ≤ 255) : ∀ (xs : List Pt) (S S' : Ws), Okp l m b bs S xs → Wg m S → Wg m S' → Eqv S S' → Eqv (xs.foldl (wrS l m b bs) S) (xs.foldl (wrS l m b bs) S')
  | [], _, _, _, _, _, e => e
  | _ :: xs, _, _, h, k, k', e => Eqv.fold hm hb xs _ _ h.2 (k.step hm hb h.1) (k'.step hm hb (e.s ▸ h.1)) (e.step hm k.len k'.len h.1)
theorem wr_good {l m b s h : Int} {R bs : List Int} (hc : chkC l m b = 0) (hb : ∀ z ∈ bs, 0 ≤ z ∧ z ≤ 255) (k : Wg m (R, s, h, [])) : Wg m (wrO l m b s h R bs) := by
  obtain ⟨k1, k2, k3, k4, k5⟩ := chkC_ok hc
  exact Wg.fold k3 hb _ _ (okp_H hc bs s h k.s0 k.s1 k.h0 k.h1 bs.length R []) k
theorem wr_same {l m b s h : Int} {R R' bs : List Int} (hc : chkC l m b = 0) (hb : ∀ z ∈ bs, 0 ≤ z ∧ z ≤ 255) (k : Wg m (R, s, h, [])) (k' : Wg m (R', s, h, [])) (e : R.take s.toNat = R'.take s.toNat) : Eqv (wrO l m b s h R bs) (wrO l m b s h R' bs) := by
  obtain ⟨k1, k2, k3, k4, k5⟩ := chkC_ok hc
  exact Eqv.fold k3 hb _ _ _ (okp_H hc bs s h k.s0 k.s1 k.h0 k.h1 bs.length R []) k k' ⟨rfl, rfl, rfl, e⟩
theorem wr_len (l m b s h : Int) (R bs : List Int) : (wrO l m b s h R bs).2.2.2.length ≤ bs.length := by
  have h1 := fold_len l m b bs (partsH l m b bs.length s h 0 bs) (R, s, h, [])
  have h2 := partsH_len l m b bs.length s h 0 bs
  unfold wrO
  simp only [List.length_nil] at h1
  omega
theorem Wg.zero {m : Int} (hm : 0 < m) {R : List Int} (hl : R.length = 4096) (hf : ∀ j, 0 ≤ R.getD j 0 ∧ R.getD j 0 ≤ 255) : Wg m (R, 0, 0, []) := ⟨Int.le_refl _, hm, Int.le_refl _, by dsimp only; omega, fun _ => rfl, hl, fits_mem.1 hf, fun _ h => by cases h⟩
theorem But1.below {g n : Nat} {W W' : World} (h : But1 g W W') (hn : n ≤ W.heap.size) (hg : n ≤ g) : Below n W W' := ⟨h.bel.os, h.bel.tape, h.bel.output, h.bel.size, fun i hi => h.same i (by omega) (by omega)⟩
theorem Cu.but {W W' : World} {g g' : Nat} {l m b s h : Int} {R : List Int} (k : Cu W g l m b s h R) (hb : But1 g' W W') (hn : g ≠ g') : Cu W' g l m b s h R := k.later (hb.same g k.lt hn)
theorem Chs.but {W W' : World} {g base : Nat} {l m b s h : Int} {R : List Int} {v : Value} {L : List (List Int)} (k : Chs W base v L) (hc : Cu W g l m b s h R) (hb : But1 g W W') : Chs W' base v L := k.typ (fun i cs t e => But1.typ hc hb i cs t (by rcases e with rfl | rfl <;> decide))
end Go.Proofs.Ytcapkkldjgmhfaa
/-
  What a Write tells is what the document's cutter tells.
-/
namespace Go.Proofs.Ytcapkkldjgmhfaa
open Go.RowKit

/-- No chunk ends within these bytes. -/
def noE (l m b : Int) : Int → Int → List Int → Prop
  | _, _, [] => True
  | s, h, x :: r => endB l m b (s + 1) (stepZ h x) = false ∧ noE l m b (s + 1) (stepZ h x) r
theorem with_app {l m b : Int} : ∀ (P Q : List Int) (s h : Int), noE l m b s h P → withL l m b s h (P ++ Q) = withL l m b (withL l m b s h P).1 (withL l m b s h P).2 Q
  | [], _, _, _, _ => rfl
  | x :: r, Q, s, h, hn => by
    have ih := with_app r Q (s + 1) (stepZ h x) hn.2
    rw [List.cons_append, withL, withL, if_neg (by simp [hn.1]), if_neg (by simp [hn.1])]
    exact ih
theorem noE_app {l m b : Int} : ∀ (P Q : List Int) (s h : Int), noE l m b s h P → noE l m b (withL l m b s h P).1 (withL l m b s h P).2 Q → noE l m b s h (P ++ Q)
  | [], _, _, _, _, hq => hq
  | x :: r, Q, s, h, hn, hq => by
    rw [withL, if_neg (by simp [hn.1])] at hq
    exact ⟨hn.1, noE_app r Q _ _ hn.2 hq⟩
theorem noE_of {l m b : Int} : ∀ (P : List Int) (s h : Int), endB l m b (withL l m b s h P).1 (withL l m b s h P).2 = false → noE l m b s h P
  | [], _, _, _ => trivial
  | x :: r, s, h, he => by
    rw [withL] at he
    split at he
    · rename_i h1
      rw [h1] at he
      cases he
    · rename_i h1
      exact ⟨by simpa using h1, noE_of r _ _ he⟩
theorem noE_end {l m b : Int} : ∀ (P : List Int) (s h : Int), noE l m b s h P → endB l m b s h = false → endB l m b (withL l m b s h P).1 (withL l m b s h P).2 = false
  | [], _, _, _, he => he
  | x :: r, s, h, hn, _ => by
    rw [withL, if_neg (by simp [hn.1])]
    exact noE_end r _ _ hn.2 hn.1
/-- The document's Write: the chunks that end, and what is left. -/
def docW (l m b : Int) : Nat → List Int → List (List Int) × List Int
  | 0, Q => ([], Q)
  | f + 1, Q => if (nextL l m b Q).2 = true then (Q.take (nextL l m b Q).1.toNat :: (docW l m b f (Q.drop (nextL l m b Q).1.toNat)).1, (docW l m b f (Q.drop (nextL l m b Q).1.toNat)).2) else ([], Q)
theorem docW_no {l m b : Int} {Q : List Int} (h : (nextL l m b Q).2 = false) : ∀ f, docW l m b f Q = ([], Q)
  | 0 => rfl
  | f + 1 => by rw [docW, if_neg (by simp [h])]
theorem next_nil {l m b : Int} (hc : chkC l m b = 0) : (nextL l m b []).2 = false := by
  unfold nextL withL
  exact end_zero hc 0
theorem docW_fuel {l m b : Int} (hc : chkC l m b = 0) : ∀ (f f' : Nat) (Q : List Int), Q.length ≤ f → Q.length ≤ f' → docW l m b f Q = docW l m b f' Q
  | 0, f', Q, h, _ => by
    have : Q = [] := List.length_eq_zero_iff.1 (by omega)
    subst this
    rw [docW_no (next_nil hc), docW_no (next_nil hc)]
  | f + 1, 0, Q, _, h => by
    have : Q = [] := List.length_eq_zero_iff.1 (by omega)
    subst this
    rw [docW_no (next_nil hc), docW_no (next_nil hc)]
  | f + 1, f' + 1, Q, h, h' => by
    by_cases hq : Q = []
    · subst hq
      rw [docW_no (next_nil hc), docW_no (next_nil hc)]
    · have h1 := (with_cnt l m b Q 0 0).2.2 hq
      have hl : 0 < Q.length := List.length_pos_iff.2 hq
      have hn : (nextL l m b Q).1 = (withL l m b 0 0 Q).1 := rfl
      rw [docW, docW, docW_fuel hc f f' (Q.drop (nextL l m b Q).1.toNat) (by rw [List.length_drop]; omega) (by rw [List.length_drop]; omega)]
/-- A cutter that has P, and told L. -/
structure Has (l m b : Int) (S : Ws) (P : List Int) (L : List (List Int)) : Prop where
  left : S.1.take S.2.1.toNat = P
  none : noE l m b 0 0 P
  walk : withL l m b 0 0 P = (S.2.1, S.2.2.1)
  told : S.2.2.2 = L
theorem has_F {l m b : Int} (hc : chkC l m b = 0) (bs : List Int) (hb : ∀ z ∈ bs, 0 ≤ z ∧ z ≤ 255) : ∀ (f st : Nat) (R : List Int) (L : List (List Int)), st ≤ bs.length → bs.length - st ≤ f → R.length = 4096 → Wg m (R, 0, 0, L) →
    Has l m b ((partsF l m b f st (bs.drop st)).foldl (wrS l m b bs) (R, 0, 0, L)) (docW l m b f (bs.drop st)).2 (L ++ (docW l m b f (bs.drop st)).1)
  | 0, st, R, L, hst, hf, hR, k => by
    have hn : bs.drop st = [] := List.drop_eq_nil_of_le (by omega)
    rw [hn, partsF, docW]
    exact ⟨rfl, trivial, rfl, by simp⟩
  | f + 1, st, R, L, hst, hf, hR, k => by
    obtain ⟨k1, k2, k3, k4, k5⟩ := chkC_ok hc
    have hdl : (bs.drop st).length = bs.length - st := List.length_drop ..
    cases hd : bs.drop st with
    | nil =>
      rw [partsF, docW, if_neg (by unfold nextL withL; dsimp only; rw [end_zero hc]; simp)]
      exact ⟨rfl, trivial, rfl, by simp⟩
    | cons x r =>
      rw [hd] at hdl
      have h1 := with_cnt l m b (x :: r) 0 0
      have h2 := with_most (l := l) (m := m) (b := b) (x :: r) 0 0 (by omega)
      have h3 := with_rng l m b (x :: r) 0 0 ⟨by decide, by decide⟩
      have h4 := with_end (l := l) (m := m) (b := b) (x :: r) 0 0
      have h5 := h1.2.2 (by simp)
      have h6 := noE_of (l := l) (m := m) (b := b) (x :: r) 0 0
      have hdd : ∀ n, (x :: r).drop n = bs.drop (st + n) := fun n => by rw [← hd, List.drop_drop]
      have hnx : nextL l m b (x :: r) = ((withL l m b 0 0 (x :: r)).1, endB l m b (withL l m b 0 0 (x :: r)).1 (withL l m b 0 0 (x :: r)).2) := rfl
      rw [partsF, docW, hnx]
      dsimp only
      rw [hdd, List.foldl_cons]
      obtain ⟨W, hW⟩ : ∃ W, W = withL l m b 0 0 (x :: r) := ⟨_, rfl⟩
      rw [← hW] at h1 h2 h3 h4 h5 h6 ⊢
      have hcn : Cnd m bs ((R, (0 : Int), (0 : Int), L) : Ws).2.1 (st, W.1.toNat, W) := ⟨Int.le_refl _, by dsimp only; omega, by dsimp only; omega, h2, h3.1, h3.2, by dsimp only; omega⟩
      have htk := wrR_take k3 hR hcn
      have hwg := k.step (l := l) (b := b) k3 hb hcn
      dsimp only at htk
      rw [show (0 : Int).toNat = 0 from rfl, List.take_zero, List.nil_append, hd] at htk
      by_cases he : endB l m b W.1 W.2 = true
      · rw [if_pos he]
        have e1 : wrS l m b bs (R, 0, 0, L) (st, W.1.toNat, W) = (wrR bs (R, 0, 0, L) (st, W.1.toNat, W), 0, 0, L ++ [(x :: r).take W.1.toNat]) := by
          unfold wrS
          dsimp only
          rw [if_pos he, htk]
        rw [e1] at hwg ⊢
        have ih := has_F hc bs hb f (st + W.1.toNat) _ (L ++ [(x :: r).take W.1.toNat]) (by omega) (by omega) hwg.len hwg
        rw [List.append_assoc, List.singleton_append] at ih
        exact ih
      · have he' : endB l m b W.1 W.2 = false := by simpa using he
        rw [if_neg he]
        have h7 : ¬ W.1 < 0 + ((x :: r).length : Int) := fun h => he (h4 h)
        have h8 : bs.drop (st + W.1.toNat) = [] := List.drop_eq_nil_of_le (by omega)
        have e1 : wrS l m b bs (R, 0, 0, L) (st, W.1.toNat, W) = (wrR bs (R, 0, 0, L) (st, W.1.toNat, W), W.1, W.2, L) := by
          unfold wrS
          dsimp only
          rw [if_neg he]
        have e2 : partsF l m b f (st + W.1.toNat) [] = [] := by cases f <;> rfl
        rw [h8, e2, e1, List.foldl_nil]
        refine ⟨?_, h6 he', hW.symm, by simp⟩
        dsimp only
        rw [htk]
        exact List.take_of_length_le (by omega)
theorem has_wr {l m b : Int} (hc : chkC l m b = 0) (R bs P : List Int) (s h : Int) (hb : ∀ z ∈ bs, 0 ≤ z ∧ z ≤ 255) (k : Wg m (R, s, h, [])) (hp : Has l m b (R, s, h, []) P []) (f : Nat) (hf : P.length + bs.length ≤ f) :
    Has l m b (wrO l m b s h R bs) (docW l m b f (P ++ bs)).2 (docW l m b f (P ++ bs)).1 := by
  obtain ⟨k1, k2, k3, k4, k5⟩ := chkC_ok hc
  obtain ⟨p1, p2, p3, _⟩ := hp
  dsimp only at p1 p3
  have hs0 := k.s0
  have hs1 := k.s1
  dsimp only at hs0 hs1
  have hPl : P.length = s.toNat := by rw [← p1, List.length_take, k.len]; omega
  have hend : endB l m b s h = false := by
    have := noE_end P 0 0 p2 (end_zero hc 0)
    rw [p3] at this
    exact this
  unfold wrO
  cases hbs : bs with
  | nil =>
    have e2 : partsH l m b ([] : List Int).length s h 0 [] = [] := rfl
    rw [e2, List.foldl_nil, List.append_nil, docW_no (by unfold nextL; rw [p3]; exact hend)]
    exact ⟨p1, p2, p3, rfl⟩
  | cons x r =>
    obtain ⟨f', rfl⟩ : ∃ f', f = f' + 1 := ⟨f - 1, by rw [hbs, List.length_cons] at hf; omega⟩
    rw [← hbs]
    have h1 := with_cnt l m b bs s h
    have h2 := with_most (l := l) (m := m) (b := b) bs s h hs1
    have h3 := with_rng l m b bs s h ⟨k.h0, k.h1⟩
    have h4 := with_end (l := l) (m := m) (b := b) bs s h
    have h5 := h1.2.2 (by rw [hbs]; simp)
    have h6 := noE_of (l := l) (m := m) (b := b) bs s h
    have hap := with_app P bs 0 0 p2
    rw [p3] at hap
    dsimp only at hap
    have hnx : nextL l m b (P ++ bs) = ((withL l m b s h bs).1, endB l m b (withL l m b s h bs).1 (withL l m b s h bs).2) := by unfold nextL; rw [hap]
    have hbl : bs.length = r.length + 1 := by rw [hbs, List.length_cons]
    have hpH : partsH l m b bs.length s h 0 bs = (0, ((withL l m b s h bs).1 - s).toNat, withL l m b s h bs) :: partsF l m b r.length (0 + ((withL l m b s h bs).1 - s).toNat) (bs.drop ((withL l m b s h bs).1 - s).toNat) := by
      rw [hbl, hbs, partsH]
    rw [hpH, docW, hnx, List.foldl_cons, Nat.zero_add]
    dsimp only
    obtain ⟨W, hW⟩ : ∃ W, W = withL l m b s h bs := ⟨_, rfl⟩
    rw [← hW] at h1 h2 h3 h4 h5 h6 hap ⊢
    have hcn : Cnd m bs ((R, s, h, []) : Ws).2.1 (0, (W.1 - s).toNat, W) := ⟨hs0, by dsimp only; omega, by dsimp only; omega, h2, h3.1, h3.2, by dsimp only; omega⟩
    have htk := wrR_take k3 k.len hcn
    have hwg := k.step (l := l) (b := b) k3 hb hcn
    dsimp only at htk
    rw [p1, List.drop_zero] at htk
    have hpt : (P ++ bs).take W.1.toNat = P ++ bs.take (W.1 - s).toNat := by
      rw [List.take_append, List.take_of_length_le (by omega), show W.1.toNat - P.length = (W.1 - s).toNat from by omega]
    have hpd : (P ++ bs).drop W.1.toNat = bs.drop (W.1 - s).toNat := by
      rw [List.drop_append, List.drop_eq_nil_of_le (by omega), List.nil_append, show W.1.toNat - P.length = (W.1 - s).toNat from by omega]
    by_cases he : endB l m b W.1 W.2 = true
    · rw [if_pos he, hpd]
      have e1 : wrS l m b bs (R, s, h, []) (0, (W.1 - s).toNat, W) = (wrR bs (R, s, h, []) (0, (W.1 - s).toNat, W), 0, 0, [(P ++ bs).take W.1.toNat]) := by
        unfold wrS
        dsimp only
        rw [if_pos he, htk, hpt, List.nil_append]
      rw [e1] at hwg ⊢
      have ih := has_F hc bs hb r.length (W.1 - s).toNat _ [(P ++ bs).take W.1.toNat] (by omega) (by omega) hwg.len hwg
      rw [docW_fuel hc f' r.length (bs.drop (W.1 - s).toNat) (by rw [List.length_drop]; omega) (by rw [List.length_drop]; omega)]
      exact ih
    · have he' : endB l m b W.1 W.2 = false := by simpa using he
      rw [if_neg he]
      have h7 : ¬ W.1 < s + (bs.length : Int) := fun h => he (h4 h)
      have h8 : bs.drop (W.1 - s).toNat = [] := List.drop_eq_nil_of_le (by omega)
      have e1 : wrS l m b bs (R, s, h, []) (0, (W.1 - s).toNat, W) = (wrR bs (R, s, h, []) (0, (W.1 - s).toNat, W), W.1, W.2, []) := by
        unfold wrS
        dsimp only
        rw [if_neg he]
      have e2 : ∀ q, partsF l m b r.length q [] = [] := fun q => by cases r.length <;> rfl
      rw [h8, e2, e1, List.foldl_nil]
      refine ⟨?_, noE_app P bs 0 0 p2 (by rw [p3]; exact h6 he'), hap, rfl⟩
      dsimp only
      rw [htk, List.take_of_length_le (by omega)]
end Go.Proofs.Ytcapkkldjgmhfaa
/-
  append of bytes, whatever slice they lie in, behind a row that the call owns; a chunk put behind chunks.
-/
namespace Go.Proofs.Ytcapkkldjgmhfaa
open Go.RowKit

theorem run_append_nil {P : Program} {w : World} (base : Nat) (t ty e : TypeId) (i : TypeInfo) (size cp : Nat) (ht : P.underlying t = some (.slice e)) (hi : P.info? e = some i)
    (v : Value) (n : Nat) (xs : List Value) (hown : w.ownsRow base e size v n xs) : (Builtin.append_ #[t, t] ty #[v, .slice none 0 cp]).run P w = .ok v w := by
  rcases hown.2 with ⟨rfl, rfl⟩ | ⟨g, cap, cur, rfl, _, _, hnc, _⟩
  · simp [Builtin.append_, run_underlying ht, sizeOf, typeInfo, hi, Builtin.lenOf, Builtin.firstCells]
  · simp [Builtin.append_, run_underlying ht, sizeOf, typeInfo, hi, Builtin.lenOf, Builtin.firstCells, hnc, storeCells]
theorem wpList_append_nil {P : Program} {w : World} {ops : Array Oper} {rest : List Oper} {o : Oper} {a : Act} {Q : Exit → Act → World → Prop} (hgd : o.guard = none) (s x : Operand) (t : TypeId)
    (ho : o.op = .call { callee := .builtin .append, args := #[s, x], argTypes := #[t, t] }) (base : Nat) (e : TypeId) (i : TypeInfo) (size cp : Nat) (ht : P.underlying t = some (.slice e)) (hi : P.info? e = some i)
    (v : Value) (n : Nat) (xs : List Value) (hs : a.eval s = v) (hown : w.ownsRow base e size v n xs) (hx : a.eval x = .slice none 0 cp)
    (h : wpList P ops Q rest (a.put o.dst v) w) : wpList P ops Q (o :: rest) a w := by
  refine wpList_plain hgd fun K hK => ?_
  have hrun := run_append_nil (P := P) (w := w) base t o.type e i size cp ht hi v n xs hown
  unfold Oper.wp
  simp [execOp, ho, resolve, invoke, builtin, hs, hx, hrun, Result.andThen]
  exact hK _ _ h

theorem app_any (w : World) {ops : Array Oper} {rest : List Oper} {o : Oper} {ac : Act} {Q : Exit → Act → World → Prop} (hgd : o.guard = none) (s x : Operand)
    (ho : o.op = .call { callee := .builtin .append, args := #[s, x], argTypes := #[25, 25] }) (B : Nat) (v : Value) (l : List Int) (hs : ac.eval s = v) (hown : w.ownsRow B 5 1 v l.length (l.map (Value.int .u8)))
    (a : Option Addr) (cap : Nat) (zs : List Int) (hx : ac.eval x = .slice a zs.length cap) (hrd : Ri w .u8 a cap zs) (hbd : l.length + zs.length ≤ 10000000) (hB : B ≤ w.heap.size)
    (h : ∀ v' w', w'.ownsRow B 5 1 v' (l ++ zs).length ((l ++ zs).map (Value.int .u8)) → w.grownBy w' v.ownBlock → wpList Try.prog ops Q rest (ac.put o.dst v') w') : wpList Try.prog ops Q (o :: rest) ac w := by
  obtain ⟨i0, hi, hz0, hz1, hz2⟩ := info_parts Try.info5c
  cases a with
  | none =>
    have hz : zs = [] := by
      apply List.length_eq_zero_iff.1
      rcases Nat.eq_zero_or_pos zs.length with h | h
      · exact h
      · obtain ⟨_, _, h', _⟩ := hrd.cells h
        cases h'
    subst hz
    refine wpList_append_nil hgd s x 25 ho B 5 i0 1 cap Try.underlying25 hi v l.length _ hs hown hx ?_
    have := h v w (by simpa using hown) (World.grownBy.refl _ _)
    exact this
  | some ad =>
    refine wpList_append_own w hgd s x 25 ho B 5 i0 (.int .u8 0) 1 1 Try.underlying25 hi hz0 hz1 hz2 rfl (by decide) v l.length _ hs hown ad zs.length cap (zs.map (Value.int .u8)) hx (by simp) ?_ (fun u hu => by obtain ⟨y, _, rfl⟩ := List.mem_map.1 hu; rfl) (by unfold maxLen; omega) (by omega) hB ?_
    · intro j u hj
      have hjl : j < zs.length := by
        have := (List.getElem?_eq_some_iff.1 hj).1
        simpa using this
      obtain ⟨b, off, hb, _, hc⟩ := hrd.cells (by omega)
      have hb' := Option.some.inj hb
      subst hb'
      rw [Go.WideShapes.add_plain, hc j hjl, ← hj]
      simp [List.getD, List.getElem?_eq_getElem hjl]
    · intro v' w' h1 h2 _
      refine h v' w' ?_ h2
      rw [List.length_append, List.map_append]
      exact h1
/-- A chunk is put behind chunks that lie in a slot. -/
theorem Chs.push {base : Nat} {W w1 : World} {L : List (List Int)} {v v' y : Value} {z : List Int} {xs : List Value} {tmp : Obj} (hn : base ≤ W.heap.size)
    (hrow : W.ownsRow base 25 1 v L.length xs) (hch : ∀ i, i < L.length → W.ownsRow base 5 1 (xs.getD i (.slice none 0 0)) (L.getD i []).length ((L.getD i []).map (Value.int .u8))) (hy : W.ownsRow base 5 1 y z.length (z.map (Value.int .u8)))
    (hown' : w1.ownsRow base 25 1 v' (L.length + 1) (xs ++ [y])) (hgrow : (W.alloc tmp).grownBy w1 v.ownBlock) : Chs w1 base v' (L ++ [z]) ∧ (∀ (i : Nat) (cs : Array Value) (t : TypeId) (fr : Nat × Nat), t ≠ 25 → W.heap[i]? = some (.cells cs t fr) → w1.heap[i]? = some (.cells cs t fr)) ∧ Below base W w1 := by
  have ht : ∀ (i : Nat) (cs : Array Value) (t : TypeId) (fr : Nat × Nat), t ≠ 25 → W.heap[i]? = some (.cells cs t fr) → w1.heap[i]? = some (.cells cs t fr) := by
    intro i cs t fr h25 hi
    have hlt := (Array.getElem?_eq_some_iff.1 hi).1
    have hne : some i ≠ v.ownBlock := by
      rcases hrow.2 with ⟨rfl, _⟩ | ⟨g, cap, cur, rfl, _, hgb, _⟩
      · simp [Value.ownBlock]
      · intro e'
        obtain rfl : i = g := by simpa [Value.ownBlock] using e'
        have h1 := hi.symm.trans hgb
        cases h1
        exact h25 rfl
    exact (hgrow.block i (by simp; omega) hne).trans (heap_old W tmp hi)
  have hxl : xs.length = L.length := by rw [hrow.1, Nat.mul_one]
  refine ⟨⟨xs ++ [y], by rw [List.length_append]; exact hown', fun i hi => ?_⟩, ht, ?_⟩
  · rw [List.length_append] at hi
    by_cases hlt : i < L.length
    · have e1 : (xs ++ [y]).getD i (.slice none 0 0) = xs.getD i (.slice none 0 0) := by rw [List.getD, List.getD, List.getElem?_append_left (by omega)]
      have e2 : (L ++ [z]).getD i [] = L.getD i [] := by rw [List.getD, List.getD, List.getElem?_append_left (by omega)]
      rw [e1, e2]
      exact own_typ (hch i hlt) (fun i cs => ht i cs 5 (0, 0) (by decide))
    · have he : i = L.length := by simp at hi; omega
      have e1 : (xs ++ [y]).getD i (.slice none 0 0) = y := by rw [List.getD, List.getElem?_append_right (by omega), hxl, he]; simp
      have e2 : (L ++ [z]).getD i [] = z := by rw [List.getD, List.getElem?_append_right (by omega), he]; simp
      rw [e1, e2]
      exact own_typ hy (fun i cs => ht i cs 5 (0, 0) (by decide))
  · refine ((Below.refl base W).alloc hn tmp).grown hgrow (by simp; omega) fun j ej => ?_
    rcases hrow.2 with ⟨rfl, _⟩ | ⟨g, cap, cur, rfl, hb, _, _⟩
    · simp [Value.ownBlock] at ej
    · obtain rfl : g = j := by simpa [Value.ownBlock] using ej
      exact hb
/-- The empty row that []byte{} lays. -/
theorem new_own (w : World) (base : Nat) (hb : base ≤ w.heap.size) : (w.alloc (.cells #[] 5)).ownsRow base 5 1 (.slice (some ⟨w.heap.size, 0, none⟩) 0 0) 0 [] := ⟨rfl, .inr ⟨_, 0, #[], rfl, hb, heap_new w _, Nat.le_refl _, by unfold maxLen; omega, rfl, rfl⟩⟩
end Go.Proofs.Ytcapkkldjgmhfaa
