/-
  The document's Same, on two rows of chunks that read alike.
-/
import Derived.Test.YtcapkkldjgmhfaaPart06
namespace Go.Proofs.Ytcapkkldjgmhfaa
open Go.RowKit

/-- A row of rows of bytes, as it reads. -/
structure Cs (w : World) (a : Option Addr) (cap : Nat) (L : List (List Int)) : Prop where
  room : L.length ≤ cap
  most : L.length ≤ 1048576
  cells : 0 < L.length → ∃ b off, a = some ⟨b, off, none⟩ ∧ b < w.heap.size ∧ ∀ j, j < L.length → ∃ aj cj, w.cell? ⟨b, off + j, none⟩ = some (.slice aj (L.getD j []).length cj) ∧ Ri w .u8 aj cj (L.getD j [])
theorem Ri.str {w : World} {a : Option Addr} {cap : Nat} {zs : List Int} (h : Ri w .u8 a cap zs) (W : World) (hb : Below w.heap.size w W) :
    (convert 25 9 (.slice a zs.length cap)).run Try.prog W = .ok (.string (strOfNums zs)) W := by
  have h' := h.later hb
  by_cases h0 : 0 < zs.length
  · obtain ⟨b, off, rfl, _, hc⟩ := h'.cells h0
    exact run_convert_bytes_arg (P := Try.prog) W 25 5 Try.underlying25 Try.underlying5 b off zs.length cap zs rfl hc 9 Try.underlying9
  · have hz : zs = [] := List.length_eq_zero_iff.1 (by omega)
    subst hz
    rw [run_convert_bytes_string W 25 9 5 a _ cap Try.underlying25 Try.underlying5 Try.underlying9]
    cases a with
    | none => rfl
    | some a => rfl
theorem getD_mem {L : List (List Int)} {i : Nat} (h : i < L.length) : L.getD i [] ∈ L := by
  rw [List.getD, List.getElem?_eq_getElem h]
  exact List.getElem_mem h
theorem Chs.cs {W : World} {base : Nat} {v : Value} {L : List (List Int)} (h : Chs W base v L) (hm : L.length ≤ 1048576) (hf : ∀ c ∈ L, ∀ z ∈ c, 0 ≤ z ∧ z ≤ 255) : ∃ a cap, v = .slice a L.length cap ∧ Cs W a cap L := by
  obtain ⟨xs, ⟨h1, h2⟩, h3⟩ := h
  rcases h2 with ⟨rfl, h0⟩ | ⟨gg, cp, cur, rfl, _, hb, hn, hx, hcs, ht⟩
  · exact ⟨none, 0, by rw [h0], by omega, hm, fun h => by omega⟩
  · refine ⟨some ⟨gg, 0, none⟩, cp, rfl, hn, hm, fun h0 => ⟨gg, 0, rfl, (Array.getElem?_eq_some_iff.1 hb).1, fun j hj => ?_⟩⟩
    rw [Nat.mul_one] at h1 ht
    obtain ⟨a, cap, e, hr⟩ := Ri.own (h3 j hj) (fun i => by
      have := fits_mem.2 (hf _ (getD_mem hj)) i
      exact wf_mk_u8 this.1 this.2)
    refine ⟨a, cap, ?_, hr⟩
    rw [← e, Joins.cell_of_block hb (0 + j), Nat.zero_add, ← ht]
    have hjx : j < xs.length := by omega
    have hjc : j < (cur.toList.take L.length).length := by rw [ht]; exact hjx
    rw [List.getD, List.getElem?_take_of_lt hj, Array.getElem?_toList]
    rw [List.length_take, Array.length_toList] at hjc
    rw [Array.getElem?_eq_getElem (by omega)]
    rfl
set_option maxHeartbeats 6400000 in
set_option maxRecDepth 100000 in
theorem same_eq (a1 a2 : Option Addr) (c1 c2 : Nat) (L : List (List Int)) (w : World) (h1 : Cs w a1 c1 L) (h2 : Cs w a2 c2 L) : Calls Try.prog 26 #[.slice a1 L.length c1, .slice a2 L.length c2] w fun e w' => e = .returned (.bool true) ∧ Below w.heap.size w w' := by
  have H1 := hid h1
  have H2 := hid h2
  have hm := h1.most
  obtain ⟨len, hl⟩ : ∃ n, n = L.length := ⟨_, rfl⟩
  have HL := hid hl
  rw [← hl] at hm ⊢
  clear h1 h2 hl
  go_enter Try.func26, Try.ntmps26
  go_wp2_with fail
  go_loopw [5] (fun p wr => ∃ k : Nat, k ≤ len ∧ p = .int .i64 (k : Int) ∧ Hid (Below w.heap.size w wr)) (fun p _ => len - (intOf p).toNat)
  case atStart => exact ⟨0, Nat.zero_le _, rfl, Below.refl _ _⟩
  case round =>
    obtain ⟨k, hk, rfl, HB⟩ := hrel
    by_cases hlt : k < len
    · have hltz : (k : Int) < (len : Int) := by omega
      have hk0 : (0 : Int) ≤ (k : Int) := by omega
      obtain ⟨b1, o1, rfl, hb1, hc1⟩ := H1.out.cells (by rw [← HL.out]; omega)
      obtain ⟨b2, o2, rfl, hb2, hc2⟩ := H2.out.cells (by rw [← HL.out]; omega)
      obtain ⟨x1, y1, e1, r1⟩ := hc1 k (by rw [← HL.out]; exact hlt)
      obtain ⟨x2, y2, e2, r2⟩ := hc2 k (by rw [← HL.out]; exact hlt)
      have k1 := fun W hW => r1.str W hW
      have k2 := fun W hW => r2.str W hW
      clear hc1 hc2 r1 r2
      generalize L.getD k [] = z at *
      go_wp2_with fail
      refine wp_region_held_drew (S := fun W => Below w.heap.size w W) (by kernel_rfl) (HB.out.trans ((Below.refl _ _).drew)) (fun hS => ?_)
      generalize wr.drew = wD at *
      refine Ord.take (i := 0) (d := 17) (v := ?va0) rfl rfl (by as_aux_lemma => kernel_rfl) (by as_aux_lemma => kernel_rfl) (by as_aux_lemma => kernel_rfl) (fun _ _ _ h => h) (by rfl) ?ha0 (by assumption) ?_
      case ha0 => intro w hSw; go_simp; try with_reducible rfl
      simp only [List.setIfInBounds_toArray, List.set_cons_zero, List.set_cons_succ]
      refine Ord.take (i := 1) (d := 18) (v := ?va1) rfl rfl (by as_aux_lemma => kernel_rfl) (by as_aux_lemma => kernel_rfl) (by as_aux_lemma => kernel_rfl) (fun _ _ _ h => h) (by rfl) ?ha1 (by assumption) ?_
      case ha1 => intro w hSw; go_simp; try with_reducible rfl
      simp only [List.setIfInBounds_toArray, List.set_cons_zero, List.set_cons_succ]
      refine Ord.take (i := 2) (d := 19) (v := .pointer (some ⟨b1, o1 + k, none⟩)) rfl rfl (by as_aux_lemma => kernel_rfl) (by as_aux_lemma => kernel_rfl) (by as_aux_lemma => kernel_rfl) (fun _ _ _ h => h) (by rfl) ?ha2 (by assumption) ?_
      case ha2 => intro w hSw; go_simp; try with_reducible rfl
      simp only [List.setIfInBounds_toArray, List.set_cons_zero, List.set_cons_succ]
      refine Ord.take (i := 3) (d := 20) (v := .slice x1 z.length y1) rfl rfl (by as_aux_lemma => kernel_rfl) (by as_aux_lemma => kernel_rfl) (by as_aux_lemma => kernel_rfl) (fun _ _ _ h => h) (by rfl) ?ha3 (by assumption) ?_
      case ha3 => intro w hSw; have q1 := (hSw.cell (p := ⟨b1, o1 + k, none⟩) hb1).trans e1; have q2 := (hSw.cell (p := ⟨b2, o2 + k, none⟩) hb2).trans e2; have j1 := k1 _ hSw; have j2 := k2 _ hSw; go_simp; try with_reducible rfl
      simp only [List.setIfInBounds_toArray, List.set_cons_zero, List.set_cons_succ]
      refine Ord.take (i := 4) (d := 21) (v := .string (strOfNums z)) rfl rfl (by as_aux_lemma => kernel_rfl) (by as_aux_lemma => kernel_rfl) (by as_aux_lemma => kernel_rfl) (fun _ _ _ h => h) (by rfl) ?ha4 (by assumption) ?_
      case ha4 => intro w hSw; have q1 := (hSw.cell (p := ⟨b1, o1 + k, none⟩) hb1).trans e1; have q2 := (hSw.cell (p := ⟨b2, o2 + k, none⟩) hb2).trans e2; have j1 := k1 _ hSw; have j2 := k2 _ hSw; go_simp; try with_reducible rfl
      simp only [List.setIfInBounds_toArray, List.set_cons_zero, List.set_cons_succ]
      refine Ord.take (i := 5) (d := 22) (v := ?va5) rfl rfl (by as_aux_lemma => kernel_rfl) (by as_aux_lemma => kernel_rfl) (by as_aux_lemma => kernel_rfl) (fun _ _ _ h => h) (by rfl) ?ha5 (by assumption) ?_
      case ha5 => intro w hSw; go_simp; try with_reducible rfl
      simp only [List.setIfInBounds_toArray, List.set_cons_zero, List.set_cons_succ]
      refine Ord.take (i := 6) (d := 23) (v := ?va6) rfl rfl (by as_aux_lemma => kernel_rfl) (by as_aux_lemma => kernel_rfl) (by as_aux_lemma => kernel_rfl) (fun _ _ _ h => h) (by rfl) ?ha6 (by assumption) ?_
      case ha6 => intro w hSw; go_simp; try with_reducible rfl
      simp only [List.setIfInBounds_toArray, List.set_cons_zero, List.set_cons_succ]
      refine Ord.take (i := 7) (d := 24) (v := .pointer (some ⟨b2, o2 + k, none⟩)) rfl rfl (by as_aux_lemma => kernel_rfl) (by as_aux_lemma => kernel_rfl) (by as_aux_lemma => kernel_rfl) (fun _ _ _ h => h) (by rfl) ?ha7 (by assumption) ?_
      case ha7 => intro w hSw; go_simp; try with_reducible rfl
      simp only [List.setIfInBounds_toArray, List.set_cons_zero, List.set_cons_succ]
      refine Ord.take (i := 8) (d := 25) (v := .slice x2 z.length y2) rfl rfl (by as_aux_lemma => kernel_rfl) (by as_aux_lemma => kernel_rfl) (by as_aux_lemma => kernel_rfl) (fun _ _ _ h => h) (by rfl) ?ha8 (by assumption) ?_
      case ha8 => intro w hSw; have q1 := (hSw.cell (p := ⟨b1, o1 + k, none⟩) hb1).trans e1; have q2 := (hSw.cell (p := ⟨b2, o2 + k, none⟩) hb2).trans e2; have j1 := k1 _ hSw; have j2 := k2 _ hSw; go_simp; try with_reducible rfl
      simp only [List.setIfInBounds_toArray, List.set_cons_zero, List.set_cons_succ]
      refine Ord.take (i := 9) (d := 26) (v := .string (strOfNums z)) rfl rfl (by as_aux_lemma => kernel_rfl) (by as_aux_lemma => kernel_rfl) (by as_aux_lemma => kernel_rfl) (fun _ _ _ h => h) (by rfl) ?ha9 (by assumption) ?_
      case ha9 => intro w hSw; have q1 := (hSw.cell (p := ⟨b1, o1 + k, none⟩) hb1).trans e1; have q2 := (hSw.cell (p := ⟨b2, o2 + k, none⟩) hb2).trans e2; have j1 := k1 _ hSw; have j2 := k2 _ hSw; go_simp; try with_reducible rfl
      simp only [List.setIfInBounds_toArray, List.set_cons_zero, List.set_cons_succ]
      refine Ord.take (i := 10) (d := 27) (v := .bool false) rfl rfl (by as_aux_lemma => kernel_rfl) (by as_aux_lemma => kernel_rfl) (by as_aux_lemma => kernel_rfl) (fun _ _ _ h => h) (by rfl) ?ha10 (by assumption) ?_
      case ha10 => intro w hSw; go_simp; try with_reducible rfl
      simp only [List.setIfInBounds_toArray, List.set_cons_zero, List.set_cons_succ]
      refine wpAnyH_done (by as_aux_lemma => kernel_rfl) ?_ _
      have HBD := hid hS
      clear hS
      go_wp2_with fail
      refine ⟨⟨k + 1, by omega, rfl, HBD.out⟩, ?_⟩
      simp only [intOf]
      omega
    · have hkl : k = len := by omega
      subst hkl
      have hz0 : ¬ (k : Int) < (k : Int) := by omega
      go_wp2_with fail
      go_ret
      exact ⟨rfl, HB.out⟩
end Go.Proofs.Ytcapkkldjgmhfaa
/-
  What a Write leaves behind, and that it does not hang on what the row holds behind what is left.
-/
namespace Go.Proofs.Ytcapkkldjgmhfaa
open Go.RowKit

/-- What holds of a cutter between two Writes. -/
structure Wg (m : Int) (S : Ws) : Prop where
  s0 : 0 ≤ S.2.1
  s1 : S.2.1 < m
  h0 : 0 ≤ S.2.2.1
  h1 : S.2.2.1 < 18446744073709551616
  hz : S.2.1 = 0 → S.2.2.1 = 0
  len : S.1.length = 4096
  fR : ∀ z ∈ S.1, 0 ≤ z ∧ z ≤ 255
  fL : ∀ c ∈ S.2.2.2, ∀ z ∈ c, 0 ≤ z ∧ z ≤ 255
def Cnd (m : Int) (bs : List Int) (s : Int) (x : Pt) : Prop := 0 ≤ s ∧ s + (x.2.1 : Int) = x.2.2.1 ∧ 1 ≤ x.2.1 ∧ x.2.2.1 ≤ m ∧ 0 ≤ x.2.2.2 ∧ x.2.2.2 < 18446744073709551616 ∧ x.1 + x.2.1 ≤ bs.length
theorem part_len {bs : List Int} {x : Pt} (h : x.1 + x.2.1 ≤ bs.length) : ((bs.drop x.1).take x.2.1).length = x.2.1 := by rw [List.length_take, List.length_drop]; omega
theorem Wg.step {l m b : Int} {bs : List Int} {S : Ws} {x : Pt} (k : Wg m S) (hm : m ≤ 4096) (hb : ∀ z ∈ bs, 0 ≤ z ∧ z ≤ 255) (c : Cnd m bs S.2.1 x) : Wg m (wrS l m b bs S x) := by
  obtain ⟨c1, c2, c3, c4, c5, c6, c7⟩ := c
  have hyl := part_len c7
  have hR : (wrR bs S x).length = 4096 := (putL_len (by rw [k.len, hyl]; omega)).trans k.len
  have hF : ∀ z ∈ wrR bs S x, 0 ≤ z ∧ z ≤ 255 := fits_mem.1 (putL_fits (fits_mem.2 k.fR) (fits_mem.2 (fun z hz => hb z (List.mem_of_mem_drop (List.mem_of_mem_take hz)))))
  unfold wrS
  split
  · refine ⟨Int.le_refl _, ?_, Int.le_refl _, by dsimp only; omega, fun _ => rfl, hR, hF, fun c hc => ?_⟩
    · dsimp only; omega
    · rcases List.mem_append.1 hc with hc | hc
      · exact k.fL c hc
      · rw [List.mem_singleton] at hc
        subst hc
        exact fun z hz => hF z (List.mem_of_mem_take hz)
  · rename_i he
    have hne := not_end he
    exact ⟨by dsimp only; omega, by dsimp only; omega, c5, c6, fun h => by dsimp only at h; omega, hR, hF, k.fL⟩
theorem Wg.fold {l m b : Int} {bs : List Int} (hm : m ≤ 4096) (hb : ∀ z ∈ bs, 0 ≤ z ∧ z ≤ 255) : ∀ (xs : List Pt) (S : Ws), Okp l m b bs S xs → Wg m S → Wg m (xs.foldl (wrS l m b bs) S)
  | [], _, _, k => k
  | _ :: xs, _, h, k => Wg.fold hm hb xs _ h.2 (k.step hm hb h.1)
/-- Two cutters that go on alike. -/
structure Eqv (S S' : Ws) : Prop where
  s : S.2.1 = S'.2.1
  h : S.2.2.1 = S'.2.2.1
  L : S.2.2.2 = S'.2.2.2
  R : S.1.take S.2.1.toNat = S'.1.take S.2.1.toNat
theorem wrR_take {m : Int} {bs : List Int} {S : Ws} {x : Pt} (hm : m ≤ 4096) (hl : S.1.length = 4096) (c : Cnd m bs S.2.1 x) : (wrR bs S x).take x.2.2.1.toNat = S.1.take S.2.1.toNat ++ (bs.drop x.1).take x.2.1 := by
  obtain ⟨c1, c2, c3, c4, c5, c6, c7⟩ := c
  have h := putL_take (R := S.1) (ys := (bs.drop x.1).take x.2.1) (s := S.2.1.toNat) (by omega)
  rw [part_len c7, show S.2.1.toNat + x.2.1 = x.2.2.1.toNat from by omega] at h
  exact h
theorem Eqv.step {l m b : Int} {bs : List Int} {S S' : Ws} {x : Pt} (e : Eqv S S') (hm : m ≤ 4096) (hl : S.1.length = 4096) (hl' : S'.1.length = 4096) (c : Cnd m bs S.2.1 x) : Eqv (wrS l m b bs S x) (wrS l m b bs S' x) := by
  have t1 := wrR_take hm hl c
  have t2 := wrR_take hm hl' (e.s ▸ c)
  rw [← e.s, ← e.R] at t2
  have t3 := t1.trans t2.symm
  unfold wrS
  split
  · exact ⟨rfl, rfl, by dsimp only; rw [t3, e.L], rfl⟩
  · exact ⟨rfl, rfl, e.L, t3⟩
theorem Eqv.fold {l m b : Int} {bs : List Int} (hm : m ≤ 4096) (hb : ∀ z ∈ bs, 0 ≤ z ∧ z ≤ 255) : ∀ (xs : List Pt) (S S' : Ws), Okp l m b bs S xs → Wg m S → Wg m S' → Eqv S S' → Eqv (xs.foldl (wrS l m b bs) S) (xs.foldl (wrS l m b bs) S')
  | [], _, _, _, _, _, e => e
  | _ :: xs, _, _, h, k, k', e => Eqv.fold hm hb xs _ _ h.2 (k.step hm hb h.1) (k'.step hm hb (e.s ▸ h.1)) (e.step hm k.len k'.len h.1)
theorem wr_good {l m b s h : Int} {R bs : List Int} (hc : chkC l m b = 0) (hb : ∀ z ∈ bs, 0 ≤ z ∧ z ≤ 255) (k : Wg m (R, s, h, [])) : Wg m (wrO l m b s h R bs) := by
  obtain ⟨k1, k2, k3, k4, k5⟩ := chkC_ok hc
  exact Wg.fold k3 hb _ _ (okp_H hc bs s h k.s0 k.s1 k.h0 k.h1 bs.length R []) k
theorem wr_same {l m b s h : Int} {R R' bs : List Int} (hc : chkC l m b = 0) (hb : ∀ z ∈ bs, 0 ≤ z ∧ z ≤ 255) (k : Wg m (R, s, h, [])) (k' : Wg m (R', s, h, [])) (e : R.take s.toNat = R'.take s.toNat) : Eqv (wrO l m b s h R bs) (wrO l m b s h R' bs) := by
  obtain ⟨k1, k2, k3, k4, k5⟩ := chkC_ok hc
  exact Eqv.fold k3 hb _ _ _ (okp_H hc bs s h k.s0 k.s1 k.h0 k.h1 bs.length R []) k k' ⟨rfl, rfl, rfl, e⟩
theorem wr_len (l m b s h : Int) (R bs : List Int) : (wrO l m b s h R bs).2.2.2.length ≤ bs.length := by
  have h1 := fold_len l m b bs (partsH l m b bs.length s h 0 bs) (R, s, h, [])
  have h2 := partsH_len l m b bs.length s h 0 bs
  unfold wrO
  simp only [List.length_nil] at h1
  omega
theorem Wg.zero {m : Int} (hm : 0 < m) {R : List Int} (hl : R.length = 4096) (hf : ∀ j, 0 ≤ R.getD j 0 ∧ R.getD j 0 ≤ 255) : Wg m (R, 0, 0, []) := ⟨Int.le_refl _, hm, Int.le_refl _, by dsimp only; omega, fun _ => rfl, hl, fits_mem.1 hf, fun _ h => by cases h⟩
theorem But1.below {g n : Nat} {W W' : World} (h : But1 g W W') (hn : n ≤ W.heap.size) (hg : n ≤ g) : Below n W W' := ⟨h.bel.os, h.bel.tape, h.bel.output, h.bel.size, fun i hi => h.same i (by omega) (by omega)⟩
theorem Cu.but {W W' : World} {g g' : Nat} {l m b s h : Int} {R : List Int} (k : Cu W g l m b s h R) (hb : But1 g' W W') (hn : g ≠ g') : Cu W' g l m b s h R := k.later (hb.same g k.lt hn)
theorem Chs.but {W W' : World} {g base : Nat} {l m b s h : Int} {R : List Int} {v : Value} {L : List (List Int)} (k : Chs W base v L) (hc : Cu W g l m b s h R) (hb : But1 g W W') : Chs W' base v L := k.typ (fun i cs t e => But1.typ hc hb i cs t (by rcases e with rfl | rfl <;> decide))
end Go.Proofs.Ytcapkkldjgmhfaa
