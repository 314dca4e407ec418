/-
  A record's bytes: the contract of record's written.
-/
import Derived.Test.YtplinkmagnihmaaDoorRcD
namespace Go.Proofs.YtplinkmagnihmaaDoor
open Go.ChangeShapes Go.WideShapes Go.ChangeAt Go.RowKit Go.Deep Go.Lib

def pathL (s : ByteArray) : List Int := s.data.toList.map fun b => ((b.toNat : Nat) : Int)
theorem pathL_len (s : ByteArray) : (pathL s).length = s.size := by simp [pathL]
theorem pathL_cells (s : ByteArray) : strCells s = (pathL s).map (Value.int .u8) := by simp [strCells, pathL]
def wrH (r : Rec) : List Int := ([82, r.kind] ++ vint r.seq ++ vint r.epoch) ++ r.prev
def wrB (r : Rec) : List Int := if r.kind = 1 then wrH r ++ [r.site] else if r.kind = 2 then ((wrH r ++ [(r.path.size : Int)]) ++ pathL r.path) ++ pcsB r.ps else (wrH r ++ [(r.path.size : Int)]) ++ pathL r.path

theorem app_u8 {x y : List Int} (h1 : ∀ z ∈ x, (Lit.int .u8 z).wf = true) (h2 : ∀ z ∈ y, (Lit.int .u8 z).wf = true) : ∀ z ∈ x ++ y, (Lit.int .u8 z).wf = true := fun z hz => by
  rcases List.mem_append.1 hz with h | h
  · exact h1 z h
  · exact h2 z h
theorem get_u8 {x : List Int} (h : ∀ z ∈ x, (Lit.int .u8 z).wf = true) (j : Nat) : (Lit.int .u8 (x.getD j 0)).wf = true := by
  by_cases hj : j < x.length
  · simpa [List.getD, List.getElem?_eq_getElem hj] using h _ (List.getElem_mem hj)
  · simp [List.getD, List.getElem?_eq_none (show x.length ≤ j by omega)]; exact wf_zero _
theorem mem_u8 {x : List Int} (h : ∀ j, (Lit.int .u8 (x.getD j 0)).wf = true) : ∀ z ∈ x, (Lit.int .u8 z).wf = true := fun z hz => by
  obtain ⟨j, hj, rfl⟩ := List.getElem_of_mem hz
  have := h j
  rwa [List.getD, List.getElem?_eq_getElem hj] at this
theorem vint_mem (x : Int) (h0 : 0 ≤ x) (h1 : x < 18446744073709551616) : ∀ z ∈ vint x, (Lit.int .u8 z).wf = true := mem_u8 (fun j => wf_mk_u8 (vint_u8 x h0 h1 j).1 (vint_u8 x h0 h1 j).2)
theorem pcs_mem (l : List Pc) (hl : l.length ≤ 100000) (h : ∀ x ∈ l, PcOk x ∧ nOk x = true) : ∀ z ∈ pcsB l, (Lit.int .u8 z).wf = true := by
  refine app_u8 (vint_mem _ (by omega) (by omega)) (fun z hz => ?_)
  obtain ⟨x, hx, hz⟩ := List.mem_flatMap.1 hz
  obtain ⟨h1, h2⟩ := h x hx
  have h3 := of_decide_eq_true h2
  exact app_u8 (vint_mem x.2 (by omega) (by omega)) (mem_u8 h1.u8) z hz
theorem pcs_u8 (l : List Pc) (hl : l.length ≤ 100000) (h : ∀ x ∈ l, PcOk x ∧ nOk x = true) (j : Nat) : (Lit.int .u8 ((pcsB l).getD j 0)).wf = true := get_u8 (pcs_mem l hl h) j
/-- A record's box, and the row of bytes that is made behind it. -/
structure Wr (w W : World) (r : Rec) (v : Value) (A : List Int) : Prop where
  own : W.ownsRow (w.heap.size + 1) 5 1 v A.length (A.map (Value.int .u8))
  box : Bx W w.heap.size r
  bel : Below w.heap.size w W
  few : A.length ≤ 1000
theorem Wr.ge {w W : World} {r : Rec} {v : Value} {A : List Int} (h : Wr w W r v A) : w.heap.size + 1 ≤ W.heap.size := h.box.lt
theorem Wr.later {w W W' : World} {r : Rec} {v : Value} {A : List Int} (h : Wr w W r v A) (hb : Below W.heap.size W W') : Wr w W' r v A := ⟨own_later h.own hb, h.box.later hb, Bn h.bel hb, h.few⟩
theorem Wr.app {w W W' : World} {r : Rec} {v v' : Value} {A Z : List Int} (h : Wr w W r v A) (ho : W'.ownsRow (w.heap.size + 1) 5 1 v' (A ++ Z).length ((A ++ Z).map (Value.int .u8))) (hb : Below (w.heap.size + 1) W W') (hl : (A ++ Z).length ≤ 1000) : Wr w W' r v' (A ++ Z) :=
  ⟨ho, ⟨(hb.block _ (Nat.lt_succ_self _)).trans h.box.blk, h.box.len⟩, h.bel.trans (hb.mono (Nat.le_succ _)), hl⟩
theorem own_base {w : World} {b c e n : Nat} {v : Value} {k : Nat} {xs : List Value} (h : w.ownsRow b e n v k xs) (hc : c ≤ b) : w.ownsRow c e n v k xs := by
  refine ⟨h.1, ?_⟩
  rcases h.2 with h | ⟨g, cap, cur, h1, h2, h3⟩
  · exact .inl h
  · exact .inr ⟨g, cap, cur, h1, Nat.le_trans hc h2, h3⟩
theorem Wr.start (w : World) (r : Rec) (x y : Int) (h : r.prev.length = 32) : Wr w ((w.alloc (.cells r.cs.toArray 58)).alloc (.cells #[.int .u8 x, .int .u8 y] 5)) r (.slice (some ⟨w.heap.size + 1, 0, none⟩) 2 2) [x, y] := by
  have s : (w.alloc (.cells r.cs.toArray 58)).heap.size = w.heap.size + 1 := by simp
  refine ⟨⟨rfl, .inr ⟨w.heap.size + 1, 2, #[.int .u8 x, .int .u8 y], rfl, Nat.le_refl _, ?_, Nat.le_refl _, by unfold maxLen; omega, rfl, rfl⟩⟩, (Bx.mk' w r h).later (bel_alc _ _), Bn (bel_alc _ _) (bel_alc _ _), by simp⟩
  have := heap_alc (w.alloc (.cells r.cs.toArray 58)) (.cells #[.int .u8 x, .int .u8 y] 5)
  rw [s] at this
  exact this
set_option maxHeartbeats 3200000 in
set_option maxRecDepth 100000 in
theorem written_word (r : Rec) (w : World) (h : Rv w r) (hm : mayB r = true) :
    Calls Tryd.prog 62 #[.agg r.cs.toArray] w fun e w' => ∃ v, e = .returned v ∧ w'.ownsRow w.heap.size 5 1 v (wrB r).length ((wrB r).map (Value.int .u8)) ∧ Below w.heap.size w w' := by
  obtain ⟨⟨hsq, hep⟩, hkb⟩ : (((1 ≤ r.seq ∧ r.seq ≤ 1073741824) ∧ 1 ≤ r.epoch ∧ r.epoch ≤ 1073741824)) ∧ kindB r = true := by
    unfold mayB at hm
    simpa [and_assoc] using hm
  have hki : r.kind = 1 ∨ r.kind = 2 ∨ r.kind = 3 := by
    unfold kindB at hkb
    split at hkb
    · exact .inl ‹_›
    · split at hkb
      · exact .inr (.inr ‹_›)
      · split at hkb
        · exact .inr (.inl ‹_›)
        · cases hkb
  have hk0 : 1 ≤ r.kind := by omega
  have hk1 : r.kind ≤ 3 := by omega
  have H0 := hid (Wr.start w r 82 r.kind h.len)
  have hs0 : (w.alloc (.cells r.cs.toArray 58)).heap.size = w.heap.size + 1 := by simp
  have c34 := (Bx.mk' w r h.len).c34
  have hb0 := bel_alc (w.alloc (.cells r.cs.toArray 58)) (.cells #[.int .u8 82, .int .u8 r.kind] 5)
  have c0 : ((w.alloc (.cells r.cs.toArray 58)).alloc (.cells #[.int .u8 82, .int .u8 r.kind] 5)).cell? ⟨w.heap.size, 0, none⟩ = some (.int .i64 r.seq) := H0.out.box.c0
  have HV1 := hid (fun V => varint_ri r.seq V (by omega) (by omega))
  have HV2 := hid (fun V => varint_ri r.epoch V (by omega) (by omega))
  have HVV := hid h
  have HKB := hid hkb
  have hsq1 := hsq.1
  have hsq2 := hsq.2
  have hep1 := hep.1
  have hep2 := hep.2
  clear h hm hsq hep hb0 hkb
  go_enter Tryd.func62, Tryd.ntmps62
  have HL1 := hid (vint10 r.seq)
  have HL2 := hid (vint10 r.epoch)
  go_wp2_with fail
  refine (HV1.out _).mono ?_
  rintro _ W1 ⟨a1, c1, rfl, hr1, hb1⟩
  have H1 := hid (H0.out.later hb1)
  have R1 := hid hr1
  clear hr1 hb1 H0 HV1 c0 c34 hs0
  go_wp2_with (at_builtin; refine own_app _ rfl _ _ rfl (w.heap.size + 1) _ [82, r.kind] rfl H1.out.own a1 c1 (vint r.seq) rfl R1.out (by have := HL1.out; simp; omega) H1.out.ge ?_)
  intro v2 W2 ho2 hb2
  have H2 := hid (H1.out.app (Z := vint r.seq) (by simpa using ho2) hb2 (by have := HL1.out; simp; omega))
  have c1 := H2.out.box.c1
  clear ho2 hb2 H1 R1
  generalize hA2 : [82, r.kind] ++ vint r.seq = A2 at *
  have HA2 := hid hA2
  have HN2 : Hid (A2.length ≤ 12) := by show _ ≤ _; rw [← hA2]; have := HL1.out; simp; omega
  clear hA2
  go_wp2_with fail
  refine (HV2.out _).mono ?_
  rintro _ W3 ⟨a3, c3, rfl, hr3, hb3⟩
  have H3 := hid (H2.out.later hb3)
  have R3 := hid hr3
  clear hr3 hb3 H2 HV2 c1
  go_wp2_with (at_builtin; refine own_app _ rfl _ _ rfl (w.heap.size + 1) _ A2 rfl H3.out.own a3 c3 (vint r.epoch) rfl R3.out (by have := HL2.out; have := HN2.out; omega) H3.out.ge ?_)
  intro v4 W4 ho4 hb4
  have H4 := hid (H3.out.app (Z := vint r.epoch) (by simpa using ho4) hb4 (by have := HL2.out; have := HN2.out; simp; omega))
  have R4 := hid (H4.out.box.ri HVV.out.u8)
  have HPL := hid HVV.out.len
  clear ho4 hb4 H3 R3
  generalize hA4 : A2 ++ vint r.epoch = A4 at *
  have HA4 := hid hA4
  have HN4 : Hid (A4.length ≤ 22) := by show _ ≤ _; rw [← hA4]; have := HL2.out; have := HN2.out; simp; omega
  clear hA4
  go_wp2_with (at_builtin; refine own_app _ rfl _ _ rfl (w.heap.size + 1) _ A4 rfl H4.out.own (some ⟨w.heap.size, 2, none⟩) 32 r.prev (by rw [HPL.out]; rfl) R4.out (by have := HPL.out; have := HN4.out; omega) H4.out.ge ?_)
  intro v5 W5 ho5 hb5
  have H5 := hid (H4.out.app (Z := r.prev) (by simpa using ho5) hb5 (by have := HPL.out; have := HN4.out; simp; omega))
  clear ho5 hb5 H4 R4
  have HA5 : Hid (A4 ++ r.prev = wrH r) := by show _ = _; rw [← HA4.out, ← HA2.out]; rfl
  have HN5 : Hid ((wrH r).length ≤ 54) := by show _ ≤ _; rw [← HA5.out]; have := HPL.out; have := HN4.out; simp; omega
  rw [HA5.out] at H5
  clear HA5 HA4 HA2 HN4 HN2 HL1 HL2
  have c34 := H5.out.box.c34
  have c35 := H5.out.box.c35
  have c36 := H5.out.box.c36
  have hmost : r.path.size ≤ 9223372036854775807 := by have := HVV.out.path; unfold maxLen at this; omega
  by_cases h1 : r.kind = 1
  · have HKL : Hid (wrB r = wrH r ++ [r.site]) := by show _ = _; unfold wrB; rw [if_pos h1]
    have hst : 0 ≤ r.site ∧ r.site ≤ 1 := by
      have := HKB.out
      unfold kindB at this
      rw [if_pos h1] at this
      simp only [Bool.and_eq_true, decide_eq_true_eq] at this
      omega
    have hst0 := hst.1
    have hst1 := hst.2
    rw [h1] at c34
    have H6 := hid (H5.out.later (bel_alc W5 (.cells #[.int .u8 r.site] 5)))
    have R6 := hid (ri_one W5 r.site (by omega))
    clear hst h1
    go_wp2_with (at_builtin; refine own_app _ rfl _ _ rfl (w.heap.size + 1) _ (wrH r) rfl H6.out.own (some ⟨W5.heap.size, 0, none⟩) 1 [r.site] rfl R6.out (by have := HN5.out; simp; omega) H6.out.ge ?_)
    intro v7 W7 ho7 hb7
    have H7 := hid (H6.out.app (Z := [r.site]) (by simpa using ho7) hb7 (by have := HN5.out; simp; omega))
    clear ho7 hb7
    go_wp2
    go_ret
    exact ⟨_, rfl, by rw [HKL.out]; exact own_base H7.out.own (Nat.le_succ _), H7.out.bel⟩
  · have hpb : pathB r.path = true ∧ (r.kind = 2 → (sizO r.ps).2 = 0) := by
      have := HKB.out
      unfold kindB at this
      rw [if_neg h1] at this
      rcases hki with q | q | q
      · exact absurd q h1
      · rw [q] at this; simp at this; exact ⟨this.1.2, fun _ => this.2⟩
      · rw [q] at this; simp at this; exact ⟨this.2.1.2, fun e => by omega⟩
    have hpz : r.path.size ≤ 255 := by
      have := hpb.1
      unfold pathB at this
      simp only [Bool.and_eq_true, decide_eq_true_eq] at this
      omega
    have H6 := hid (H5.out.later (bel_alc W5 (.cells #[.int .u8 (r.path.size : Int)] 5)))
    have R6 := hid (ri_one W5 (r.path.size : Int) (by omega))
    have HPB := hid hpb
    clear hpb
    go_wp2_with (at_builtin; refine own_app _ rfl _ _ rfl (w.heap.size + 1) _ (wrH r) rfl H6.out.own (some ⟨W5.heap.size, 0, none⟩) 1 [(r.path.size : Int)] rfl R6.out (by have := HN5.out; simp; omega) H6.out.ge ?_)
    intro v7 W7 ho7 hb7
    have H7 := hid (H6.out.app (Z := [(r.path.size : Int)]) (by simpa using ho7) hb7 (by have := HN5.out; simp; omega))
    clear ho7 hb7 H6 R6 H5 c34 c35 c36
    have c36 := H7.out.box.c36
    generalize hA7 : wrH r ++ [(r.path.size : Int)] = A7 at *
    have HA7 := hid hA7
    have HN7 : Hid (A7.length ≤ 55) := by show _ ≤ _; rw [← hA7]; have := HN5.out; simp; omega
    clear hA7
    obtain ⟨i0, hi, hz0, hz1, hz2⟩ := info_parts Tryd.info5W
    go_wp2_with (at_builtin; refine wpList_append_own_string _ rfl _ _ 22 9 rfl (w.heap.size + 1) 5 i0 Tryd.underlying22 Tryd.underlying9 hi hz0 hz1 hz2 _ A7.length (A7.map (Value.int .u8)) rfl H7.out.own r.path rfl (by have := HN7.out; unfold maxLen; omega) (by have := HN7.out; omega) H7.out.ge ?_)
    intro v8 W8 ho8 hg8 _
    have hb8 : Below (w.heap.size + 1) W7 W8 := (Below.refl _ W7).grown hg8 H7.out.ge (fun j hj => (H7.out.own.lt j hj).1)
    have ho8' : W8.ownsRow (w.heap.size + 1) 5 1 v8 (A7 ++ pathL r.path).length ((A7 ++ pathL r.path).map (Value.int .u8)) := by
      rw [pathL_cells] at ho8
      rw [List.length_append, pathL_len, List.map_append]
      exact ho8
    have H8 := hid (H7.out.app (Z := pathL r.path) ho8' hb8 (by have := HN7.out; rw [List.length_append, pathL_len]; omega))
    have HN8 : Hid ((A7 ++ pathL r.path).length ≤ 310) := by show _ ≤ _; have := HN7.out; rw [List.length_append, pathL_len]; omega
    clear ho8 ho8' hg8 hb8 H7 c36
    have c34 := H8.out.box.c34
    have c37 := H8.out.box.c37
    by_cases h2 : r.kind = 2
    · have HKL : Hid (wrB r = (A7 ++ pathL r.path) ++ pcsB r.ps) := by show _ = _; unfold wrB; rw [if_neg h1, if_pos h2, HA7.out]
      have hsz := HPB.out.2 h2
      have hsz2 : r.ps.length ≤ 4096 ∧ r.ps.all nOk = true := by
        unfold sizO at hsz
        split at hsz
        · cases hsz
        · split at hsz
          · exact ⟨by omega, ‹_›⟩
          · cases hsz
      have HPW := hid (pieces_word r.a r.cap r.ps W8 (HVV.out.row.later H8.out.bel) hsz2.1 hsz2.2)
      have HPN : Hid ((pcsB r.ps).length ≤ 180000) := by
        show _ ≤ _
        have h1 := vint10 (r.ps.length : Int)
        have h2 := flat_len r.ps (fun x hx => (HVV.out.row.fits x hx).len)
        have := hsz2.1
        unfold pcsB
        rw [List.length_append]
        omega
      rw [h2] at c34
      have HP8 : Hid (∀ j, (Lit.int .u8 ((pcsB r.ps).getD j 0)).wf = true) := pcs_u8 r.ps (by have := hsz2.1; omega) (fun x hx => ⟨HVV.out.row.fits x hx, List.all_eq_true.1 hsz2.2 x hx⟩)
      clear hsz hsz2 h1 h2
      generalize hA8 : A7 ++ pathL r.path = A8 at *
      go_wp2_with fail
      refine HPW.out.mono ?_
      rintro _ W9 ⟨v9, rfl, ho9, hb9⟩
      obtain ⟨a9, c9, rfl, hr9⟩ := Ri.own ho9 HP8.out
      have H9 := hid (H8.out.later hb9)
      have R9 := hid hr9
      clear ho9 hr9 hb9 H8 HPW
      go_wp2_with (at_builtin; refine own_app _ rfl _ _ rfl (w.heap.size + 1) _ A8 rfl H9.out.own a9 c9 (pcsB r.ps) rfl R9.out (by have := HPN.out; have := HN8.out; omega) H9.out.ge ?_)
      intro v10 W10 ho10 hb10
      have ho10' : W10.ownsRow (w.heap.size + 1) 5 1 v10 (A8 ++ pcsB r.ps).length ((A8 ++ pcsB r.ps).map (Value.int .u8)) := by simpa using ho10
      have HO := hid ho10'
      have HBF := hid (H9.out.bel.trans (hb10.mono (Nat.le_succ _)))
      clear ho10 ho10' hb10 H9 R9
      go_wp2
      go_ret
      exact ⟨_, rfl, by rw [HKL.out]; exact own_base HO.out (Nat.le_succ _), HBF.out⟩
    · have HKL : Hid (wrB r = A7 ++ pathL r.path) := by show _ = _; unfold wrB; rw [if_neg h1, if_neg h2, HA7.out]
      have h3 : r.kind = 3 := by omega
      rw [h3] at c34
      clear h1 h2 h3 c37
      go_wp2
      go_ret
      exact ⟨_, rfl, by rw [HKL.out]; exact own_base H8.out.own (Nat.le_succ _), H8.out.bel⟩
end Go.Proofs.YtplinkmagnihmaaDoor
