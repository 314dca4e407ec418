/-
  The document's Parse, by the kind: other. The document's Parse, by the kind: lead. The document's Parse. What the document's Parse answers is what Parse answers. The document's reader: its digest. The document's reader: its take, byte, number.
-/
import Derived.Test.YtpbaacplgohniaaDoorRcBg
import Derived.Test.YtpbaacplgohniaaDoorRcU
namespace Go.Proofs.YtpbaacplgohniaaDoor
open Go.ChangeShapes Go.WideShapes Go.ChangeAt Go.RowKit Go.Deep

/-- What is left, and whether something was wrong. -/
abbrev St := List Int × Bool
def takeQ (n : Nat) (s : St) : List Int × St := if s.2 = true then (List.replicate (min n 300) 0, (s.1, true)) else if n ≤ s.1.length then (s.1.take n, (s.1.drop n, false)) else (List.replicate (min n 300) 0, (s.1, true))
def byteQ (s : St) : Int × St := ((takeQ 1 s).1.headD 0, (takeQ 1 s).2)
def numQ (s : St) : Int × St := if s.2 = true then (0, (s.1, true)) else match numO 1073741824 s.1 with
  | none => (0, (s.1, true))
  | some (x, rs) => ((x : Int), (rs, false))
/-- The document's reader in memory. -/
structure Rq (w0 w : World) (g : Nat) (s : St) : Prop where
  blk : ∃ a c, w.heap[g]? = some (.cells #[.slice a s.1.length c, .bool s.2] 93) ∧ Ri w0 .u8 a c s.1
  bel : Below w0.heap.size w0 w
  ge : w0.heap.size ≤ g
theorem Rq.lt {w0 w : World} {g : Nat} {s : St} (h : Rq w0 w g s) : g < w.heap.size := by
  obtain ⟨a, c, hb, _⟩ := h.blk
  exact (Array.getElem?_eq_some_iff.1 hb).1
theorem Rq.later {w0 w w' : World} {g : Nat} {s : St} (h : Rq w0 w g s) (hb : Below w.heap.size w w') : Rq w0 w' g s := by
  have hl := h.lt
  obtain ⟨a, c, hk, hr⟩ := h.blk
  exact ⟨⟨a, c, (hb.block _ hl).trans hk, hr⟩, h.bel.trans (hb.mono h.bel.size), h.ge⟩
theorem Rq.but {w0 w w' : World} {g g' : Nat} {s : St} (h : Rq w0 w g s) (hb : But1 g' w w') (hne : g ≠ g') (hg : w0.heap.size ≤ g') : Rq w0 w' g s := by
  have hl := h.lt
  obtain ⟨a, c, hk, hr⟩ := h.blk
  exact ⟨⟨a, c, (hb.same _ hl hne).trans hk, hr⟩, h.bel.trans (hb.below hg h.bel.size), h.ge⟩
theorem head_lo {w0 : World} {a : Option Addr} {cap : Nat} {zs : List Int} (h : Ri w0 .u8 a cap zs) (n : Nat) (hn : n ≤ zs.length) :
    ∃ a' c', (∀ w, (Instr.sliceAt 29 (.slice a zs.length cap) none (some (.int .i64 (n : Int))) none).run Tryd.prog w = .ok (.slice a' (zs.take n).length c') w) ∧ Ri w0 .u8 a' c' (zs.take n) := by
  have hroom := h.room
  obtain ⟨i, hi⟩ : ∃ i, Tryd.prog.info? 5 = some i := info_of_underlying Tryd.underlying5
  have hl : (zs.take n).length = n := by simp; omega
  have hrun : ∀ w, (Instr.sliceAt 29 (.slice a zs.length cap) none (some (.int .i64 (n : Int))) none).run Tryd.prog w = .ok (.slice (if cap = 0 then a else a.map (·.add (0 * i.size))) (zs.take n).length cap) w := fun w => by
    rw [hl]
    have e1 : n ≤ cap := by omega
    simp [Instr.sliceAt, Instr.slice, Instr.sliceBounds, Instr.sliceBound, asIntOf, run_underlying Tryd.underlying29, sizeOf, typeInfo, hi, e1]
  refine ⟨_, _, hrun, ?_⟩
  have ht := h.take n
  by_cases hc : cap = 0
  · rw [if_pos hc]; exact ht
  · rw [if_neg hc, Nat.zero_mul]
    by_cases h0 : 0 < zs.length
    · obtain ⟨b, off, rfl, _, _⟩ := h.cells h0
      exact ht
    · have : zs.take n = [] := by rw [List.length_eq_zero_iff.1 (show zs.length = 0 by omega)]; simp
      rw [this]
      exact ri_none _ _ _ _ h.most
theorem mk_zer (n : Nat) (hn : n ≤ 1000000) (w : World) : (Instr.makeSlice 29 (.int .i64 (n : Int)) (.int .i64 (n : Int))).run Tryd.prog w = .ok (.slice (some ⟨w.heap.size, 0, none⟩) n n) (w.alloc (.cells (madeCells #[.int .u8 0] n) 5)) := by
  obtain ⟨i0, hi, hi0, hi1, hi2⟩ := info_parts Tryd.info5W
  have h := run_make (P := Tryd.prog) w 29 5 i0 (.int .u8 0) Tryd.underlying29 hi hi0 .i64 .i64 (n : Int) (n : Int) (by omega) (by omega) (by rw [hi2]; omega) (by omega)
  rw [Int.toNat_natCast, hi1, Nat.mul_one] at h
  exact h
theorem zer_ri (w : World) (n : Nat) (hn : n ≤ 1000000) : Ri (w.alloc (.cells (madeCells #[.int .u8 0] n) 5)) .u8 (some ⟨w.heap.size, 0, none⟩) n (List.replicate n 0) := by
  refine ⟨by rw [List.length_replicate]; exact Nat.le_refl _, by unfold maxLen; omega, fun _ => ⟨w.heap.size, 0, rfl, by simp, fun j hj => ?_⟩, fun j => ?_⟩
  · rw [List.length_replicate] at hj
    rw [Nat.zero_add, Joins.cell_of_block (heap_alc w _) j]
    simp [madeCells, hj, Nat.mod_one, List.getD]
  · have : (List.replicate n (0 : Int)).getD j 0 = 0 := by
      simp only [List.getD, List.getElem?_replicate]
      split <;> rfl
    rw [this]; exact wf_zero _
def TkP (w0 w : World) (g : Nat) (t : List Int × St) (e : Ending) (w' : World) : Prop := ∃ a c, e = .returned (.slice a t.1.length c) ∧ Ri w' .u8 a c t.1 ∧ Rq w0 w' g t.2 ∧ But1 g w w' ∧ (0 < t.1.length → ∃ b off, a = some ⟨b, off, none⟩ ∧ (b < w0.heap.size ∨ w.heap.size ≤ b))
theorem takeQ_ok {n : Nat} {zs : List Int} (h : n ≤ zs.length) : takeQ n (zs, false) = (zs.take n, (zs.drop n, false)) := by unfold takeQ; simp [h]
theorem takeQ_no {n : Nat} {zs : List Int} (h : ¬ n ≤ zs.length) : takeQ n (zs, false) = (List.replicate (min n 300) 0, (zs, true)) := by unfold takeQ; simp [h]
theorem takeQ_bad (n : Nat) (zs : List Int) : takeQ n (zs, true) = (List.replicate (min n 300) 0, (zs, true)) := by unfold takeQ; simp
set_option maxHeartbeats 3200000 in
set_option maxRecDepth 100000 in
theorem dtake_bad (w0 w : World) (g n : Nat) (zs : List Int) (bad : Bool) (h : Rq w0 w g (zs, bad)) (hn : n ≤ 300) (hb : bad = true ∨ ¬ n ≤ zs.length) :
    Calls Tryd.prog 49 #[.pointer (some ⟨g, 0, none⟩), .int .i64 (n : Int)] w (TkP w0 w g (List.replicate (min n 300) 0, (zs, true))) := by
  have hlt := h.lt
  obtain ⟨a, c, hk, hr⟩ := h.blk
  dsimp only at hk hr
  have c0 : w.cell? ⟨g, 0, none⟩ = some (.slice a zs.length c) := (Joins.cell_of_block hk 0).trans rfl
  have c1 : w.cell? ⟨g, 1, none⟩ = some (.bool bad) := (Joins.cell_of_block hk 1).trans rfl
  have u1 := Joins.unfrozen_of_block hk 1
  have hk2 : (w.setCell ⟨g, 1, none⟩ (.bool true)).heap[g]? = some (.cells #[.slice a zs.length c, .bool true] 93) := by rw [Joins.block_setCell hk]; simp
  have hmin : min n 300 = n := by omega
  rw [hmin]
  have hbe := h.bel.setCell (p := ⟨g, 1, none⟩) (show w0.heap.size ≤ g from h.ge) (.bool true)
  have R1 : Rq w0 (w.setCell ⟨g, 1, none⟩ (.bool true)) g (zs, true) := ⟨⟨a, c, hk2, hr⟩, hbe, h.ge⟩
  have hba := bel_alc (w.setCell ⟨g, 1, none⟩ (.bool true)) (.cells (madeCells #[.int .u8 0] n) 5)
  have HRQ := hid (R1.later hba)
  have HRI := hid (zer_ri (w.setCell ⟨g, 1, none⟩ (.bool true)) n (by omega))
  have HBU : Hid (But1 g w ((w.setCell ⟨g, 1, none⟩ (.bool true)).alloc (.cells (madeCells #[.int .u8 0] n) 5))) := ((But1.refl g w).set (i := 1) (.bool true)).trans (.of_below hba)
  have hmk := mk_zer n (by omega) (w.setCell ⟨g, 1, none⟩ (.bool true))
  have HPO : Hid (∀ e, e = .returned (.slice (some ⟨(w.setCell ⟨g, 1, none⟩ (.bool true)).heap.size, 0, none⟩) n n) → TkP w0 w g (List.replicate n 0, (zs, true)) e ((w.setCell ⟨g, 1, none⟩ (.bool true)).alloc (.cells (madeCells #[.int .u8 0] n) 5))) := fun e q => ⟨_, _, by rw [q, List.length_replicate], HRI.out, HRQ.out, HBU.out, fun _ => ⟨_, _, rfl, .inr (by simp)⟩⟩
  obtain ⟨PP, hPP⟩ : ∃ P : Ending → World → Prop, P = TkP w0 w g (List.replicate n 0, (zs, true)) := ⟨_, rfl⟩
  rw [← hPP] at HPO ⊢
  have hmost := hr.most
  have hroom := hr.room
  unfold maxLen at hmost
  have hm1 : min (n : Int) 300 = (n : Int) := by omega
  have hm2 : max (0 : Int) (n : Int) = (n : Int) := by omega
  have hm3 : ¬ ((300 : Int) < (n : Int)) := by omega
  have hm4 : ¬ ((n : Int) < 0) := by omega
  have hni : (n : Int) ≤ 300 := by omega
  clear h hk hk2 hr hbe R1 hba HRQ HRI HBU hPP hmin
  generalize zs.length = L at *
  rcases hb with rfl | hnl
  · go_enter Tryd.func49, Tryd.ntmps49
    go_wp2
    exact HPO.out _ (by simp)
  · have hn1 : ¬ ((n : Int) ≤ (L : Int)) := by omega
    have hn2 : (L : Int) < (n : Int) := by omega
    have hn3 : L < n := by omega
    have hn4 : decide ((L : Int) < (n : Int)) = true := decide_eq_true hn2
    have hn5 : decide (L < n) = true := decide_eq_true hn3
    clear hnl
    cases bad with
    | true =>
      go_enter Tryd.func49, Tryd.ntmps49
      go_wp2
      exact HPO.out _ (by simp)
    | false =>
      go_enter Tryd.func49, Tryd.ntmps49
      go_wp2
      exact HPO.out _ (by simp)
set_option maxHeartbeats 3200000 in
set_option maxRecDepth 100000 in
theorem dtake_ok (w0 w : World) (g n : Nat) (zs : List Int) (h : Rq w0 w g (zs, false)) (hn : n ≤ zs.length) :
    Calls Tryd.prog 49 #[.pointer (some ⟨g, 0, none⟩), .int .i64 (n : Int)] w (TkP w0 w g (zs.take n, (zs.drop n, false))) := by
  obtain ⟨a, c, hk, hr⟩ := h.blk
  dsimp only at hk hr
  have c0 : w.cell? ⟨g, 0, none⟩ = some (.slice a zs.length c) := (Joins.cell_of_block hk 0).trans rfl
  have c1 : w.cell? ⟨g, 1, none⟩ = some (.bool false) := (Joins.cell_of_block hk 1).trans rfl
  have u0 := Joins.unfrozen_of_block hk 0
  obtain ⟨a1, k1, hr1, hi1⟩ := head_lo hr n hn
  obtain ⟨a2, hr2, hi2⟩ := tail_ex hr n hn
  have hk2 : (w.setCell ⟨g, 0, none⟩ (.slice a2 (zs.drop n).length (c - n))).heap[g]? = some (.cells #[.slice a2 (zs.drop n).length (c - n), .bool false] 93) := by rw [Joins.block_setCell hk]; simp
  have hbe := h.bel.setCell (p := ⟨g, 0, none⟩) (show w0.heap.size ≤ g from h.ge) (.slice a2 (zs.drop n).length (c - n))
  have R1 : Rq w0 (w.setCell ⟨g, 0, none⟩ (.slice a2 (zs.drop n).length (c - n))) g (zs.drop n, false) := ⟨⟨a2, c - n, hk2, hi2⟩, hbe, h.ge⟩
  have HBU : Hid (But1 g w (w.setCell ⟨g, 0, none⟩ (.slice a2 (zs.drop n).length (c - n)))) := (But1.refl g w).set (i := 0) _
  have HPO : Hid (TkP w0 w g (zs.take n, (zs.drop n, false)) (.returned (.slice a1 (zs.take n).length k1)) (w.setCell ⟨g, 0, none⟩ (.slice a2 (zs.drop n).length (c - n)))) := ⟨_, _, rfl, hi1.later hbe, R1, HBU.out, fun q => by obtain ⟨b, off, q1, q2, _⟩ := hi1.cells q; exact ⟨b, off, q1, .inl q2⟩⟩
  obtain ⟨PP, hPP⟩ : ∃ P : Ending → World → Prop, P = TkP w0 w g (zs.take n, (zs.drop n, false)) := ⟨_, rfl⟩
  rw [← hPP] at HPO ⊢
  have hmost := hr.most
  have hroom := hr.room
  unfold maxLen at hmost
  have hn2 : ¬ (zs.length : Int) < (n : Int) := by omega
  have hn4 : decide ((zs.length : Int) < (n : Int)) = false := decide_eq_false hn2
  have hn5 : decide (zs.length < n) = false := decide_eq_false (by omega)
  have hm4 : ¬ ((n : Int) < 0) := by omega
  clear h hk hk2 hr hbe R1 HBU hPP hi1 hi2
  generalize zs.length = L at *
  generalize (zs.take n).length = L1 at *
  generalize (zs.drop n).length = L2 at *
  go_enter Tryd.func49, Tryd.ntmps49
  go_wp2
  exact HPO.out
theorem dtake_word (w0 w : World) (g n : Nat) (s : St) (h : Rq w0 w g s) (hn : n ≤ 300) : Calls Tryd.prog 49 #[.pointer (some ⟨g, 0, none⟩), .int .i64 (n : Int)] w (TkP w0 w g (takeQ n s)) := by
  obtain ⟨zs, bad⟩ := s
  cases bad with
  | true => rw [takeQ_bad]; exact dtake_bad w0 w g n zs true h hn (.inl rfl)
  | false =>
    by_cases hl : n ≤ zs.length
    · rw [takeQ_ok hl]; exact dtake_ok w0 w g n zs h hl
    · rw [takeQ_no hl]; exact dtake_bad w0 w g n zs false h hn (.inr hl)
theorem takeQ_len (n : Nat) (s : St) (hn : n ≤ 300) : (takeQ n s).1.length = n := by
  unfold takeQ
  split
  · simp; omega
  · split
    · simp; omega
    · simp; omega
set_option maxHeartbeats 3200000 in
set_option maxRecDepth 100000 in
theorem dbyte_word (w0 w : World) (g : Nat) (s : St) (h : Rq w0 w g s) :
    Calls Tryd.prog 46 #[.pointer (some ⟨g, 0, none⟩)] w fun e w' => e = .returned (.int .i64 (byteQ s).1) ∧ Rq w0 w' g (byteQ s).2 ∧ But1 g w w' ∧ 0 ≤ (byteQ s).1 ∧ (byteQ s).1 ≤ 255 := by
  have HT := hid (dtake_word w0 w g 1 s h (by omega))
  have HL := hid (takeQ_len 1 s (by omega))
  unfold byteQ
  generalize takeQ 1 s = t at *
  obtain ⟨l, s'⟩ := t
  dsimp only at *
  match l, HL with
  | [x], _ =>
    go_enter Tryd.func46, Tryd.ntmps46
    go_wp2_with fail
    refine HT.out.mono ?_
    rintro _ w1 ⟨a, c, rfl, hi, hq, hb, _⟩
    obtain ⟨b, off, rfl, hlt, hc⟩ := hi.cells (by simp)
    have cx := hc 0 (by simp)
    simp only [Nat.add_zero, List.getD_cons_zero] at cx
    have hx := all_u8 hi.fits x (by simp)
    have hx0 := hx.1
    have hx1 := hx.2
    have HQ := hid hq
    have HB := hid hb
    clear hi hq hb hc hlt h HT hx
    go_wp2
    go_ret
    exact ⟨rfl, HQ.out, HB.out, hx0, hx1⟩
theorem numQ_bad (zs : List Int) : numQ (zs, true) = (0, (zs, true)) := by unfold numQ; simp
theorem numQ_no {zs : List Int} (h : numO 1073741824 zs = none) : numQ (zs, false) = (0, (zs, true)) := by unfold numQ; simp [h]
theorem numQ_ok {zs rs : List Int} {x : Nat} (h : numO 1073741824 zs = some (x, rs)) : numQ (zs, false) = ((x : Int), (rs, false)) := by unfold numQ; simp [h]
set_option maxHeartbeats 3200000 in
set_option maxRecDepth 100000 in
theorem dnum_word (w0 w : World) (g : Nat) (s : St) (h : Rq w0 w g s) :
    Calls Tryd.prog 47 #[.pointer (some ⟨g, 0, none⟩)] w fun e w' => e = .returned (.int .i64 (numQ s).1) ∧ Rq w0 w' g (numQ s).2 ∧ But1 g w w' := by
  obtain ⟨zs, bad⟩ := s
  obtain ⟨a, c, hk, hr⟩ := h.blk
  dsimp only at hk hr
  have c0 : w.cell? ⟨g, 0, none⟩ = some (.slice a zs.length c) := (Joins.cell_of_block hk 0).trans rfl
  have c1 : w.cell? ⟨g, 1, none⟩ = some (.bool bad) := (Joins.cell_of_block hk 1).trans rfl
  have u0 := Joins.unfrozen_of_block hk 0
  have u1 := Joins.unfrozen_of_block hk 1
  have HRD := hid (rread_ref a c zs w (hr.later h.bel))
  have hrng := readL_rng zs 0 0 (by omega) (by simp) (by omega)
  have hk2 : (w.setCell ⟨g, 1, none⟩ (.bool true)).heap[g]? = some (.cells #[.slice a zs.length c, .bool true] 93) := by rw [Joins.block_setCell hk]; simp
  have R1 : Rq w0 (w.setCell ⟨g, 1, none⟩ (.bool true)) g (zs, true) := ⟨⟨a, c, hk2, hr⟩, h.bel.setCell (p := ⟨g, 1, none⟩) (show w0.heap.size ≤ g from h.ge) (.bool true), h.ge⟩
  have HBA : Hid (Rq w0 (w.setCell ⟨g, 1, none⟩ (.bool true)) g (zs, true) ∧ But1 g w (w.setCell ⟨g, 1, none⟩ (.bool true))) := ⟨R1, (But1.refl g w).set (i := 1) _⟩
  have HH := hid h
  have HK := hid hk
  have HR := hid hr
  have hmost := hr.most
  have hroom := hr.room
  unfold maxLen at hmost
  have HGE := hid h.ge
  have HBE := hid h.bel
  clear h hk hr hk2 R1
  cases bad with
  | true =>
    rw [numQ_bad]
    clear hrng
    generalize readL 0 0 zs = r at *
    obtain ⟨x, n, e⟩ := r
    dsimp only at *
    generalize zs.length = L at *
    go_enter Tryd.func47, Tryd.ntmps47
    go_wp2_with fail
    refine HRD.out.mono ?_
    rintro _ w1 ⟨rfl, hw⟩
    obtain rfl := hw.symm
    clear hw
    go_wp2
    first | exact ⟨rfl, HBA.out.1, HBA.out.2⟩ | (go_ret; exact ⟨rfl, HBA.out.1, HBA.out.2⟩) | exact ⟨HBA.out.1, HBA.out.2⟩
  | false =>
    cases hn : numO 1073741824 zs with
    | none =>
      rw [numQ_no hn]
      unfold numO at hn
      generalize readL 0 0 zs = r at *
      obtain ⟨x, n, e⟩ := r
      dsimp only at *
      have hx0 := hrng.1
      have hx1 := hrng.2.1
      have hcond : ¬ (e = 0 ∧ x ≤ ((1073741824 : Nat) : Int)) := fun hc => by rw [if_pos hc] at hn; cases hn
      clear hrng hn
      generalize zs.length = L at *
      by_cases he : e = 0
      · subst he
        have hxm : (1073741824 : Int) < x := by
          have : ¬ x ≤ ((1073741824 : Nat) : Int) := fun q => hcond ⟨rfl, q⟩
          omega
        have hxd : decide ((1073741824 : Int) < x) = true := decide_eq_true hxm
        clear hcond
        go_enter Tryd.func47, Tryd.ntmps47
        go_wp2_with fail
        refine HRD.out.mono ?_
        rintro _ w1 ⟨rfl, hw⟩
        obtain rfl := hw.symm
        clear hw
        go_wp2
        first | exact ⟨rfl, HBA.out.1, HBA.out.2⟩ | (go_ret; exact ⟨rfl, HBA.out.1, HBA.out.2⟩) | exact ⟨HBA.out.1, HBA.out.2⟩
      · have heb : (e == 0) = false := by rw [beq_eq_false_iff_ne]; exact he
        have heb2 : (e != 0) = true := by simp [bne, heb]
        clear hcond
        go_enter Tryd.func47, Tryd.ntmps47
        go_wp2_with fail
        refine HRD.out.mono ?_
        rintro _ w1 ⟨rfl, hw⟩
        obtain rfl := hw.symm
        clear hw
        go_wp2
        first | exact ⟨rfl, HBA.out.1, HBA.out.2⟩ | (go_ret; exact ⟨rfl, HBA.out.1, HBA.out.2⟩) | exact ⟨HBA.out.1, HBA.out.2⟩
    | some q =>
      obtain ⟨x, rs⟩ := q
      rw [numQ_ok hn]
      obtain ⟨hxm, k, hrs, hkl, hk2, hx, he⟩ := numO_len hn
      obtain ⟨a2, hr2, hi2⟩ := tail_ex HR.out k hkl
      rw [← hrs] at hr2 hi2
      rw [hx, he, ← hk2] at HRD
      have hkb : (w.setCell ⟨g, 0, none⟩ (.slice a2 rs.length (c - k))).heap[g]? = some (.cells #[.slice a2 rs.length (c - k), .bool false] 93) := by rw [Joins.block_setCell HK.out]; simp
      have HFI : Hid (Rq w0 (w.setCell ⟨g, 0, none⟩ (.slice a2 rs.length (c - k))) g (rs, false) ∧ But1 g w (w.setCell ⟨g, 0, none⟩ (.slice a2 rs.length (c - k)))) := ⟨⟨⟨a2, c - k, hkb, hi2⟩, HBE.out.setCell (p := ⟨g, 0, none⟩) (show w0.heap.size ≤ g from HGE.out) _, HGE.out⟩, (But1.refl g w).set (i := 0) _⟩
      have hxi : (x : Int) ≤ 1073741824 := by omega
      have hxd : decide ((1073741824 : Int) < (x : Int)) = false := decide_eq_false (by omega)
      have hxn : decide (1073741824 < x) = false := decide_eq_false (by omega)
      clear hrng hn hrs hkl hk2 hx he hi2 hkb hxm
      generalize zs.length = L at *
      generalize rs.length = L2 at *
      go_enter Tryd.func47, Tryd.ntmps47
      go_wp2_with fail
      refine HRD.out.mono ?_
      rintro _ w1 ⟨rfl, hw⟩
      obtain rfl := hw.symm
      clear hw
      go_wp2
      go_ret
      exact ⟨rfl, HFI.out.1, HFI.out.2⟩
end Go.Proofs.YtpbaacplgohniaaDoor
namespace Go.Proofs.YtpbaacplgohniaaDoor
open Go.ChangeShapes Go.WideShapes Go.ChangeAt Go.RowKit Go.Deep

theorem But1.setr {g : Nat} {w w' : World} (h : But1 g w w') (cs : Array Value) : But1 g w (w'.setRow g cs) := ⟨below_setRow h.bel (Nat.zero_le _) _, fun i hi hn => (other_setRow _ _ _ _ hn).trans (h.same i hi hn)⟩
def mixD (D : List Int) (i : Nat) : List Int := D.take i ++ z32.drop i
theorem mix_len {D : List Int} (h : D.length = 32) (i : Nat) (hi : i ≤ 32) : (mixD D i).length = 32 := by
  unfold mixD
  have : z32.length = 32 := rfl
  simp
  omega
theorem mix_set {D : List Int} (h : D.length = 32) (i : Nat) (hi : i < 32) : (u8A (mixD D i)).setIfInBounds i (.int .u8 (D.getD i 0)) = u8A (mixD D (i + 1)) := by
  unfold u8A
  rw [List.setIfInBounds_toArray, ← List.map_set]
  congr 2
  unfold mixD
  have hz : z32.length = 32 := rfl
  rw [List.set_append_right _ _ (by simp; omega), show i - (D.take i).length = 0 from by simp; omega]
  rw [List.take_add_one, show D[i]? = some (D.getD i 0) from by simp [List.getD, List.getElem?_eq_getElem (show i < D.length by omega)]]
  rw [List.drop_eq_getElem_cons (show i < z32.length by omega), List.set_cons_zero]
  simp
set_option maxHeartbeats 6400000 in
set_option maxRecDepth 100000 in
theorem ddig_word (w0 w : World) (g : Nat) (s : St) (h : Rq w0 w g s) :
    Calls Tryd.prog 48 #[.pointer (some ⟨g, 0, none⟩)] w fun e w' => e = .returned (.agg (u8A (takeQ 32 s).1)) ∧ Rq w0 w' g (takeQ 32 s).2 ∧ But1 g w w' ∧ (takeQ 32 s).1.length = 32 ∧ By (takeQ 32 s).1 := by
  have hL := takeQ_len 32 s (by omega)
  have s1 : (w.alloc (.cells (u8A z32) 23)).heap.size = w.heap.size + 1 := by simp
  have x0 := heap_old (w.alloc (.cells (u8A z32) 23)) (.cells (u8A z32) 23) (heap_alc w (.cells (u8A z32) 23))
  have x1 := heap_alc (w.alloc (.cells (u8A z32) 23)) (.cells (u8A z32) 23)
  rw [s1] at x1
  have bb := Bn (bel_alc w (.cells (u8A z32) 23)) (bel_alc (w.alloc (.cells (u8A z32) 23)) (.cells (u8A z32) 23))
  obtain ⟨W0, hW0⟩ : ∃ W0, W0 = (w.alloc (.cells (u8A z32) 23)).alloc (.cells (u8A z32) 23) := ⟨_, rfl⟩
  rw [← hW0] at x0 x1 bb
  have HW0 := hid hW0
  have HS1 : Hid (w.heap.size + 1 = (w.alloc (.cells (u8A z32) 23)).heap.size) := s1.symm
  have HX0 := hid x0
  have HX1 := hid x1
  have HBB := hid bb
  have HT := hid (dtake_word w0 W0 g 32 s (h.later bb) (by omega))
  have HGL := hid h.lt
  have HGE := hid h.ge
  have HWL := hid h.bel.size
  have H32 := hid hL
  clear s1 x0 x1 bb hW0 h hL
  generalize takeQ 32 s = t at *
  obtain ⟨D, s'⟩ := t
  dsimp only at *
  go_enter Tryd.func48, Tryd.ntmps48
  go_wp2_with (first | refine wpList_alloc_at rfl 23 rfl (some 2) rfl _ zero23B w.heap.size rfl ?_ | refine wpList_alloc_to rfl 23 rfl (some 3) rfl _ zero23B (w.heap.size + 1) HS1.out W0 HW0.out ?_ | fail)
  refine HT.out.mono ?_
  rintro _ W1 ⟨a1, c1, rfl, hi, hq, hb, hloc⟩
  obtain ⟨b, off, ha, hor⟩ := hloc (by rw [H32.out]; decide)
  subst ha
  obtain ⟨b', off', he, hlt, hc⟩ := hi.cells (by rw [H32.out]; decide)
  injection he with he
  injection he with he1 he2
  subst he1 he2
  have hne1 : b ≠ w.heap.size + 1 := by
    have := (Array.getElem?_eq_some_iff.1 HX1.out).1
    have := HWL.out
    omega
  have HBY : Hid (By D) := all_u8 hi.fits
  have HY1 : Hid (W1.heap[w.heap.size + 1]? = some (.cells (u8A z32) 23)) := (hb.same _ (Array.getElem?_eq_some_iff.1 HX1.out).1 (by have := HGL.out; omega)).trans HX1.out
  have HY0 : Hid (W1.heap[w.heap.size]? = some (.cells (u8A z32) 23)) := (hb.same _ (Array.getElem?_eq_some_iff.1 HX0.out).1 (by have := HGL.out; omega)).trans HX0.out
  have HQ := hid hq
  have HB := hid ((But1.of_below HBB.out).trans hb)
  have HCL : Hid (∀ j, j < 32 → W1.cell? ⟨b, off + j, none⟩ = some (.int .u8 (D.getD j 0))) := fun j hj => hc j (by rw [H32.out]; exact hj)
  have HNE := hid hne1
  have HD8 := hid hi.fits
  have hroom := hi.room
  have hmost := hi.most
  rw [H32.out] at hroom ⊢
  unfold maxLen at hmost
  clear hi hq hb hc hlt hor hne1 HT HX0 HX1 HBB HW0 HS1
  go_wp2
  go_loopw [5] (fun x5 wr => ∃ i : Nat, i ≤ 32 ∧ x5 = .int .i64 (i : Int) ∧ Hid (wr = W1.setRow (w.heap.size + 1) (u8A (mixD D i)))) (fun x5 _ => 32 - (intOf x5).toNat)
  case atStart => exact ⟨0, by omega, rfl, by
    show _ = _
    have : mixD D 0 = z32 := by unfold mixD; simp
    rw [this]
    exact (setRow_self _ _ _ _ _ HY1.out).symm⟩
  case round =>
    obtain ⟨i, hi32, rfl, HWR⟩ := hrel
    have hEB : wr.heap[w.heap.size + 1]? = some (.cells (u8A (mixD D i)) 23) := by rw [HWR.out]; exact setRow_heap _ _ _ _ _ _ HY1.out
    by_cases hlt : i < 32
    · have hz : (i : Int) < 32 := by omega
      have ci : wr.cell? ⟨b, off + i, none⟩ = some (.int .u8 (D.getD i 0)) := by
        rw [HWR.out]
        exact (World.cell?_of_block (a := ⟨b, off + i, none⟩) (other_setRow _ _ _ _ HNE.out)).trans (HCL.out i hlt)
      have hml := mix_len H32.out i hi32
      have cd : wr.cell? ⟨w.heap.size + 1, i, none⟩ = some (.int .u8 ((mixD D i).getD i 0)) := (Joins.cell_of_block hEB i).trans (by
        unfold u8A
        rw [List.getElem?_toArray, List.getElem?_map]
        simp [List.getD, List.getElem?_eq_getElem (show i < (mixD D i).length by omega)])
      have ud := Joins.unfrozen_of_block hEB i
      have HST : Hid (wr.setCell ⟨w.heap.size + 1, i, none⟩ (.int .u8 (D.getD i 0)) = W1.setRow (w.heap.size + 1) (u8A (mixD D (i + 1)))) := by
        show _ = _
        rw [setCell_eq_setRow wr (w.heap.size + 1) i _ 23 (0, 0) _ hEB, mix_set H32.out i hlt, HWR.out]
        exact setRow_setRow _ _ _ _
      clear hEB hml
      go_wp2
      go_round
      case rel => exact ⟨i + 1, by omega, by go_num, HST.out⟩
      case measure => simp [intOf]; omega
    · have hie : i = 32 := by omega
      have hz : ¬ (i : Int) < 32 := by omega
      have HMD : Hid (mixD D i = D) := by
        show _ = _
        unfold mixD
        rw [hie, List.take_of_length_le (by rw [H32.out]; exact Nat.le_refl _)]
        simp [z32]
      rw [HMD.out] at hEB
      have HEB := hid hEB
      have HE0 : Hid (wr.heap[w.heap.size]? = some (.cells (u8A z32) 23)) := by show _ = _; rw [HWR.out]; exact (other_setRow _ _ _ _ (by omega)).trans HY0.out
      have HLD : Hid (wr.rangeAt (w.heap.size + 1) 0 (D.map (Value.int .u8))) := fun j v hv => by
        rw [Nat.zero_add, Joins.cell_of_block HEB.out j]
        unfold u8A
        rw [List.getElem?_toArray]
        exact hv
      have HZS : Hid ((u8A z32).size = (u8A D).size) := by show _ = _; rw [u8A_size, u8A_size, H32.out]; rfl
      have HBW : Hid (But1 g w wr) := by rw [HWR.out]; exact HB.out.row (by omega) _
      have HQW : Hid (Rq w0 wr g s') := by rw [HWR.out]; exact HQ.out.but ((But1.refl (w.heap.size + 1) W1).setr _) (by have := HGL.out; omega) (by have := HWL.out; omega)
      clear hEB hie
      go_wp2_with (first | refine wpList_load_g rfl 23 _ rfl (w.heap.size + 1) 0 rfl (D.map (Value.int .u8)) _ HLD.out Tryd.underlying23 rfl (by rw [List.length_map, H32.out]; exact Tryd.size23) ?_ | refine wpList_store_rowTo rfl 23 _ _ rfl rfl w.heap.size (u8A D) rfl rfl 23 _ HE0.out (size_digB H32.out) HZS.out (u8A_one _) ?_ | fail)
      refine bodyPost_ret (results_cell_row (ty := 23) rfl _ _ _ _ _ _ _ rfl (setRow_heap _ _ _ _ _ _ HE0.out) Tryd.underlying23 rfl (size_digB H32.out)) rfl ?_
      exact ⟨rfl, HQW.out.but ((But1.refl w.heap.size wr).setr _) (by have := HGL.out; omega) HWL.out, HBW.out.row (Nat.le_refl _) _, H32.out, HBY.out⟩
end Go.Proofs.YtpbaacplgohniaaDoor
namespace Go.Proofs.YtpbaacplgohniaaDoor
open Go.ChangeShapes Go.WideShapes Go.ChangeAt Go.RowKit Go.Deep

/-- So many pieces at most, as the document reads them. -/
def lpQ : Nat → St → List Pc × St
  | 0, s => ([], s)
  | m + 1, s => if s.2 = true then ([], s) else (((takeQ 32 (numQ s).2).1, (numQ s).1) :: (lpQ m (takeQ 32 (numQ s).2).2).1, (lpQ m (takeQ 32 (numQ s).2).2).2)
/-- The record that the document reads, and where it stands then. -/
def docH (zs : List Int) : Int × Int × Int × List Int × St :=
  ((byteQ (byteQ (zs, false)).2).1, (numQ (byteQ (byteQ (zs, false)).2).2).1, (numQ (numQ (byteQ (byteQ (zs, false)).2).2).2).1, (takeQ 32 (numQ (numQ (byteQ (byteQ (zs, false)).2).2).2).2).1, (takeQ 32 (numQ (numQ (byteQ (byteQ (zs, false)).2).2).2).2).2)
def pthQ (s : St) : List Int × St := takeQ (byteQ s).1.toNat (byteQ s).2
def docT (k s e : Int) (d : List Int) (t : St) : Rec × St :=
  if k = 1 then (⟨s, e, d, k, (byteQ t).1, ByteArray.empty, none, 0, []⟩, (byteQ t).2)
  else if k = 2 then (⟨s, e, d, k, 0, strOfNums (pthQ t).1, none, 0, (lpQ (min (numQ (pthQ t).2).1.toNat 4097) (numQ (pthQ t).2).2).1⟩, (lpQ (min (numQ (pthQ t).2).1.toNat 4097) (numQ (pthQ t).2).2).2)
  else (⟨s, e, d, k, 0, strOfNums (pthQ t).1, none, 0, []⟩, (pthQ t).2)
def docX (zs : List Int) : Rec × St := docT (docH zs).1 (docH zs).2.1 (docH zs).2.2.1 (docH zs).2.2.2.1 (docH zs).2.2.2.2
def docO (zs : List Int) : Option Rec := if (docX zs).2.2 = false ∧ mayB (docX zs).1 = true ∧ wrB (docX zs).1 = zs then some (docX zs).1 else none
theorem byteQ_ok (z : Int) (zs : List Int) : byteQ (z :: zs, false) = (z, (zs, false)) := by unfold byteQ; rw [takeQ_ok (by simp)]; rfl
theorem numO_wide {z rs : List Int} {x : Nat} (h : numO 4096 z = some (x, rs)) : numO 1073741824 z = some (x, rs) := by
  unfold numO at h ⊢
  by_cases hc : (readL 0 0 z).2.2 = 0 ∧ (readL 0 0 z).1 ≤ ((4096 : Nat) : Int)
  · rw [if_pos hc] at h
    rw [if_pos ⟨hc.1, by have := hc.2; omega⟩]
    exact h
  · rw [if_neg hc] at h; cases h
theorem lp_ok : ∀ {k : Nat} {z rs : List Int} {l : List Pc}, pcsG k z = some (l, rs) → lpQ k (z, false) = (l, (rs, false))
  | 0, z, rs, l, h => by
    rw [pcsG] at h
    injection h with h
    injection h with h1 h2
    subst h1 h2
    rfl
  | k + 1, z, rs, l, h => by
    rw [pcsG] at h
    cases hn : numO 4096 z with
    | none => rw [hn] at h; cases h
    | some q =>
      obtain ⟨n, z1⟩ := q
      rw [hn] at h
      dsimp only at h
      by_cases h32 : 32 ≤ z1.length
      · rw [if_pos h32] at h
        cases hg : pcsG k (z1.drop 32) with
        | none => rw [hg] at h; cases h
        | some q =>
          obtain ⟨m, ts⟩ := q
          rw [hg] at h
          dsimp only at h
          injection h with h
          injection h with h1 h2
          subst h1 h2
          rw [lpQ, if_neg (by simp), numQ_ok (numO_wide hn)]
          dsimp only
          rw [takeQ_ok h32]
          dsimp only
          rw [lp_ok hg]
      · rw [if_neg h32] at h; cases h
theorem pthQ_ok {z p rs : List Int} (h : pthO z = some (p, rs)) : pthQ (z, false) = (p, (rs, false)) := by
  cases z with
  | nil => cases h
  | cons n z =>
    rw [pthO] at h
    by_cases hl : n.toNat ≤ z.length
    · rw [if_pos hl] at h
      injection h with h
      unfold pthQ
      rw [byteQ_ok]
      dsimp only
      injection h with h1 h2
      rw [takeQ_ok hl, h1, h2]
    · rw [if_neg hl] at h; cases h
theorem doc_red {zs rs : List Int} {r : Rec} (h : redR zs = some (r, rs)) (hk : kindB r = true) : docX zs = (r, (rs, false)) := by
  cases zs with
  | nil => cases h
  | cons m z =>
    rw [redR] at h
    by_cases hm : m = 82
    · subst hm
      rw [if_pos rfl] at h
      cases z with
      | nil => cases h
      | cons k z =>
        rw [red1, red2] at h
        cases hn : numO 1073741824 z with
        | none => rw [hn] at h; cases h
        | some q =>
          obtain ⟨sn, z1⟩ := q
          rw [hn] at h
          dsimp only at h
          rw [red3] at h
          cases hn2 : numO 1073741824 z1 with
          | none => rw [hn2] at h; cases h
          | some q =>
            obtain ⟨en, z2⟩ := q
            rw [hn2] at h
            dsimp only at h
            rw [red4] at h
            by_cases h32 : 32 ≤ z2.length
            · rw [if_pos h32] at h
              have hd : docH (82 :: k :: z) = (k, (sn : Int), (en : Int), z2.take 32, (z2.drop 32, false)) := by
                unfold docH
                rw [byteQ_ok]
                dsimp only
                rw [byteQ_ok]
                dsimp only
                rw [numQ_ok hn]
                dsimp only
                rw [numQ_ok hn2]
                dsimp only
                rw [takeQ_ok h32]
              unfold docX
              rw [hd]
              dsimp only
              generalize z2.take 32 = D at *
              generalize z2.drop 32 = z3 at *
              clear hd
              unfold docT
              rw [red5] at h
              by_cases h1 : k = 1
              · subst h1
                rw [if_pos rfl] at h
                cases z3 with
                | nil => cases h
                | cons x z4 =>
                  rw [redL] at h
                  injection h with h
                  rw [if_pos rfl, byteQ_ok]
                  injection h with e1 e2
                  subst e1 e2
                  rfl
              · rw [if_neg h1] at h ⊢
                by_cases h2 : k = 2
                · subst h2
                  rw [if_pos rfl] at h ⊢
                  unfold redP at h
                  cases hp : pthO z3 with
                  | none => rw [hp] at h; cases h
                  | some q =>
                    obtain ⟨p, z4⟩ := q
                    rw [hp] at h
                    dsimp only at h
                    unfold pcsR at h
                    cases hc : numO 4096 z4 with
                    | none => rw [hc] at h; cases h
                    | some q =>
                      obtain ⟨K, z5⟩ := q
                      rw [hc] at h
                      dsimp only at h
                      have hK := (numO_len hc).1
                      cases hg : pcsG K z5 with
                      | none => rw [hg] at h; cases h
                      | some q =>
                        obtain ⟨l, z6⟩ := q
                        rw [hg] at h
                        dsimp only at h
                        injection h with h
                        rw [pthQ_ok hp]
                        dsimp only
                        rw [numQ_ok (numO_wide hc)]
                        dsimp only
                        rw [Int.toNat_natCast, show min K 4097 = K from by omega, lp_ok hg]
                        injection h with e1 e2
                        subst e1 e2
                        rfl
                · rw [if_neg h2] at h ⊢
                  by_cases h3 : k = 3
                  · subst h3
                    rw [if_pos rfl] at h
                    unfold redX at h
                    cases hp : pthO z3 with
                    | none => rw [hp] at h; cases h
                    | some q =>
                      obtain ⟨p, z4⟩ := q
                      rw [hp] at h
                      dsimp only at h
                      injection h with h
                      rw [pthQ_ok hp]
                      injection h with e1 e2
                      subst e1 e2
                      rfl
                  · rw [if_neg h3] at h
                    injection h with h
                    injection h with e1 e2
                    subst e1 e2
                    rcases kinds_of hk with q | q | q
                    · exact absurd q h1
                    · exact absurd q h2
                    · exact absurd q h3
            · rw [if_neg h32] at h; cases h
    · rw [if_neg hm] at h; cases h
theorem lp_fit : ∀ (m : Nat) (s : St), ∀ x ∈ (lpQ m s).1, x.1.length = 32
  | 0, s, x, hx => by cases hx
  | m + 1, s, x, hx => by
    rw [lpQ] at hx
    split at hx
    · cases hx
    · rcases List.mem_cons.1 hx with rfl | hx
      · exact takeQ_len 32 _ (by omega)
      · exact lp_fit m _ x hx
theorem doc_fit (zs : List Int) : (docX zs).1.prev.length = 32 ∧ (∀ x ∈ (docX zs).1.ps, x.1.length = 32) ∧ (docX zs).1.a = none ∧ (docX zs).1.cap = 0 := by
  have hd : (docH zs).2.2.2.1.length = 32 := takeQ_len 32 _ (by omega)
  unfold docX docT
  split
  · exact ⟨hd, (fun x hx => by cases hx), rfl, rfl⟩
  · split
    · exact ⟨hd, lp_fit _ _, rfl, rfl⟩
    · exact ⟨hd, (fun x hx => by cases hx), rfl, rfl⟩
/-- Both Parses answer alike. -/
theorem doc_par (zs : List Int) (hb : By zs) : docO zs = parO zs := by
  cases hp : parO zs with
  | some r =>
    obtain ⟨h1, h2⟩ := par_red hp
    obtain ⟨_, h3, h4⟩ := par_one hp hb
    have hd := doc_red h1 (may_parts h2).2.2
    unfold docO
    rw [hd, if_pos ⟨rfl, h3, h4⟩]
  | none =>
    unfold docO
    split
    · rename_i hc
      obtain ⟨_, h2, h3⟩ := hc
      obtain ⟨f1, f2, f3, f4⟩ := doc_fit zs
      have := par_back2 f1 f2 h2
      rw [h3, hp] at this
      cases this
    · rfl
end Go.Proofs.YtpbaacplgohniaaDoor
namespace Go.Proofs.YtpbaacplgohniaaDoor
open Go.ChangeShapes Go.WideShapes Go.ChangeAt Go.RowKit Go.Deep

theorem wpList_store_asD {P : Program} {ops : Array Oper} {rest : List Oper} {o : Oper} {a : Act} {w : World} {Q : Exit → Act → World → Prop} (hgd : o.guard = none) (ty : TypeId) (x y : Operand) (ho : o.op = .store ty x y) (hd : o.dst = none)
    (W : World) (old cells : Array Value) (hw : w = W.alloc (.cells old ty)) (hx : a.eval x = .pointer (some ⟨W.heap.size, 0, none⟩)) (hy : a.eval y = .agg cells) (hi : (P.info? ty).map (·.size) = some cells.size)
    (hold : old.size = cells.size) (h1 : cells.all (·.oneCell') = true) (V : World) (hV : V = W.alloc (.cells cells ty)) (h : wpList P ops Q rest a V) : wpList P ops Q (o :: rest) a w := by
  subst hV
  exact wpList_store_new hgd ty x y ho hd W old cells hw hx hy hi hold h1 h
theorem wp_buildOne {P : Program} {o : Oper} {a : Act} {w : World} {K : Act → World → Prop} {Q : Exit → Act → World → Prop} (t e : TypeId) (x : Operand) (ho : o.op = .buildSlice t 1 #[(0, x)])
    (cells : Array Value) (ie : TypeInfo) (z : Value) (hu : P.underlying t = some (.slice e)) (hie : P.info? e = some ie) (hz : ie.zero = some z) (hs : ie.size = cells.size) (hp : 0 < cells.size) (hq : cells.size ≤ 1000) (hx : a.eval x = .agg cells)
    (h : K (a.put o.dst (.slice (some ⟨w.heap.size, 0, none⟩) 1 1)) (w.alloc (.cells cells e))) : o.wp P a w K Q := by
  refine wp_buildSlice t e 1 _ ho cells ie z hu hie hz (by rw [hs]; omega) (by rw [hs]; omega) ?_ h
  have := Great.fill_whole (s := cells.size) hp [.agg cells] ((Array.range (1 * cells.size)).map (z.cells[· % z.cells.size]!)) (fun v hv => by simp at hv; subst hv; rfl) (by simp)
  rw [hs]
  simpa [hx, Value.cells] using this
theorem built76D (n : Int) (d : List Int) (h : d.length = 32) : Tryd.prog.built 76 [(1, .int .i64 n), (0, .agg (u8A d))] = some (pcC (d, n)).toArray := by
  obtain ⟨a0, a1, a2, a3, a4, a5, a6, a7, a8, a9, a10, a11, a12, a13, a14, a15, a16, a17, a18, a19, a20, a21, a22, a23, a24, a25, a26, a27, a28, a29, a30, a31, rfl⟩ := list32 d h
  kernel_rfl
theorem built27K (k : Int) : Tryd.prog.built 27 [(3, .int .i64 k)] = some ({ recZ with kind := k } : Rec).cs.toArray := by kernel_rfl
theorem numQ_rng (s : St) : 0 ≤ (numQ s).1 ∧ (numQ s).1 ≤ 1073741824 := by
  unfold numQ
  split
  · exact ⟨by show (0 : Int) ≤ 0; omega, by show (0 : Int) ≤ _; omega⟩
  · split
    · exact ⟨by show (0 : Int) ≤ 0; omega, by show (0 : Int) ≤ _; omega⟩
    · rename_i h
      have := (numO_len h).1
      exact ⟨by dsimp only; omega, by dsimp only; omega⟩
/-- Where the document's Parse stands. -/
structure Dk (w X : World) (g hx : Nat) (r : Rec) (s : St) : Prop where
  out : X.heap[w.heap.size]? = some (.cells recZ.cs.toArray 27)
  box : Bx X hx r
  rq : Rq w X g s
  l1 : w.heap.size < g
  l2 : g < hx
theorem Dk.call {w X V : World} {g hx : Nat} {r : Rec} {s s' : St} (h : Dk w X g hx r s) (hb : But1 g X V) (hq : Rq w V g s') : Dk w V g hx r s' := by
  have h1 := h.l1
  have h2 := h.l2
  exact ⟨(hb.same _ (Array.getElem?_eq_some_iff.1 h.out).1 (by omega)).trans h.out, ⟨(hb.same _ h.box.lt (by omega)).trans h.box.blk, h.box.len⟩, hq, h1, h2⟩
theorem Dk.later {w X V : World} {g hx : Nat} {r : Rec} {s : St} (h : Dk w X g hx r s) (hb : Below X.heap.size X V) : Dk w V g hx r s := h.call (.of_below hb) (h.rq.later hb)
theorem Dk.set {w X : World} {g hx i : Nat} {v : Value} {r r' : Rec} {s : St} (h : Dk w X g hx r s) (hx' : Bx (X.setCell ⟨hx, i, none⟩ v) hx r') : Dk w (X.setCell ⟨hx, i, none⟩ v) g hx r' s := by
  have h1 := h.l1
  have h2 := h.l2
  exact ⟨(Deep.blk_setCell_other _ _ _ _ (by show w.heap.size ≠ hx; omega)).trans h.out, hx', h.rq.but ((But1.refl hx X).set (i := i) v) (by omega) (by omega), h1, h2⟩
theorem Dk.setPrev {w X : World} {g hx : Nat} {r : Rec} {s : St} (h : Dk w X g hx r s) (d : List Int) (hd : d.length = 32) : Dk w (X.setCells hx 2 (d.map (Value.int .u8))) g hx { r with prev := d } s := by
  have h1 := h.l1
  have h2 := h.l2
  exact ⟨(other_setCells _ _ (by omega) _ _ _).trans h.out, h.box.setPrev d hd, h.rq.but ⟨below_setCells (Nat.zero_le _) _ _ _ (Below.refl _ _), fun j hj hn => other_setCells _ _ hn _ _ _⟩ (by omega) (by omega), h1, h2⟩
theorem Dk.unf {w X : World} {g hx : Nat} {r : Rec} {s : St} (h : Dk w X g hx r s) (i : Nat) : X.frozen? ⟨hx, i, none⟩ = false := Joins.unfrozen_of_block h.box.blk i
theorem Dk.byte {w X : World} {g hx : Nat} {r : Rec} {s : St} (h : Dk w X g hx r s) : Calls Tryd.prog 46 #[.pointer (some ⟨g, 0, none⟩)] X fun e V => e = .returned (.int .i64 (byteQ s).1) ∧ Dk w V g hx r (byteQ s).2 ∧ 0 ≤ (byteQ s).1 ∧ (byteQ s).1 ≤ 255 := by
  refine (dbyte_word w X g s h.rq).mono ?_
  rintro _ V ⟨rfl, hq, hb, h1⟩
  exact ⟨rfl, h.call hb hq, h1⟩
theorem Dk.num {w X : World} {g hx : Nat} {r : Rec} {s : St} (h : Dk w X g hx r s) : Calls Tryd.prog 47 #[.pointer (some ⟨g, 0, none⟩)] X fun e V => e = .returned (.int .i64 (numQ s).1) ∧ Dk w V g hx r (numQ s).2 ∧ But1 g X V := by
  refine (dnum_word w X g s h.rq).mono ?_
  rintro _ V ⟨rfl, hq, hb⟩
  exact ⟨rfl, h.call hb hq, hb⟩
theorem Dk.dig {w X : World} {g hx : Nat} {r : Rec} {s : St} (h : Dk w X g hx r s) : Calls Tryd.prog 48 #[.pointer (some ⟨g, 0, none⟩)] X fun e V => e = .returned (.agg (u8A (takeQ 32 s).1)) ∧ Dk w V g hx r (takeQ 32 s).2 ∧ (takeQ 32 s).1.length = 32 ∧ By (takeQ 32 s).1 ∧ But1 g X V := by
  refine (ddig_word w X g s h.rq).mono ?_
  rintro _ V ⟨rfl, hq, hb, h1, h2⟩
  exact ⟨rfl, h.call hb hq, h1, h2, hb⟩
theorem Dk.tk {w X : World} {g hx n : Nat} {r : Rec} {s : St} (h : Dk w X g hx r s) (hn : n ≤ 300) : Calls Tryd.prog 49 #[.pointer (some ⟨g, 0, none⟩), .int .i64 (n : Int)] X fun e V => ∃ a c, e = .returned (.slice a (takeQ n s).1.length c) ∧ Ri V .u8 a c (takeQ n s).1 ∧ Dk w V g hx r (takeQ n s).2 := by
  refine (dtake_word w X g n s h.rq hn).mono ?_
  rintro _ V ⟨a, c, rfl, hi, hq, hb, _⟩
  exact ⟨a, c, rfl, hi, h.call hb hq⟩
theorem Dk.grow {w X V : World} {g hx B : Nat} {r : Rec} {s : St} (h : Dk w X g hx r s) (hb : Below B X V) (hB : hx < B) : Dk w V g hx r s := by
  have h1 := h.l1
  have h2 := h.l2
  obtain ⟨a, c, hk, hr⟩ := h.rq.blk
  exact ⟨(hb.block _ (by omega)).trans h.out, ⟨(hb.block _ hB).trans h.box.blk, h.box.len⟩, ⟨⟨a, c, (hb.block _ (by omega)).trans hk, hr⟩, h.rq.bel.trans (hb.mono (by omega)), h.rq.ge⟩, h1, h2⟩
theorem lp_bad (m : Nat) (s : St) (h : s.2 = true) : lpQ m s = ([], s) := by
  cases m with
  | zero => rfl
  | succ m => rw [lpQ, if_pos h]
theorem lp_step (m : Nat) (s : St) (l : List Pc) (h : s.2 = false) : (l ++ (lpQ (m + 1) s).1, (lpQ (m + 1) s).2) = ((l ++ [((takeQ 32 (numQ s).2).1, (numQ s).1)]) ++ (lpQ m (takeQ 32 (numQ s).2).2).1, (lpQ m (takeQ 32 (numQ s).2).2).2) := by
  rw [lpQ, if_neg (by rw [h]; simp)]
  simp
/-- What the document's Parse answers. -/
def DocP (zs : List Int) (w' : World) (R : Rec) (e : Int) : Prop := (docO zs = none ∧ R = recZ ∧ e = 130) ∨ ∃ r a c, docO zs = some r ∧ R = { r with a := a, cap := c } ∧ e = 0 ∧ Rv w' R
def DocF (zs : List Int) (w : World) (e : Ending) (w' : World) : Prop := ∃ R e', e = .returned (.tuple #[.agg R.cs.toArray, .int .i64 e']) ∧ Below w.heap.size w w' ∧ DocP zs w' R e'
theorem docO_no {zs : List Int} {r : Rec} {s : St} (h : docX zs = (r, s)) (hn : ¬ (s.2 = false ∧ mayB r = true ∧ wrB r = zs)) : docO zs = none := by unfold docO; rw [h, if_neg hn]
theorem docO_yes {zs : List Int} {r : Rec} {s : St} (h : docX zs = (r, s)) (hn : s.2 = false ∧ mayB r = true ∧ wrB r = zs) : docO zs = some r := by unfold docO; rw [h, if_pos hn]
end Go.Proofs.YtpbaacplgohniaaDoor
namespace Go.Proofs.YtpbaacplgohniaaDoor
open Go.ChangeShapes Go.WideShapes Go.ChangeAt Go.RowKit Go.Deep

set_option maxHeartbeats 16000000 in
set_option maxRecDepth 100000 in
theorem dparse_lead (a : Option Addr) (cap : Nat) (zs : List Int) (w : World) (hr : Ri w .u8 a cap zs) (hl : zs.length ≤ 262144) (hkk : (byteQ (byteQ (zs, false)).2).1 = 1) :
    Calls Tryd.prog 24 #[.slice a zs.length cap] w (DocF zs w) := by
  have HZR := hid hr
  have HKK := hid hkk
  clear hkk
  have s1 : (w.alloc (.cells recZ.cs.toArray 27)).heap.size = w.heap.size + 1 := by simp
  have b1 := bel_alc w (.cells recZ.cs.toArray 27)
  have b2 := bel_alc (w.alloc (.cells recZ.cs.toArray 27)) (.cells #[.slice a zs.length cap, .bool false] 93)
  have e0 := heap_old _ (.cells #[.slice a zs.length cap, .bool false] 93) (heap_alc w (.cells recZ.cs.toArray 27))
  have e1 := heap_alc (w.alloc (.cells recZ.cs.toArray 27)) (.cells #[.slice a zs.length cap, .bool false] 93)
  rw [s1] at e1
  have bb := Bn b1 b2
  obtain ⟨W0, hW0⟩ : ∃ W, W = (w.alloc (.cells recZ.cs.toArray 27)).alloc (.cells #[.slice a zs.length cap, .bool false] 93) := ⟨_, rfl⟩
  rw [← hW0] at e0 e1 bb
  have HE0 := hid e0
  have HQ0 : Hid (Rq w W0 (w.heap.size + 1) (zs, false)) := ⟨⟨a, cap, e1, hr⟩, bb, by omega⟩
  have HW0 := hid hW0
  have HS1 := hid s1.symm
  obtain ⟨PP, hPP⟩ : ∃ P : Ending → World → Prop, P = DocF zs w := ⟨_, rfl⟩
  have HPP := hid hPP
  rw [← hPP]
  have hl2 : ¬ ((262144 : Int) < (zs.length : Int)) := by omega
  have hl3 : decide ((262144 : Int) < (zs.length : Int)) = false := decide_eq_false hl2
  have hl4 : decide (262144 < zs.length) = false := decide_eq_false (by omega)
  have hmost := hr.most
  have hroom := hr.room
  unfold maxLen at hmost
  clear hr b1 b2 e0 e1 bb s1 hW0 hl hPP
  go_enter Tryd.func24, Tryd.ntmps24
  go_wp2_with (first | refine wpList_alloc_at rfl 27 rfl (some 2) rfl _ Tryd.zero27 w.heap.size rfl ?_ | fail)
  rw [← HW0.out]
  clear HW0 hl2 hl3 hl4 hmost hroom HS1
  have HG1 : Hid (w.heap.size < w.heap.size + 1) := Nat.lt_succ_self _
  generalize w.heap.size + 1 = g at *
  refine (dbyte_word w W0 g (zs, false) HQ0.out).mono ?_
  rintro _ V1 ⟨rfl, hq1, hb1, _, _⟩
  have HE1 : Hid (V1.heap[w.heap.size]? = some (.cells recZ.cs.toArray 27)) := (hb1.same _ (Array.getElem?_eq_some_iff.1 HE0.out).1 (by have := HG1.out; omega)).trans HE0.out
  have HQ1 := hid hq1
  clear hq1 hb1 HE0 HQ0
  go_wp2_with fail
  refine (dbyte_word w V1 g (byteQ (zs, false)).2 HQ1.out).mono ?_
  rintro _ V2 ⟨rfl, hq2, hb2, hk0, hk1⟩
  have HE2 : Hid (V2.heap[w.heap.size]? = some (.cells recZ.cs.toArray 27)) := (hb2.same _ (Array.getElem?_eq_some_iff.1 HE1.out).1 (by have := HG1.out; omega)).trans HE1.out
  have HDC : Hid (docX zs = docT (byteQ (byteQ (zs, false)).2).1 (numQ (byteQ (byteQ (zs, false)).2).2).1 (numQ (numQ (byteQ (byteQ (zs, false)).2).2).2).1 (takeQ 32 (numQ (numQ (byteQ (byteQ (zs, false)).2).2).2).2).1 (takeQ 32 (numQ (numQ (byteQ (byteQ (zs, false)).2).2).2).2).2) := rfl
  generalize byteQ (byteQ (zs, false)).2 = T at *
  obtain ⟨k, S2⟩ := T
  dsimp only at *
  have HKB := hid (And.intro hk0 hk1)
  have hbx := bel_alc V2 (.cells ({ recZ with kind := k } : Rec).cs.toArray 27)
  have K3 : Hid (Dk w (V2.alloc (.cells ({ recZ with kind := k } : Rec).cs.toArray 27)) g V2.heap.size { recZ with kind := k } S2) := ⟨heap_old _ _ HE2.out, Bx.mk' V2 _ rfl, hq2.later hbx, HG1.out, hq2.lt⟩
  obtain ⟨X3, hX3⟩ : ∃ X, X = V2.alloc (.cells ({ recZ with kind := k } : Rec).cs.toArray 27) := ⟨_, rfl⟩
  have HX3 := hid hX3
  rw [← hX3] at K3
  obtain ⟨RK, hRK⟩ : ∃ RK : Rec, RK = { recZ with kind := k } := ⟨_, rfl⟩
  have HRK := hid hRK
  have HBK := hid (built27K k)
  rw [← hRK] at HBK HX3
  have HKL : Hid (RK.prev.length = 32) := by rw [hRK]; rfl
  clear hk0 hk1 hbx hX3 hq2 hb2 HQ1 HE1 HE2 hRK
  go_wp2_with (first | refine wpList_buildTo rfl 27 _ rfl (some 22) rfl RK.cs.toArray (Eq.trans (congrArg (Tryd.prog.built 27) (by simp only [List.map_toArray, List.map_cons, List.map_nil]; rfl)) HBK.out) ?_ | refine wpList_alloc_at rfl 27 rfl (some 5) rfl _ Tryd.zero27 V2.heap.size rfl ?_ | refine wpList_store_asD rfl 27 _ _ rfl rfl V2 recZ.cs.toArray RK.cs.toArray rfl rfl rfl (size_recs HKL.out) (by rw [Rec.cs_size HKL.out]; rfl) (all_oneCell_toArray (Rec.cs_one _)) X3 HX3.out ?_ | fail)
  clear HX3 HBK HKL HRK
  generalize V2.heap.size = hx at *
  refine K3.out.num.mono ?_
  rintro _ V3 ⟨rfl, hk, _⟩
  have K4 := hid hk
  have c0 := K4.out.box.c0
  have u0 := K4.out.unf 0
  clear hk
  go_wp2_with fail
  have K4b := hid (K4.out.set (K4.out.box.setSeq (numQ S2).1))
  generalize V3.setCell ⟨hx, 0, none⟩ (.int .i64 (numQ S2).1) = X4 at *
  clear c0 u0 K4 K3
  have HS3 : Hid (∃ q, q = (numQ S2).2) := ⟨_, rfl⟩
  obtain ⟨S3, hS3⟩ := HS3.out
  rw [← hS3] at HDC K4b
  clear hS3 HS3
  refine K4b.out.num.mono ?_
  rintro _ V4 ⟨rfl, hk, _⟩
  have K5a := hid hk
  have c1 := K5a.out.box.c1
  have u1 := K5a.out.unf 1
  clear hk
  go_wp2_with fail
  have K5b := hid (K5a.out.set (K5a.out.box.setEpoch (numQ S3).1))
  generalize V4.setCell ⟨hx, 1, none⟩ (.int .i64 (numQ S3).1) = X5 at *
  clear c1 u1 K5a K4b
  obtain ⟨S4, hS4⟩ : ∃ q, q = (numQ S3).2 := ⟨_, rfl⟩
  rw [← hS4] at HDC K5b
  clear hS4
  refine K5b.out.dig.mono ?_
  rintro _ V5 ⟨rfl, hk, hd32, hdy, _⟩
  have K5c := hid hk
  generalize takeQ 32 S4 = T at *
  obtain ⟨D, S5⟩ := T
  dsimp only at *
  have HDL := hid hd32
  have HDY := hid hdy
  have HTH : Hid (V5.there hx 2 (u8A D).size) := by show World.there _ _ _ _; rw [u8A_size, HDL.out]; exact K5c.out.box.there
  have K5 := hid (K5c.out.setPrev D HDL.out)
  have c34 : (V5.setCells hx 2 (D.map (Value.int .u8))).cell? ⟨hx, 34, none⟩ = some (.int .i64 k) := K5.out.box.c34
  obtain ⟨X8, hX8⟩ : ∃ X, X = V5.setCells hx 2 (D.map (Value.int .u8)) := ⟨_, rfl⟩
  have HX8 := hid hX8
  rw [← hX8] at K5 c34
  clear hX8 hk hd32 hdy K5b
  have hk1 : k = 1 := HKK.out
  have hke : (k == 1) = true := by rw [hk1]; rfl
  go_wp2_with (first | refine wpList_store_midTo rfl 23 _ _ rfl rfl hx 2 (u8A D) rfl rfl HTH.out (size_digB HDL.out) (u8A_one _) X8 HX8.out ?_ | fail)
  subst hk1
  refine K5.out.byte.mono ?_
  rintro _ V6 ⟨rfl, hk, hx0, hx1⟩
  have K6 := hid hk
  have HX01 := hid (And.intro hx0 hx1)
  have c35 := K6.out.box.c35
  have u35 := K6.out.unf 35
  have c34 : (V6.setCell ⟨hx, 35, none⟩ (.int .i64 (byteQ S5).1)).cell? ⟨hx, 34, none⟩ = some (.int .i64 1) := (K6.out.set (K6.out.box.setSite (byteQ S5).1)).box.c34
  clear hk hx0 hx1
  obtain ⟨RR, hRR⟩ : ∃ RR : Rec, RR = ⟨(numQ S2).1, (numQ S3).1, D, 1, (byteQ S5).1, ByteArray.empty, none, 0, []⟩ := ⟨_, rfl⟩
  have HRQ := hid hRR
  have HRV : Hid (Rv (V6.setCell ⟨hx, 35, none⟩ (.int .i64 (byteQ S5).1)) RR) := by
    rw [HRQ.out]
    exact ⟨HDL.out, get_u8 (fun z hz => wf_mk_u8 (HDY.out z hz).1 (HDY.out z hz).2), wf_mk_i64 (by have := (numQ_rng S2).1; show (_ : Int) ≤ (numQ S2).1; omega) (by have := (numQ_rng S2).2; show (numQ S2).1 ≤ _; omega), wf_mk_i64 (by have := (numQ_rng S3).1; show (_ : Int) ≤ (numQ S3).1; omega) (by have := (numQ_rng S3).2; show (numQ S3).1 ≤ _; omega), wf_mk_i64 (by show (_ : Int) ≤ (1 : Int); have := HKB.out.1; omega) (by show (1 : Int) ≤ _; have := HKB.out.2; omega), (wf_mk_i64 (by show (_ : Int) ≤ (byteQ S5).1; have := HX01.out.1; omega) (by show (byteQ S5).1 ≤ _; have := HX01.out.2; omega)), (Nat.zero_le _), ⟨Nat.le_refl _, Nat.zero_le _, fun _ => rfl, fun h => absurd h (by simp), fun x hx => by cases hx⟩⟩
  clear hRR
  have K7x : Hid (Dk w (V6.setCell ⟨hx, 35, none⟩ (.int .i64 (byteQ S5).1)) g hx RR (byteQ S5).2) := by rw [HRQ.out]; exact K6.out.set (K6.out.box.setSite (byteQ S5).1)
  have HDX : Hid (docX zs = (⟨(numQ S2).1, (numQ S3).1, D, 1, (byteQ S5).1, ByteArray.empty, none, 0, []⟩, (byteQ S5).2)) := HDC.out.trans (by unfold docT; rw [if_pos rfl])
  have HRG : Hid (∀ b off, (none : Option Addr) = some ⟨b, off, none⟩ → b ≠ w.heap.size) := fun b off q => by cases q
  have HDBY := hid (dbytes_word RR (V6.setCell ⟨hx, 35, none⟩ (.int .i64 (byteQ S5).1)) HRV.out)
  have HMM : Hid (mayB RR = mayB ⟨(numQ S2).1, (numQ S3).1, D, 1, (byteQ S5).1, ByteArray.empty, none, 0, []⟩) := by rw [HRQ.out]; rfl
  have HWW : Hid (wrB RR = wrB ⟨(numQ S2).1, (numQ S3).1, D, 1, (byteQ S5).1, ByteArray.empty, none, 0, []⟩) := by rw [HRQ.out]; rfl
  have HXR := hid K7x.out.box.range
  have HRL := hid K7x.out.box.len
  go_wp2_with (first | refine wpList_load_g rfl 27 _ rfl hx 0 rfl RR.cs _ HXR.out Tryd.underlying27 rfl (by rw [Rec.cs_len HRL.out]; exact Tryd.size27) ?_ | fail)
  refine HDBY.out.mono ?_
  rintro _ X7 ⟨v7, rfl, hc7, hp7⟩
  have K7 := hid (K7x.out.later hc7)
  have HO7 := hid K7.out.out
  have HB7 := hid K7.out.rq.bel
  have HRV7 := hid (HRV.out.later hc7)
  have HX7 := hid K7.out.box.range
  clear hc7 HDBY HXR
  obtain ⟨ca, cc, hcb, _⟩ := K7.out.rq.blk
  have c1 : X7.cell? ⟨g, 1, none⟩ = some (.bool (byteQ S5).2.2) := (Joins.cell_of_block hcb 1).trans rfl
  clear hcb
  cases hbad : (byteQ S5).2.2 with
  | true =>
    have HBD := hid hbad
    rw [hbad] at c1
    clear hbad hp7
    go_wp2_with (first | refine wpList_buildTo rfl 27 _ rfl (some 96) rfl recZ.cs.toArray Tryd.built27 ?_ | refine wpList_store_rowTo rfl 27 _ _ rfl rfl w.heap.size recZ.cs.toArray rfl rfl 27 _ HO7.out (size_recs rfl) rfl (all_oneCell_toArray (Rec.cs_one _)) ?_ | fail)
    refine bodyPost_ret (results_row_tmp rfl _ _ w.heap.size _ rfl (load_recs (setRow_heap _ _ _ _ _ _ HO7.out) rfl)) rfl ?_
    rw [HPP.out]
    exact ⟨recZ, 130, rfl, below_setRow HB7.out (Nat.le_refl _) _, .inl ⟨docO_no HDX.out (fun q => by rw [HBD.out] at q; cases q.1), rfl, rfl⟩⟩
  | false =>
    have HBD := hid hbad
    rw [hbad] at c1
    clear hbad
    cases hm : mayB RR with
    | false =>
      have HM : Hid (mayB ⟨(numQ S2).1, (numQ S3).1, D, 1, (byteQ S5).1, ByteArray.empty, none, 0, []⟩ = false) := HMM.out.symm.trans hm
      rw [show e130 false = 130 from rfl]
      clear hm hp7
      go_wp2_with (first | refine wpList_buildTo rfl 27 _ rfl (some 96) rfl recZ.cs.toArray Tryd.built27 ?_ | refine wpList_store_rowTo rfl 27 _ _ rfl rfl w.heap.size recZ.cs.toArray rfl rfl 27 _ HO7.out (size_recs rfl) rfl (all_oneCell_toArray (Rec.cs_one _)) ?_ | fail)
      refine bodyPost_ret (results_row_tmp rfl _ _ w.heap.size _ rfl (load_recs (setRow_heap _ _ _ _ _ _ HO7.out) rfl)) rfl ?_
      rw [HPP.out]
      exact ⟨recZ, 130, rfl, below_setRow HB7.out (Nat.le_refl _) _, .inl ⟨docO_no HDX.out (fun q => by rw [HM.out] at q; cases q.2.1), rfl, rfl⟩⟩
    | true =>
      have HM : Hid (mayB ⟨(numQ S2).1, (numQ S3).1, D, 1, (byteQ S5).1, ByteArray.empty, none, 0, []⟩ = true) := HMM.out.symm.trans hm
      rw [hm] at hp7
      rw [show e130 true = 0 from rfl]
      rcases hp7 with ⟨q, _⟩ | ⟨_, ho7⟩
      · cases q
      have hw8 := get_u8 (wr_mem HRV7.out hm)
      obtain ⟨a7, c7, rfl, hr7⟩ := Ri.own ho7 hw8
      have ht1 := hr7.text X7 (Below.refl _ _)
      have ht2 := (HZR.out.later HB7.out).text X7 (Below.refl _ _)
      have hse := str_eq hw8 HZR.out.fits
      have HWE := hid HWW.out
      clear hm ho7 hr7
      by_cases hwz : wrB RR = zs
      · have HWZ := hid hwz
        rw [hwz] at ht1 hw8 hse ⊢
        clear hwz hse
        generalize strOfNums zs = SS at *
        generalize zs.length = LL at *
        go_wp2_with (first | refine wpList_load_g rfl 27 _ rfl hx 0 rfl RR.cs _ HX7.out Tryd.underlying27 rfl (by rw [Rec.cs_len HRL.out]; exact Tryd.size27) ?_ | refine wpList_store_rowTo rfl 27 _ _ rfl rfl w.heap.size RR.cs.toArray rfl rfl 27 _ HO7.out (size_recs HRL.out) (by rw [Rec.cs_size HRL.out]; rfl) (all_oneCell_toArray (Rec.cs_one _)) ?_ | fail)
        refine bodyPost_ret (results_row_tmp rfl _ _ w.heap.size _ rfl (load_recs (setRow_heap _ _ _ _ _ _ HO7.out) HRL.out)) rfl ?_
        rw [HPP.out]
        refine ⟨RR, 0, rfl, below_setRow HB7.out (Nat.le_refl _) _, .inr ⟨_, none, 0, docO_yes HDX.out ⟨HBD.out, HM.out, HWE.out.symm.trans HWZ.out⟩, HRQ.out, rfl, ?_⟩⟩
        have hv := HRV7.out
        rw [HRQ.out] at hv ⊢
        exact ⟨hv.len, hv.u8, hv.seq, hv.epoch, hv.kind, hv.site, hv.path, hv.row.kept (fun b off q => other_setRow _ _ _ _ (HRG.out b off q))⟩
      · have HWZ := hid hwz
        have hq1 : ((strOfNums (wrB RR)).toList == (strOfNums zs).toList) = false := by rw [hse]; exact beq_eq_false_iff_ne.2 hwz
        have hq2 : ¬ (strOfNums (wrB RR)).toList = (strOfNums zs).toList := by
          have := beq_eq_false_iff_ne.1 hq1
          exact this
        have hq3 : ¬ strOfNums (wrB RR) = strOfNums zs := fun q => hq2 (by rw [q])
        clear hwz hse hw8
        generalize strOfNums (wrB RR) = S1 at *
        generalize strOfNums zs = SS at *
        generalize zs.length = LL at *
        generalize hWL : (wrB RR).length = L1 at *
        clear hWL
        go_wp2_with (first | refine wpList_buildTo rfl 27 _ rfl (some 96) rfl recZ.cs.toArray Tryd.built27 ?_ | refine wpList_store_rowTo rfl 27 _ _ rfl rfl w.heap.size recZ.cs.toArray rfl rfl 27 _ HO7.out (size_recs rfl) rfl (all_oneCell_toArray (Rec.cs_one _)) ?_ | fail)
        refine bodyPost_ret (results_row_tmp rfl _ _ w.heap.size _ rfl (load_recs (setRow_heap _ _ _ _ _ _ HO7.out) rfl)) rfl ?_
        rw [HPP.out]
        exact ⟨recZ, 130, rfl, below_setRow HB7.out (Nat.le_refl _) _, .inl ⟨docO_no HDX.out (fun q => HWZ.out (HWE.out.trans q.2.2)), rfl, rfl⟩⟩
end Go.Proofs.YtpbaacplgohniaaDoor
namespace Go.Proofs.YtpbaacplgohniaaDoor
open Go.ChangeShapes Go.WideShapes Go.ChangeAt Go.RowKit Go.Deep

set_option maxHeartbeats 16000000 in
set_option maxRecDepth 100000 in
theorem dparse_other (a : Option Addr) (cap : Nat) (zs : List Int) (w : World) (hr : Ri w .u8 a cap zs) (hl : zs.length ≤ 262144) (hkk : ¬ (byteQ (byteQ (zs, false)).2).1 = 1 ∧ ¬ (byteQ (byteQ (zs, false)).2).1 = 2) :
    Calls Tryd.prog 24 #[.slice a zs.length cap] w (DocF zs w) := by
  have HZR := hid hr
  have HKK := hid hkk
  clear hkk
  have s1 : (w.alloc (.cells recZ.cs.toArray 27)).heap.size = w.heap.size + 1 := by simp
  have b1 := bel_alc w (.cells recZ.cs.toArray 27)
  have b2 := bel_alc (w.alloc (.cells recZ.cs.toArray 27)) (.cells #[.slice a zs.length cap, .bool false] 93)
  have e0 := heap_old _ (.cells #[.slice a zs.length cap, .bool false] 93) (heap_alc w (.cells recZ.cs.toArray 27))
  have e1 := heap_alc (w.alloc (.cells recZ.cs.toArray 27)) (.cells #[.slice a zs.length cap, .bool false] 93)
  rw [s1] at e1
  have bb := Bn b1 b2
  obtain ⟨W0, hW0⟩ : ∃ W, W = (w.alloc (.cells recZ.cs.toArray 27)).alloc (.cells #[.slice a zs.length cap, .bool false] 93) := ⟨_, rfl⟩
  rw [← hW0] at e0 e1 bb
  have HE0 := hid e0
  have HQ0 : Hid (Rq w W0 (w.heap.size + 1) (zs, false)) := ⟨⟨a, cap, e1, hr⟩, bb, by omega⟩
  have HW0 := hid hW0
  have HS1 := hid s1.symm
  obtain ⟨PP, hPP⟩ : ∃ P : Ending → World → Prop, P = DocF zs w := ⟨_, rfl⟩
  have HPP := hid hPP
  rw [← hPP]
  have hl2 : ¬ ((262144 : Int) < (zs.length : Int)) := by omega
  have hl3 : decide ((262144 : Int) < (zs.length : Int)) = false := decide_eq_false hl2
  have hl4 : decide (262144 < zs.length) = false := decide_eq_false (by omega)
  have hmost := hr.most
  have hroom := hr.room
  unfold maxLen at hmost
  clear hr b1 b2 e0 e1 bb s1 hW0 hl hPP
  go_enter Tryd.func24, Tryd.ntmps24
  go_wp2_with (first | refine wpList_alloc_at rfl 27 rfl (some 2) rfl _ Tryd.zero27 w.heap.size rfl ?_ | fail)
  rw [← HW0.out]
  clear HW0 hl2 hl3 hl4 hmost hroom HS1
  have HG1 : Hid (w.heap.size < w.heap.size + 1) := Nat.lt_succ_self _
  generalize w.heap.size + 1 = g at *
  refine (dbyte_word w W0 g (zs, false) HQ0.out).mono ?_
  rintro _ V1 ⟨rfl, hq1, hb1, _, _⟩
  have HE1 : Hid (V1.heap[w.heap.size]? = some (.cells recZ.cs.toArray 27)) := (hb1.same _ (Array.getElem?_eq_some_iff.1 HE0.out).1 (by have := HG1.out; omega)).trans HE0.out
  have HQ1 := hid hq1
  clear hq1 hb1 HE0 HQ0
  go_wp2_with fail
  refine (dbyte_word w V1 g (byteQ (zs, false)).2 HQ1.out).mono ?_
  rintro _ V2 ⟨rfl, hq2, hb2, hk0, hk1⟩
  have HE2 : Hid (V2.heap[w.heap.size]? = some (.cells recZ.cs.toArray 27)) := (hb2.same _ (Array.getElem?_eq_some_iff.1 HE1.out).1 (by have := HG1.out; omega)).trans HE1.out
  have HDC : Hid (docX zs = docT (byteQ (byteQ (zs, false)).2).1 (numQ (byteQ (byteQ (zs, false)).2).2).1 (numQ (numQ (byteQ (byteQ (zs, false)).2).2).2).1 (takeQ 32 (numQ (numQ (byteQ (byteQ (zs, false)).2).2).2).2).1 (takeQ 32 (numQ (numQ (byteQ (byteQ (zs, false)).2).2).2).2).2) := rfl
  generalize byteQ (byteQ (zs, false)).2 = T at *
  obtain ⟨k, S2⟩ := T
  dsimp only at *
  have HKB := hid (And.intro hk0 hk1)
  have hbx := bel_alc V2 (.cells ({ recZ with kind := k } : Rec).cs.toArray 27)
  have K3 : Hid (Dk w (V2.alloc (.cells ({ recZ with kind := k } : Rec).cs.toArray 27)) g V2.heap.size { recZ with kind := k } S2) := ⟨heap_old _ _ HE2.out, Bx.mk' V2 _ rfl, hq2.later hbx, HG1.out, hq2.lt⟩
  obtain ⟨X3, hX3⟩ : ∃ X, X = V2.alloc (.cells ({ recZ with kind := k } : Rec).cs.toArray 27) := ⟨_, rfl⟩
  have HX3 := hid hX3
  rw [← hX3] at K3
  obtain ⟨RK, hRK⟩ : ∃ RK : Rec, RK = { recZ with kind := k } := ⟨_, rfl⟩
  have HRK := hid hRK
  have HBK := hid (built27K k)
  rw [← hRK] at HBK HX3
  have HKL : Hid (RK.prev.length = 32) := by rw [hRK]; rfl
  clear hk0 hk1 hbx hX3 hq2 hb2 HQ1 HE1 HE2 hRK
  go_wp2_with (first | refine wpList_buildTo rfl 27 _ rfl (some 22) rfl RK.cs.toArray (Eq.trans (congrArg (Tryd.prog.built 27) (by simp only [List.map_toArray, List.map_cons, List.map_nil]; rfl)) HBK.out) ?_ | refine wpList_alloc_at rfl 27 rfl (some 5) rfl _ Tryd.zero27 V2.heap.size rfl ?_ | refine wpList_store_asD rfl 27 _ _ rfl rfl V2 recZ.cs.toArray RK.cs.toArray rfl rfl rfl (size_recs HKL.out) (by rw [Rec.cs_size HKL.out]; rfl) (all_oneCell_toArray (Rec.cs_one _)) X3 HX3.out ?_ | fail)
  clear HX3 HBK HKL HRK
  generalize V2.heap.size = hx at *
  refine K3.out.num.mono ?_
  rintro _ V3 ⟨rfl, hk, _⟩
  have K4 := hid hk
  have c0 := K4.out.box.c0
  have u0 := K4.out.unf 0
  clear hk
  go_wp2_with fail
  have K4b := hid (K4.out.set (K4.out.box.setSeq (numQ S2).1))
  generalize V3.setCell ⟨hx, 0, none⟩ (.int .i64 (numQ S2).1) = X4 at *
  clear c0 u0 K4 K3
  have HS3 : Hid (∃ q, q = (numQ S2).2) := ⟨_, rfl⟩
  obtain ⟨S3, hS3⟩ := HS3.out
  rw [← hS3] at HDC K4b
  clear hS3 HS3
  refine K4b.out.num.mono ?_
  rintro _ V4 ⟨rfl, hk, _⟩
  have K5a := hid hk
  have c1 := K5a.out.box.c1
  have u1 := K5a.out.unf 1
  clear hk
  go_wp2_with fail
  have K5b := hid (K5a.out.set (K5a.out.box.setEpoch (numQ S3).1))
  generalize V4.setCell ⟨hx, 1, none⟩ (.int .i64 (numQ S3).1) = X5 at *
  clear c1 u1 K5a K4b
  obtain ⟨S4, hS4⟩ : ∃ q, q = (numQ S3).2 := ⟨_, rfl⟩
  rw [← hS4] at HDC K5b
  clear hS4
  refine K5b.out.dig.mono ?_
  rintro _ V5 ⟨rfl, hk, hd32, hdy, _⟩
  have K5c := hid hk
  generalize takeQ 32 S4 = T at *
  obtain ⟨D, S5⟩ := T
  dsimp only at *
  have HDL := hid hd32
  have HDY := hid hdy
  have HTH : Hid (V5.there hx 2 (u8A D).size) := by show World.there _ _ _ _; rw [u8A_size, HDL.out]; exact K5c.out.box.there
  have K5 := hid (K5c.out.setPrev D HDL.out)
  have c34 : (V5.setCells hx 2 (D.map (Value.int .u8))).cell? ⟨hx, 34, none⟩ = some (.int .i64 k) := K5.out.box.c34
  obtain ⟨X8, hX8⟩ : ∃ X, X = V5.setCells hx 2 (D.map (Value.int .u8)) := ⟨_, rfl⟩
  have HX8 := hid hX8
  rw [← hX8] at K5 c34
  clear hX8 hk hd32 hdy K5b
  have hk1 : ¬ k = 1 := HKK.out.1
  have hk2 : ¬ k = 2 := HKK.out.2
  have hke : (k == 1) = false := by rw [beq_eq_false_iff_ne]; exact hk1
  go_wp2_with (first | refine wpList_store_midTo rfl 23 _ _ rfl rfl hx 2 (u8A D) rfl rfl HTH.out (size_digB HDL.out) (u8A_one _) X8 HX8.out ?_ | fail)
  refine K5.out.byte.mono ?_
  rintro _ V6 ⟨rfl, hk, hx0, hx1⟩
  have K6 := hid hk
  obtain ⟨n, hn⟩ := Int.eq_ofNat_of_zero_le hx0
  have HNB := hid hn
  rw [hn] at hx1 ⊢
  have hn3 : n ≤ 255 := by omega
  clear hk hx0 hn
  go_wp2_with fail
  refine (K6.out.tk (n := n) (by omega)).mono ?_
  rintro _ V7 ⟨a7, c7, rfl, hi7, hk⟩
  have K7 := hid hk
  have HPL : Hid ((takeQ n (byteQ S5).2).1.length ≤ 255) := by show _ ≤ _; rw [takeQ_len n _ (by omega)]; exact hn3
  have HPQ : Hid (pthQ S5 = takeQ n (byteQ S5).2) := by show _ = _; unfold pthQ; rw [HNB.out, Int.toNat_natCast]
  have ht := hi7.text V7 (Below.refl _ _)
  clear hk hi7 hx1 hn3 HNB
  generalize takeQ n (byteQ S5).2 = T at *
  obtain ⟨PL, S6⟩ := T
  dsimp only at *
  have HPL0 := hid HPL.out
  generalize PL.length = LP at ht HPL ⊢
  generalize hPS : strOfNums PL = PS at ht
  have HPS := hid hPS
  clear hPS
  have c36 := K7.out.box.c36
  have u36 := K7.out.unf 36
  have K8 := hid (K7.out.set (K7.out.box.setPath PS))
  have c34 : (V7.setCell ⟨hx, 36, none⟩ (.string PS)).cell? ⟨hx, 34, none⟩ = some (.int .i64 k) := K8.out.box.c34
  have HPL2 : Hid (PL.length ≤ 255) := HPL0.out
  obtain ⟨RR, hRR⟩ : ∃ RR : Rec, RR = ⟨(numQ S2).1, (numQ S3).1, D, k, 0, PS, none, 0, []⟩ := ⟨_, rfl⟩
  have HRQ := hid hRR
  have HRV : Hid (Rv (V7.setCell ⟨hx, 36, none⟩ (.string PS)) RR) := by
    rw [HRQ.out]
    exact ⟨HDL.out, get_u8 (fun z hz => wf_mk_u8 (HDY.out z hz).1 (HDY.out z hz).2), wf_mk_i64 (by have := (numQ_rng S2).1; show (_ : Int) ≤ (numQ S2).1; omega) (by have := (numQ_rng S2).2; show (numQ S2).1 ≤ _; omega), wf_mk_i64 (by have := (numQ_rng S3).1; show (_ : Int) ≤ (numQ S3).1; omega) (by have := (numQ_rng S3).2; show (numQ S3).1 ≤ _; omega), wf_mk_i64 (by show (_ : Int) ≤ k; have := HKB.out.1; omega) (by show k ≤ _; have := HKB.out.2; omega), rfl, (by rw [← HPS.out, str_size]; have := HPL2.out; unfold maxLen; omega), ⟨Nat.le_refl _, Nat.zero_le _, fun _ => rfl, fun h => absurd h (by simp), fun x hx => by cases hx⟩⟩
  clear hRR
  have K9x : Hid (Dk w (V7.setCell ⟨hx, 36, none⟩ (.string PS)) g hx RR S6) := by rw [HRQ.out]; exact K8.out
  have HDX : Hid (docX zs = (⟨(numQ S2).1, (numQ S3).1, D, k, 0, PS, none, 0, []⟩, S6)) := HDC.out.trans (by unfold docT; rw [if_neg hk1, if_neg hk2, HPQ.out, HPS.out])
  have HRG : Hid (∀ b off, (none : Option Addr) = some ⟨b, off, none⟩ → b ≠ w.heap.size) := fun b off q => by cases q
  have hke2 : (k == 2) = false := by rw [beq_eq_false_iff_ne]; exact hk2
  have HDBY := hid (dbytes_word RR (V7.setCell ⟨hx, 36, none⟩ (.string PS)) HRV.out)
  have HMM : Hid (mayB RR = mayB ⟨(numQ S2).1, (numQ S3).1, D, k, 0, PS, none, 0, []⟩) := by rw [HRQ.out]; rfl
  have HWW : Hid (wrB RR = wrB ⟨(numQ S2).1, (numQ S3).1, D, k, 0, PS, none, 0, []⟩) := by rw [HRQ.out]; rfl
  have HXR := hid K9x.out.box.range
  have HRL := hid K9x.out.box.len
  go_wp2_with (first | refine wpList_load_g rfl 27 _ rfl hx 0 rfl RR.cs _ HXR.out Tryd.underlying27 rfl (by rw [Rec.cs_len HRL.out]; exact Tryd.size27) ?_ | fail)
  refine HDBY.out.mono ?_
  rintro _ X7 ⟨v7, rfl, hc7, hp7⟩
  have K7 := hid (K9x.out.later hc7)
  have HO7 := hid K7.out.out
  have HB7 := hid K7.out.rq.bel
  have HRV7 := hid (HRV.out.later hc7)
  have HX7 := hid K7.out.box.range
  clear hc7 HDBY HXR
  obtain ⟨ca, cc, hcb, _⟩ := K7.out.rq.blk
  have c1 : X7.cell? ⟨g, 1, none⟩ = some (.bool S6.2) := (Joins.cell_of_block hcb 1).trans rfl
  clear hcb
  cases hbad : S6.2 with
  | true =>
    have HBD := hid hbad
    rw [hbad] at c1
    clear hbad hp7
    go_wp2_with (first | refine wpList_buildTo rfl 27 _ rfl (some 96) rfl recZ.cs.toArray Tryd.built27 ?_ | refine wpList_store_rowTo rfl 27 _ _ rfl rfl w.heap.size recZ.cs.toArray rfl rfl 27 _ HO7.out (size_recs rfl) rfl (all_oneCell_toArray (Rec.cs_one _)) ?_ | fail)
    refine bodyPost_ret (results_row_tmp rfl _ _ w.heap.size _ rfl (load_recs (setRow_heap _ _ _ _ _ _ HO7.out) rfl)) rfl ?_
    rw [HPP.out]
    exact ⟨recZ, 130, rfl, below_setRow HB7.out (Nat.le_refl _) _, .inl ⟨docO_no HDX.out (fun q => by rw [HBD.out] at q; cases q.1), rfl, rfl⟩⟩
  | false =>
    have HBD := hid hbad
    rw [hbad] at c1
    clear hbad
    cases hm : mayB RR with
    | false =>
      have HM : Hid (mayB ⟨(numQ S2).1, (numQ S3).1, D, k, 0, PS, none, 0, []⟩ = false) := HMM.out.symm.trans hm
      rw [show e130 false = 130 from rfl]
      clear hm hp7
      go_wp2_with (first | refine wpList_buildTo rfl 27 _ rfl (some 96) rfl recZ.cs.toArray Tryd.built27 ?_ | refine wpList_store_rowTo rfl 27 _ _ rfl rfl w.heap.size recZ.cs.toArray rfl rfl 27 _ HO7.out (size_recs rfl) rfl (all_oneCell_toArray (Rec.cs_one _)) ?_ | fail)
      refine bodyPost_ret (results_row_tmp rfl _ _ w.heap.size _ rfl (load_recs (setRow_heap _ _ _ _ _ _ HO7.out) rfl)) rfl ?_
      rw [HPP.out]
      exact ⟨recZ, 130, rfl, below_setRow HB7.out (Nat.le_refl _) _, .inl ⟨docO_no HDX.out (fun q => by rw [HM.out] at q; cases q.2.1), rfl, rfl⟩⟩
    | true =>
      have HM : Hid (mayB ⟨(numQ S2).1, (numQ S3).1, D, k, 0, PS, none, 0, []⟩ = true) := HMM.out.symm.trans hm
      rw [hm] at hp7
      rw [show e130 true = 0 from rfl]
      rcases hp7 with ⟨q, _⟩ | ⟨_, ho7⟩
      · cases q
      have hw8 := get_u8 (wr_mem HRV7.out hm)
      obtain ⟨a7, c7, rfl, hr7⟩ := Ri.own ho7 hw8
      have ht1 := hr7.text X7 (Below.refl _ _)
      have ht2 := (HZR.out.later HB7.out).text X7 (Below.refl _ _)
      have hse := str_eq hw8 HZR.out.fits
      have HWE := hid HWW.out
      clear hm ho7 hr7
      by_cases hwz : wrB RR = zs
      · have HWZ := hid hwz
        rw [hwz] at ht1 hw8 hse ⊢
        clear hwz hse
        generalize strOfNums zs = SS at *
        generalize zs.length = LL at *
        go_wp2_with (first | refine wpList_load_g rfl 27 _ rfl hx 0 rfl RR.cs _ HX7.out Tryd.underlying27 rfl (by rw [Rec.cs_len HRL.out]; exact Tryd.size27) ?_ | refine wpList_store_rowTo rfl 27 _ _ rfl rfl w.heap.size RR.cs.toArray rfl rfl 27 _ HO7.out (size_recs HRL.out) (by rw [Rec.cs_size HRL.out]; rfl) (all_oneCell_toArray (Rec.cs_one _)) ?_ | fail)
        refine bodyPost_ret (results_row_tmp rfl _ _ w.heap.size _ rfl (load_recs (setRow_heap _ _ _ _ _ _ HO7.out) HRL.out)) rfl ?_
        rw [HPP.out]
        refine ⟨RR, 0, rfl, below_setRow HB7.out (Nat.le_refl _) _, .inr ⟨_, none, 0, docO_yes HDX.out ⟨HBD.out, HM.out, HWE.out.symm.trans HWZ.out⟩, HRQ.out, rfl, ?_⟩⟩
        have hv := HRV7.out
        rw [HRQ.out] at hv ⊢
        exact ⟨hv.len, hv.u8, hv.seq, hv.epoch, hv.kind, hv.site, hv.path, hv.row.kept (fun b off q => other_setRow _ _ _ _ (HRG.out b off q))⟩
      · have HWZ := hid hwz
        have hq1 : ((strOfNums (wrB RR)).toList == (strOfNums zs).toList) = false := by rw [hse]; exact beq_eq_false_iff_ne.2 hwz
        have hq2 : ¬ (strOfNums (wrB RR)).toList = (strOfNums zs).toList := by
          have := beq_eq_false_iff_ne.1 hq1
          exact this
        have hq3 : ¬ strOfNums (wrB RR) = strOfNums zs := fun q => hq2 (by rw [q])
        clear hwz hse hw8
        generalize strOfNums (wrB RR) = S1 at *
        generalize strOfNums zs = SS at *
        generalize zs.length = LL at *
        generalize hWL : (wrB RR).length = L1 at *
        clear hWL
        go_wp2_with (first | refine wpList_buildTo rfl 27 _ rfl (some 96) rfl recZ.cs.toArray Tryd.built27 ?_ | refine wpList_store_rowTo rfl 27 _ _ rfl rfl w.heap.size recZ.cs.toArray rfl rfl 27 _ HO7.out (size_recs rfl) rfl (all_oneCell_toArray (Rec.cs_one _)) ?_ | fail)
        refine bodyPost_ret (results_row_tmp rfl _ _ w.heap.size _ rfl (load_recs (setRow_heap _ _ _ _ _ _ HO7.out) rfl)) rfl ?_
        rw [HPP.out]
        exact ⟨recZ, 130, rfl, below_setRow HB7.out (Nat.le_refl _) _, .inl ⟨docO_no HDX.out (fun q => HWZ.out (HWE.out.trans q.2.2)), rfl, rfl⟩⟩
end Go.Proofs.YtpbaacplgohniaaDoor
