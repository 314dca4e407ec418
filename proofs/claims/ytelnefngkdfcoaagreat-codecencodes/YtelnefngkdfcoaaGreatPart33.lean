/-
  Encode, for up to 1000 bytes, and for more than it takes.
-/
import Derived.Test.YtelnefngkdfcoaaGreatPart32
import Derived.Test.YtelnefngkdfcoaaGreatPart30
import Derived.Laws.MakeOwn
import Derived.Test.YtelnefngkdfcoaaGreatPart25
import Derived.Test.YtelnefngkdfcoaaGreatPart22
namespace Go.Proofs.YtelnefngkdfcoaaGreat
open Go.RowKit Hf Lz

def CncPost (bs : List Int) (w : World) (e : Ending) (w' : World) : Prop :=
  Below w.heap.size w w' ∧ ∃ a c, e = .returned (.tuple #[.slice a (encB bs).length c, .int .i64 0]) ∧ Ri w' .u8 a c (encB bs)
theorem codB_u8 (f n : Nat) (zs : List Int) (hf : f ≤ 255) (hn : n ≤ 100000) (hz : ∀ j, 0 ≤ zs.getD j 0 ∧ zs.getD j 0 ≤ 255) (j : Nat) : 0 ≤ (codB f n zs).getD j 0 ∧ (codB f n zs).getD j 0 ≤ 255 := by
  unfold codB
  cases j with
  | zero => simp [List.getD]; omega
  | succ j =>
    have hv := vint_u8 (n : Int) (by omega) (by omega)
    rw [List.append_assoc, List.singleton_append, List.getD_cons_succ]
    by_cases h : j < (vint (n : Int)).length
    · have := hv j
      rw [List.getD_eq_getElem?_getD, List.getElem?_append_left h, ← List.getD_eq_getElem?_getD]
      exact this
    · rw [List.getD_eq_getElem?_getD, List.getElem?_append_right (by omega), ← List.getD_eq_getElem?_getD]
      exact hz _
set_option maxHeartbeats 3200000 in
set_option maxRecDepth 100000 in
theorem cenc_word (a : Option Addr) (cap : Nat) (bs : List Int) (w : World) (hr : Ri w .u8 a cap bs) (hn : bs.length ≤ 4200) :
    Calls Tryz.prog 15 #[.slice a bs.length cap] w (CncPost bs w) := by
  have HTK := hid (tokens_word a cap bs w hr)
  have hO : tksO bs = (toksL bs, 0) := by unfold tksO; rw [if_neg (by omega)]
  have HFT := hid (tks_fit bs hr.fits)
  have HTS := hid (toks_size bs (by omega))
  have HR := hid hr
  have HN := hid hn
  have hu8 : ∀ j, 0 ≤ bs.getD j 0 ∧ bs.getD j 0 ≤ 255 := fun j => wf_u8 (hr.fits j)
  have HU := hid hu8
  unfold TksPost at HTK
  rw [hO] at HTK HFT
  clear hr hn hu8
  unfold CncPost encB
  obtain ⟨len, hl⟩ : ∃ n, n = bs.length := ⟨_, rfl⟩
  have HL := hid hl
  rw [← hl] at HTK ⊢
  obtain ⟨l, hll⟩ : ∃ l, l = (toksL bs).map toZ := ⟨_, rfl⟩
  have HLL := hid hll
  rw [← hll] at HTS ⊢
  clear hl hll hO
  generalize hE : (if (packB l).length < len then codB 1 len (packB l) else codB 0 len bs) = E
  have HE := hid hE
  clear hE
  go_enter Tryz.func15, Tryz.ntmps15
  go_wp2_with fail
  refine HTK.out.mono ?_
  rintro _ w1 ⟨v, rfl, ho, hb⟩
  obtain ⟨a1, c1, rfl, hrt⟩ := Rt.own ho HFT.out
  have HB1 := hid hb
  rw [← HLL.out] at hrt
  have HRT := hid hrt
  have e1 : (toksL bs).length = l.length := by rw [HLL.out, List.length_map]
  have HPK := hid (pack_any a1 c1 l w1 hrt (by have := HTS.out.1; have := HN.out; omega))
  unfold PkPost at HPK
  rw [HTS.out.2] at HPK
  dsimp only
  rw [e1]
  clear hb hrt ho e1 HTK HFT
  generalize l.length = ll at *
  go_wp2_with fail
  refine HPK.out.mono ?_
  rintro _ w2 ⟨hb, hp⟩
  rw [if_pos trivial] at hp
  obtain ⟨a2, c2, rfl, hri⟩ := hp
  have HB2 := hid (Bn HB1.out hb)
  have HRI := hid hri
  have HR2 := hid ((HR.out.later HB1.out).later hb)
  clear hb hri HPK
  obtain ⟨pl, hpl⟩ : ∃ n, n = (packB l).length := ⟨_, rfl⟩
  have HPL := hid hpl
  rw [← hpl]
  clear hpl
  have hv10 : (vint (len : Int)).length ≤ 10 := by have := vint_short (len : Int) (by omega) (by have := HN.out; have := HL.out; omega); omega
  have HV := hid hv10
  clear hv10
  by_cases hlt : pl < len
  · have hlz : (pl : Int) < (len : Int) := by omega
    have HC := hid (coded_word 1 len a2 c2 (packB l) w2 HRI.out (by decide) (by have := HN.out; have := HL.out; omega) (by have := HN.out; have := HL.out; have := HPL.out; omega) HV.out)
    rw [← HPL.out] at HC
    simp only [Int.natCast_one] at HC
    have HE1 : Hid (E = codB 1 len (packB l)) := by show _ = _; rw [← HE.out, if_pos (by rw [← HPL.out]; exact hlt)]
    go_wp2_with fail
    refine HC.out.mono ?_
    rintro _ w3 ⟨v, rfl, ho, hb⟩
    obtain ⟨a3, c3, rfl, h3⟩ := Ri.own ho (fun j => by
      have := codB_u8 1 len (packB l) (by decide) (by have := HN.out; have := HL.out; omega) (fun j => wf_u8 (HRI.out.fits j)) j
      exact wf_mk_u8 this.1 this.2)
    have HB3 := hid (Bn HB2.out hb)
    have H3 := hid h3
    clear hb h3 ho HC
    generalize (codB 1 len (packB l)) = R at *
    obtain ⟨rl, hrl⟩ : ∃ n, n = R.length := ⟨_, rfl⟩
    have HRL := hid hrl
    rw [← hrl]
    clear hrl
    go_wp2_with fail
    go_ret2
    exact ⟨HB3.out, a3, c3, by rw [HE1.out, ← HRL.out]; rfl, by rw [HE1.out]; exact H3.out⟩
  · have hlz : ¬ (pl : Int) < (len : Int) := by omega
    have HC := hid (coded_word 0 len a cap bs w2 HR2.out (by decide) (by have := HN.out; have := HL.out; omega) (by have := HN.out; omega) HV.out)
    rw [← HL.out] at HC
    simp only [Int.natCast_zero] at HC
    have HE1 : Hid (E = codB 0 len bs) := by show _ = _; rw [← HE.out, if_neg (by rw [← HPL.out]; exact hlt)]
    go_wp2_with fail
    refine HC.out.mono ?_
    rintro _ w3 ⟨v, rfl, ho, hb⟩
    obtain ⟨a3, c3, rfl, h3⟩ := Ri.own ho (fun j => by
      have := codB_u8 0 len bs (by decide) (by have := HN.out; have := HL.out; omega) HU.out j
      exact wf_mk_u8 this.1 this.2)
    have HB3 := hid (Bn HB2.out hb)
    have H3 := hid h3
    clear hb h3 ho HC
    generalize (codB 0 len bs) = R at *
    obtain ⟨rl, hrl⟩ : ∃ n, n = R.length := ⟨_, rfl⟩
    have HRL := hid hrl
    rw [← hrl]
    clear hrl
    go_wp2_with fail
    go_ret2
    exact ⟨HB3.out, a3, c3, by rw [HE1.out, ← HRL.out]; rfl, by rw [HE1.out]; exact H3.out⟩
end Go.Proofs.YtelnefngkdfcoaaGreat
/-
  What alive meets: rows of zeros, two rows and their codes.
-/
namespace Go.Proofs.YtelnefngkdfcoaaGreat
open Go.RowKit Hf Lz

theorem mk_run (n : Nat) (hn : n ≤ 1000000) (w : World) : (Instr.makeSlice 24 (.int .i64 (n : Int)) (.int .i64 (n : Int))).run Tryz.prog w = .ok (.slice (some ⟨w.heap.size, 0, none⟩) n n) (w.alloc (.cells (madeCells #[.int .u8 0] n) 5)) := by
  obtain ⟨i0, hi, hi0, hi1, hi2⟩ := info_parts Tryz.info5W
  have h := run_make (P := Tryz.prog) w 24 5 i0 (.int .u8 0) Tryz.underlying24 hi hi0 .i64 .i64 (n : Int) (n : Int) (by omega) (by omega) (by rw [hi2]; omega) (by omega)
  rw [Int.toNat_natCast, hi1, Nat.mul_one] at h
  exact h
theorem made_ri (w : World) (n : Nat) (hn : n ≤ 1000000) : Ri (w.alloc (.cells (madeCells #[.int .u8 0] n) 5)) .u8 (some ⟨w.heap.size, 0, none⟩) n (List.replicate n 0) := by
  refine ⟨by rw [List.length_replicate]; exact Nat.le_refl _, by unfold maxLen; omega, fun _ => ⟨w.heap.size, 0, rfl, by simp, fun j hj => ?_⟩, fun j => ?_⟩
  · rw [List.length_replicate] at hj
    rw [Nat.zero_add, Joins.cell_of_block (heap_newZ w _) j]
    simp [madeCells, hj, Nat.mod_one, List.getD]
  · have : (List.replicate n (0 : Int)).getD j 0 = 0 := by
      simp only [List.getD, List.getElem?_replicate]
      split <;> rfl
    rw [this]; exact wf_zero _
theorem enc_len (bs : List Int) (hn : bs.length ≤ 4200) : (encB bs).length ≤ bs.length + 3 := by
  have hv := vint_short (bs.length : Int) (by omega) (by omega)
  unfold encB codB
  split <;> simp only [List.length_append, List.length_singleton] <;> omega
theorem dec_enc (bs : List Int) (h8 : Bytes8 bs) (hn : bs.length ≤ 4150) (W : World) (a : Option Addr) (c : Nat) (hW : Ri W .u8 a c (encB bs)) :
    Calls Tryz.prog 17 #[.slice a (encB bs).length c] W fun e w' => Below W.heap.size W w' ∧ ∃ a c, e = .returned (.tuple #[.slice a bs.length c, .int .i64 0]) ∧ Ri w' .u8 a c bs := by
  have hl := enc_len bs (by omega)
  refine Calls.mono (decode_word a c (encB bs) W hW (by omega)) ?_
  rintro e w' ⟨h1, h2⟩
  rw [row_enc bs h8 (by omega)] at h2
  exact ⟨h1, h2⟩
def z100 : List Int := List.replicate 100 0
def ab2 : List Int := [97, 98]
theorem ab_enc : encB ab2 = [0, 2, 97, 98] := by decide +kernel
theorem z_enc : (encB z100).length < 60 ∧ (encB z100).getD 0 0 = 1 := by decide +kernel
theorem ab_str : strOfNums [0, 2, 97, 98] = ⟨#[0, 2, 97, 98]⟩ := by decide +kernel
theorem z_8 : Bytes8 z100 := fun j => (made_ri default 100 (by omega)).fits j
end Go.Proofs.YtelnefngkdfcoaaGreat
/-
  The contract of the statements' alive.
-/
namespace Go.Proofs.YtelnefngkdfcoaaGreat
open Go.RowKit Hf Lz

set_option maxHeartbeats 6400000 in
set_option maxRecDepth 100000 in
theorem alive_any (w : World) : Calls Tryz.prog 10 #[] w fun e w' => e = .returned (.bool true) ∧ Below w.heap.size w w' := by
  have HE1 := hid (cenc_word (some ⟨w.heap.size, 0, none⟩) 2 ab2 _ (lit_ri w ab2 (2, 3) 2 rfl (by omega) (by decide)) (by decide))
  unfold CncPost at HE1
  rw [ab_enc] at HE1
  have HE1' : Hid (Calls Tryz.prog 15 #[.slice (some ⟨w.heap.size, 0, none⟩) 2 2] (w.alloc (.cells #[.int .u8 97, .int .u8 98] 5 (2, 3))) fun e w' => Below w.heap.size w w' ∧ ∃ a c, e = .returned (.tuple #[.slice a 4 c, .int .i64 0]) ∧ Ri w' .u8 a c [0, 2, 97, 98]) := by
    refine Calls.mono HE1.out ?_
    rintro e w' ⟨h1, h2⟩
    exact ⟨Bn (bel_alloc w _) h1, h2⟩
  have HE2 : Hid (∀ W, Calls Tryz.prog 15 #[.slice (some ⟨W.heap.size, 0, none⟩) 100 100] (W.alloc (.cells (madeCells #[.int .u8 0] 100) 5)) fun e w' => Below W.heap.size W w' ∧ ∃ a c, e = .returned (.tuple #[.slice a (encB z100).length c, .int .i64 0]) ∧ Ri w' .u8 a c (encB z100)) := fun W => by
    refine Calls.mono (cenc_word (some ⟨W.heap.size, 0, none⟩) 100 z100 _ (made_ri W 100 (by omega)) (by decide)) ?_
    rintro e w' ⟨h1, h2⟩
    exact ⟨Bn (bel_alloc W _) h1, h2⟩
  have hmk : ∀ w : World, (Instr.makeSlice 24 (.int .i64 100) (.int .i64 100)).run Tryz.prog w = .ok (.slice (some ⟨w.heap.size, 0, none⟩) 100 100) (w.alloc (.cells (madeCells #[.int .u8 0] 100) 5)) := fun w => mk_run 100 (by omega) w
  have HMK := hid hmk
  have HZ := hid z_enc
  have HDC : Hid (∀ W a c, Ri W .u8 a c (encB z100) → Calls Tryz.prog 17 #[.slice a (encB z100).length c] W fun e w' => Below W.heap.size W w' ∧ ∃ a c, e = .returned (.tuple #[.slice a 100 c, .int .i64 0]) ∧ Ri w' .u8 a c z100) := fun W a c hW => dec_enc z100 z_8 (by decide) W a c hW
  have kc := Lib.run_convert_bytes_const (P := Tryz.prog) w 24 5 #[.int .u8 97, .int .u8 98] 2 2 Tryz.underlying24 Tryz.underlying5
  simp only [List.size_toArray, List.length_cons, List.length_nil, Nat.reduceAdd] at kc
  clear HE1 hmk
  go_enter Tryz.func10, Tryz.ntmps10
  go_wp2_with fail
  refine HE1'.out.mono ?_
  rintro _ w1 ⟨hb1, a1, c1, rfl, hr1⟩
  have HB1 := hid hb1
  have HR1 := hid hr1
  clear hb1 hr1 HE1' kc
  have hmk1 := HMK.out w1
  go_wp2_with fail
  refine (HE2.out w1).mono ?_
  rintro _ w2 ⟨hb2, a2, c2, rfl, hr2⟩
  have HB2 := hid hb2
  have HR2 := hid hr2
  have HD := hid (HDC.out w2 a2 c2 hr2)
  clear hb2 hr2 hmk1 HE2 HDC
  generalize hlb : (encB z100).length = lb at *
  have HLB := hid hlb
  clear hlb
  go_wp2_with fail
  refine HD.out.mono ?_
  rintro _ w3 ⟨hb3, a3, c3, rfl, hr3⟩
  have hpos : 0 < (encB z100).length := by
    have h2 := HZ.out.2
    rcases Nat.eq_zero_or_pos (encB z100).length with h | h
    · rw [List.eq_nil_of_length_eq_zero h] at h2
      simp at h2
    · exact h
  obtain ⟨gb, ob, rfl, hgb, hcb⟩ := HR2.out.cells hpos
  have hl0 : lb < 60 := HZ.out.1
  have hlp : 0 < lb := by
    have h2 := HZ.out.2
    rcases Nat.eq_zero_or_pos lb with h | h
    · have h3 := HLB.out
      rw [h] at h3
      rw [List.eq_nil_of_length_eq_zero h3] at h2
      simp at h2
    · exact h
  have c0 := hcb 0 (by rw [HLB.out]; exact hlp)
  rw [HZ.out.2, Nat.add_zero] at c0
  have ht1 := HR1.out.later HB2.out
  have ht1' := ht1.later hb3
  have HA : Hid (∀ W, Below w3.heap.size w3 W → (convert 24 9 (.slice a1 4 c1)).run Tryz.prog W = .ok (.string ⟨#[0, 2, 97, 98]⟩) W) := fun W hW => by
    have := ht1'.text W hW
    rw [ab_str] at this
    exact this
  have HC : Hid (∀ W, Below w3.heap.size w3 W → W.cell? ⟨gb, ob, none⟩ = some (.int .u8 1)) := fun W hW =>
    (hW.cell (p := ⟨gb, ob, none⟩) (Nat.lt_of_lt_of_le hgb hb3.size)).trans ((hb3.cell (p := ⟨gb, ob, none⟩) hgb).trans c0)
  have HD3 : Hid (∀ W, Below w3.heap.size w3 W → (convert 24 9 (.slice a3 100 c3)).run Tryz.prog W = .ok (.string (strOfNums z100)) W) := fun W hW => hr3.text W hW
  have HB3 := hid (Bn (Bn HB1.out HB2.out) hb3)
  have hlz : (lb : Int) < 60 := by omega
  have hln : ¬ (lb : Int) ≤ 0 := by omega
  have hlq : (0 : Int) < (lb : Int) := by omega
  clear hcb c0 ht1 ht1' hb3 hr3 hgb HD HR1 HR2 HLB HZ HB1 HB2 hl0
  go_wp2_with fail
  refine wp_region_held_drew (S := fun W => Below w3.heap.size w3 W) (by kernel_rfl) (Below.refl _ _).drew (fun hS => ?_)
  refine Ord.take (i := 0) (d := 23) (v := ?v0) rfl rfl (by as_aux_lemma => kernel_rfl) (by as_aux_lemma => kernel_rfl) (by as_aux_lemma => kernel_rfl) (fun _ _ _ h => h) (by rfl) ?h0 (by assumption) ?_
  case h0 => intro w hSw; go_simp; try with_reducible rfl
  simp only [List.setIfInBounds_toArray, List.set_cons_zero, List.set_cons_succ]
  refine Ord.take (i := 1) (d := 24) (v := ?v1) rfl rfl (by as_aux_lemma => kernel_rfl) (by as_aux_lemma => kernel_rfl) (by as_aux_lemma => kernel_rfl) (fun _ _ _ h => h) (by rfl) ?h1 (by assumption) ?_
  case h1 => intro w hSw; go_simp; try with_reducible rfl
  simp only [List.setIfInBounds_toArray, List.set_cons_zero, List.set_cons_succ]
  refine Ord.take (i := 2) (d := 25) (v := ?v2) rfl rfl (by as_aux_lemma => kernel_rfl) (by as_aux_lemma => kernel_rfl) (by as_aux_lemma => kernel_rfl) (fun _ _ _ h => h) (by rfl) ?h2 (by assumption) ?_
  case h2 => intro w hSw; go_simp; try with_reducible rfl
  simp only [List.setIfInBounds_toArray, List.set_cons_zero, List.set_cons_succ]
  refine Ord.take (i := 3) (d := 26) (v := ?v3) rfl rfl (by as_aux_lemma => kernel_rfl) (by as_aux_lemma => kernel_rfl) (by as_aux_lemma => kernel_rfl) (fun _ _ _ h => h) (by rfl) ?h3 (by assumption) ?_
  case h3 => intro w hSw; go_simp; try with_reducible rfl
  simp only [List.setIfInBounds_toArray, List.set_cons_zero, List.set_cons_succ]
  refine Ord.take (i := 4) (d := 27) (v := ?v4) rfl rfl (by as_aux_lemma => kernel_rfl) (by as_aux_lemma => kernel_rfl) (by as_aux_lemma => kernel_rfl) (fun _ _ _ h => h) (by rfl) ?h4 (by assumption) ?_
  case h4 => intro w hSw; go_simp; try with_reducible rfl
  simp only [List.setIfInBounds_toArray, List.set_cons_zero, List.set_cons_succ]
  refine Ord.take (i := 5) (d := 28) (v := ?v5) rfl rfl (by as_aux_lemma => kernel_rfl) (by as_aux_lemma => kernel_rfl) (by as_aux_lemma => kernel_rfl) (fun _ _ _ h => h) (by rfl) ?h5 (by assumption) ?_
  case h5 => intro w hSw; go_simp; try with_reducible rfl
  simp only [List.setIfInBounds_toArray, List.set_cons_zero, List.set_cons_succ]
  refine Ord.take (i := 6) (d := 29) (v := ?v6) rfl rfl (by as_aux_lemma => kernel_rfl) (by as_aux_lemma => kernel_rfl) (by as_aux_lemma => kernel_rfl) (fun _ _ _ h => h) (by rfl) ?h6 (by assumption) ?_
  case h6 => intro w hSw; go_simp; try with_reducible rfl
  simp only [List.setIfInBounds_toArray, List.set_cons_zero, List.set_cons_succ]
  refine Ord.take (i := 7) (d := 30) (v := ?v7) rfl rfl (by as_aux_lemma => kernel_rfl) (by as_aux_lemma => kernel_rfl) (by as_aux_lemma => kernel_rfl) (fun _ _ _ h => h) (by rfl) ?h7 (by assumption) ?_
  case h7 => intro w hSw; go_simp; try with_reducible rfl
  simp only [List.setIfInBounds_toArray, List.set_cons_zero, List.set_cons_succ]
  refine Ord.take (i := 8) (d := 31) (v := ?v8) rfl rfl (by as_aux_lemma => kernel_rfl) (by as_aux_lemma => kernel_rfl) (by as_aux_lemma => kernel_rfl) (fun _ _ _ h => h) (by rfl) ?h8 (by assumption) ?_
  case h8 => intro w hSw; go_simp; try with_reducible rfl
  simp only [List.setIfInBounds_toArray, List.set_cons_zero, List.set_cons_succ]
  refine Ord.take (i := 9) (d := 32) (v := ?v9) rfl rfl (by as_aux_lemma => kernel_rfl) (by as_aux_lemma => kernel_rfl) (by as_aux_lemma => kernel_rfl) (fun _ _ _ h => h) (by rfl) ?h9 (by assumption) ?_
  case h9 => intro w hSw; go_simp; try with_reducible rfl
  simp only [List.setIfInBounds_toArray, List.set_cons_zero, List.set_cons_succ]
  refine Ord.take (i := 10) (d := 33) (v := ?v10) rfl rfl (by as_aux_lemma => kernel_rfl) (by as_aux_lemma => kernel_rfl) (by as_aux_lemma => kernel_rfl) (fun _ _ _ h => h) (by rfl) ?h10 (by assumption) ?_
  case h10 => intro w hSw; go_simp; try with_reducible rfl
  simp only [List.setIfInBounds_toArray, List.set_cons_zero, List.set_cons_succ]
  refine Ord.take (i := 11) (d := 34) (v := ?v11) rfl rfl (by as_aux_lemma => kernel_rfl) (by as_aux_lemma => kernel_rfl) (by as_aux_lemma => kernel_rfl) (fun _ _ _ h => h) (by rfl) ?h11 (by assumption) ?_
  case h11 => intro w hSw; go_simp; try with_reducible rfl
  simp only [List.setIfInBounds_toArray, List.set_cons_zero, List.set_cons_succ]
  refine Ord.take (i := 12) (d := 35) (v := ?v12) rfl rfl (by as_aux_lemma => kernel_rfl) (by as_aux_lemma => kernel_rfl) (by as_aux_lemma => kernel_rfl) (fun _ _ _ h => h) (by rfl) ?h12 (by assumption) ?_
  case h12 => intro w hSw; have q := HA.out w hSw; go_simp; try with_reducible rfl
  simp only [List.setIfInBounds_toArray, List.set_cons_zero, List.set_cons_succ]
  refine Ord.take (i := 13) (d := 36) (v := ?v13) rfl rfl (by as_aux_lemma => kernel_rfl) (by as_aux_lemma => kernel_rfl) (by as_aux_lemma => kernel_rfl) (fun _ _ _ h => h) (by rfl) ?h13 (by assumption) ?_
  case h13 => intro w hSw; go_simp; try with_reducible rfl
  simp only [List.setIfInBounds_toArray, List.set_cons_zero, List.set_cons_succ]
  refine Ord.take (i := 14) (d := 37) (v := ?v14) rfl rfl (by as_aux_lemma => kernel_rfl) (by as_aux_lemma => kernel_rfl) (by as_aux_lemma => kernel_rfl) (fun _ _ _ h => h) (by rfl) ?h14 (by assumption) ?_
  case h14 => intro w hSw; go_simp; try with_reducible rfl
  simp only [List.setIfInBounds_toArray, List.set_cons_zero, List.set_cons_succ]
  refine Ord.take (i := 15) (d := 38) (v := ?v15) rfl rfl (by as_aux_lemma => kernel_rfl) (by as_aux_lemma => kernel_rfl) (by as_aux_lemma => kernel_rfl) (fun _ _ _ h => h) (by rfl) ?h15 (by assumption) ?_
  case h15 => intro w hSw; go_simp; try with_reducible rfl
  simp only [List.setIfInBounds_toArray, List.set_cons_zero, List.set_cons_succ]
  refine Ord.take (i := 16) (d := 39) (v := ?v16) rfl rfl (by as_aux_lemma => kernel_rfl) (by as_aux_lemma => kernel_rfl) (by as_aux_lemma => kernel_rfl) (fun _ _ _ h => h) (by rfl) ?h16 (by assumption) ?_
  case h16 => intro w hSw; go_simp; try with_reducible rfl
  simp only [List.setIfInBounds_toArray, List.set_cons_zero, List.set_cons_succ]
  refine Ord.take (i := 17) (d := 40) (v := ?v17) rfl rfl (by as_aux_lemma => kernel_rfl) (by as_aux_lemma => kernel_rfl) (by as_aux_lemma => kernel_rfl) (fun _ _ _ h => h) (by rfl) ?h17 (by assumption) ?_
  case h17 => intro w hSw; go_simp; try with_reducible rfl
  simp only [List.setIfInBounds_toArray, List.set_cons_zero, List.set_cons_succ]
  refine Ord.take (i := 18) (d := 41) (v := ?v18) rfl rfl (by as_aux_lemma => kernel_rfl) (by as_aux_lemma => kernel_rfl) (by as_aux_lemma => kernel_rfl) (fun _ _ _ h => h) (by rfl) ?h18 (by assumption) ?_
  case h18 => intro w hSw; go_simp; try with_reducible rfl
  simp only [List.setIfInBounds_toArray, List.set_cons_zero, List.set_cons_succ]
  refine Ord.take (i := 19) (d := 42) (v := ?v19) rfl rfl (by as_aux_lemma => kernel_rfl) (by as_aux_lemma => kernel_rfl) (by as_aux_lemma => kernel_rfl) (fun _ _ _ h => h) (by rfl) ?h19 (by assumption) ?_
  case h19 => intro w hSw; go_simp; try with_reducible rfl
  simp only [List.setIfInBounds_toArray, List.set_cons_zero, List.set_cons_succ]
  refine Ord.take (i := 20) (d := 43) (v := ?v20) rfl rfl (by as_aux_lemma => kernel_rfl) (by as_aux_lemma => kernel_rfl) (by as_aux_lemma => kernel_rfl) (fun _ _ _ h => h) (by rfl) ?h20 (by assumption) ?_
  case h20 => intro w hSw; go_simp; try with_reducible rfl
  simp only [List.setIfInBounds_toArray, List.set_cons_zero, List.set_cons_succ]
  refine Ord.take (i := 21) (d := 44) (v := ?v21) rfl rfl (by as_aux_lemma => kernel_rfl) (by as_aux_lemma => kernel_rfl) (by as_aux_lemma => kernel_rfl) (fun _ _ _ h => h) (by rfl) ?h21 (by assumption) ?_
  case h21 => intro w hSw; go_simp; try with_reducible rfl
  simp only [List.setIfInBounds_toArray, List.set_cons_zero, List.set_cons_succ]
  refine Ord.take (i := 22) (d := 45) (v := ?v22) rfl rfl (by as_aux_lemma => kernel_rfl) (by as_aux_lemma => kernel_rfl) (by as_aux_lemma => kernel_rfl) (fun _ _ _ h => h) (by rfl) ?h22 (by assumption) ?_
  case h22 => intro w hSw; go_simp; try with_reducible rfl
  simp only [List.setIfInBounds_toArray, List.set_cons_zero, List.set_cons_succ]
  refine Ord.take (i := 23) (d := 46) (v := ?v23) rfl rfl (by as_aux_lemma => kernel_rfl) (by as_aux_lemma => kernel_rfl) (by as_aux_lemma => kernel_rfl) (fun _ _ _ h => h) (by rfl) ?h23 (by assumption) ?_
  case h23 => intro w hSw; have q := HC.out w hSw; go_simp; try with_reducible rfl
  simp only [List.setIfInBounds_toArray, List.set_cons_zero, List.set_cons_succ]
  refine Ord.take (i := 24) (d := 47) (v := ?v24) rfl rfl (by as_aux_lemma => kernel_rfl) (by as_aux_lemma => kernel_rfl) (by as_aux_lemma => kernel_rfl) (fun _ _ _ h => h) (by rfl) ?h24 (by assumption) ?_
  case h24 => intro w hSw; go_simp; try with_reducible rfl
  simp only [List.setIfInBounds_toArray, List.set_cons_zero, List.set_cons_succ]
  refine Ord.take (i := 25) (d := 48) (v := ?v25) rfl rfl (by as_aux_lemma => kernel_rfl) (by as_aux_lemma => kernel_rfl) (by as_aux_lemma => kernel_rfl) (fun _ _ _ h => h) (by rfl) ?h25 (by assumption) ?_
  case h25 => intro w hSw; go_simp; try with_reducible rfl
  simp only [List.setIfInBounds_toArray, List.set_cons_zero, List.set_cons_succ]
  refine Ord.take (i := 26) (d := 49) (v := ?v26) rfl rfl (by as_aux_lemma => kernel_rfl) (by as_aux_lemma => kernel_rfl) (by as_aux_lemma => kernel_rfl) (fun _ _ _ h => h) (by rfl) ?h26 (by assumption) ?_
  case h26 => intro w hSw; go_simp; try with_reducible rfl
  simp only [List.setIfInBounds_toArray, List.set_cons_zero, List.set_cons_succ]
  refine Ord.take (i := 27) (d := 50) (v := ?v27) rfl rfl (by as_aux_lemma => kernel_rfl) (by as_aux_lemma => kernel_rfl) (by as_aux_lemma => kernel_rfl) (fun _ _ _ h => h) (by rfl) ?h27 (by assumption) ?_
  case h27 => intro w hSw; go_simp; try with_reducible rfl
  simp only [List.setIfInBounds_toArray, List.set_cons_zero, List.set_cons_succ]
  refine Ord.take (i := 28) (d := 51) (v := ?v28) rfl rfl (by as_aux_lemma => kernel_rfl) (by as_aux_lemma => kernel_rfl) (by as_aux_lemma => kernel_rfl) (fun _ _ _ h => h) (by rfl) ?h28 (by assumption) ?_
  case h28 => intro w hSw; have q := HD3.out w hSw; go_simp; try with_reducible rfl
  simp only [List.setIfInBounds_toArray, List.set_cons_zero, List.set_cons_succ]
  have hmk := HMK.out w3.drew
  refine wpAnyH_ready (rs := [29]) (by as_aux_lemma => kernel_rfl) (by simp) (AllReadyH.cons rfl (fun K hK => ?_) AllReadyH.nil)
  go_simp
  have hb4 : Below w3.heap.size w3 (w3.alloc (.cells (madeCells #[.int .u8 0] 100) 5)).drew := (bel_alloc w3 _).drew
  have HT : Hid (∀ W, Below (w3.heap.size + 1) (w3.alloc (.cells (madeCells #[.int .u8 0] 100) 5)).drew W → (convert 24 9 (.slice (some ⟨w3.heap.size, 0, none⟩) 100 100)).run Tryz.prog W = .ok (.string (strOfNums z100)) W) := fun W hW => by
    have h := (made_ri w3 100 (by omega)).later (Below.refl _ _).drew
    refine h.text W ?_
    rw [show (w3.alloc (.cells (madeCells #[.int .u8 0] 100) 5)).drew.heap.size = w3.heap.size + 1 from by simp [World.drew]]
    exact hW
  refine hK.out _ _ hb4 (fun _ => ?_)
  clear hK K hS hmk HMK HA HC HD3
  have hS : Below (w3.heap.size + 1) (w3.alloc (.cells (madeCells #[.int .u8 0] 100) 5)).drew (w3.alloc (.cells (madeCells #[.int .u8 0] 100) 5)).drew := Below.refl _ _
  have HB4 := hid (Bn HB3.out hb4)
  refine Ord.more (S' := fun W => Below (w3.heap.size + 1) (w3.alloc (.cells (madeCells #[.int .u8 0] 100) 5)).drew W) (fun W hW => hb4.trans (hW.mono (by omega))) _ _ _ _ ?_
  clear hb4
  generalize (w3.alloc (.cells (madeCells #[.int .u8 0] 100) 5)).drew = w4 at *
  refine Ord.take (i := 30) (d := 53) (v := ?v30) rfl rfl (by as_aux_lemma => kernel_rfl) (by as_aux_lemma => kernel_rfl) (by as_aux_lemma => kernel_rfl) (fun _ _ _ h => h) (by rfl) ?h30 (by assumption) ?_
  case h30 => intro w hSw; have q := HT.out w hSw; go_simp; try with_reducible rfl
  simp only [List.setIfInBounds_toArray, List.set_cons_zero, List.set_cons_succ]
  refine Ord.take (i := 31) (d := 54) (v := ?v31) rfl rfl (by as_aux_lemma => kernel_rfl) (by as_aux_lemma => kernel_rfl) (by as_aux_lemma => kernel_rfl) (fun _ _ _ h => h) (by rfl) ?h31 (by assumption) ?_
  case h31 => intro w hSw; go_simp; try with_reducible rfl
  simp only [List.setIfInBounds_toArray, List.set_cons_zero, List.set_cons_succ]
  refine Ord.take (i := 32) (d := 55) (v := ?v32) rfl rfl (by as_aux_lemma => kernel_rfl) (by as_aux_lemma => kernel_rfl) (by as_aux_lemma => kernel_rfl) (fun _ _ _ h => h) (by rfl) ?h32 (by assumption) ?_
  case h32 => intro w hSw; go_simp; try with_reducible rfl
  simp only [List.setIfInBounds_toArray, List.set_cons_zero, List.set_cons_succ]
  refine Ord.take (i := 33) (d := 0) (v := ?v33) rfl rfl (by as_aux_lemma => kernel_rfl) (by as_aux_lemma => kernel_rfl) (by as_aux_lemma => kernel_rfl) (fun _ _ _ h => h) (by rfl) ?h33 (by assumption) ?_
  case h33 => intro w hSw; go_simp; try with_reducible rfl
  simp only [List.setIfInBounds_toArray, List.set_cons_zero]
  refine wpAnyH_done (by as_aux_lemma => kernel_rfl) ?_ _
  go_wp2_with fail
  go_ret
  exact ⟨rfl, HB4.out⟩
end Go.Proofs.YtelnefngkdfcoaaGreat
/-
  The document's symbol, dist and Varint.
-/
namespace Go.Proofs.YtelnefngkdfcoaaGreat
open Go.RowKit Lz

theorem rsymbol_ref (t : Tkz) (w : World) (h : t.1 = 0 ∨ (0 ≤ t.2.1 ∧ t.2.1 ≤ 258)) (h8 : 0 ≤ t.2.2 ∧ t.2.2 ≤ 255) : Calls Tryz.prog 34 #[.agg (zC t)] w fun e w' => e = .returned (.int .i64 (symZ t)) ∧ Below w.heap.size w w' := by
  obtain ⟨d, n, x⟩ := t
  have hx0 := h8.1
  have hx1 := h8.2
  clear h8
  simp only at hx0 hx1
  unfold zC
  by_cases hl : d = 0
  · subst hl
    have HK : Hid (symZ (0, n, x) = x) := rfl
    go_enter Tryz.func34, Tryz.ntmps34
    go_wp2
    go_ret
    exact ⟨by rw [HK.out]; rfl, bel_allocZ _ _⟩
  · have HK : Hid (symZ (d, n, x) = 252 + n) := by show symZ (d, n, x) = 252 + n; unfold symZ; rw [if_neg hl]
    have hd : (d == 0) = false := by rw [beq_eq_false_iff_ne]; exact hl
    have h1 : 0 ≤ n ∧ n ≤ 258 := by
      rcases h with h | h
      · exact absurd h hl
      · exact h
    have h2 := h1.1
    have h3 := h1.2
    clear h h1
    go_enter Tryz.func34, Tryz.ntmps34
    go_wp2
    go_ret
    exact ⟨by rw [HK.out]; rfl, bel_allocZ _ _⟩

theorem log2_half (n : Nat) (h : 2 ≤ n) : Nat.log2 n = Nat.log2 (n / 2) + 1 := by
  rw [Nat.log2_def, if_pos h]
theorem log2_one (n : Nat) (h : n < 2) : Nat.log2 n = 0 := by
  rw [Nat.log2_def, if_neg (by omega)]
theorem rdist_ref (d : Int) (w : World) (h1 : 1 ≤ d) (h2 : d ≤ 4096) : Calls Tryz.prog 36 #[.int .i64 d] w fun e w' => e = .returned (.int .i64 (dstZ d)) ∧ w' = w := by
  go_enter Tryz.func36, Tryz.ntmps36
  go_wp2
  go_loopw [0, 3] (fun n k wr => wr = w ∧ ∃ (y j : Nat), n = .int .i64 (y : Int) ∧ k = .int .i64 (j : Int) ∧ 1 ≤ y ∧ y ≤ 4096 ∧ j ≤ 4096 ∧ j + y ≤ 4096 ∧ Hid ((j : Int) + (Nat.log2 y : Int) = dstZ d)) (fun n _ _ => (intOf n).toNat)
  case atStart => exact ⟨rfl, d.toNat, 0, by congr 1; omega, rfl, by omega, by omega, by omega, by omega, by show _ = _; unfold dstZ; omega⟩
  case round =>
    obtain ⟨rfl, y, j, rfl, rfl, hy1, hy2, hj, hjy, HD⟩ := hrel
    by_cases hy : 1 < y
    · have hyi : (y : Int) > 1 := by omega
      have HD2 : Hid (((j + 1 : Nat) : Int) + (Nat.log2 (y / 2) : Int) = dstZ d) := by
        show _ = _
        rw [← HD.out, log2_half y (by omega)]
        omega
      clear HD
      go_wp2
      exact ⟨⟨trivial, y / 2, j + 1, by go_num, by go_num, by omega, by omega, by omega, by omega, HD2.out⟩, by simp [intOf]; omega⟩
    · obtain rfl : y = 1 := by omega
      have HD2 : Hid ((j : Int) = dstZ d) := by
        show _ = _
        rw [← HD.out, log2_one 1 (by omega)]
        omega
      clear HD
      go_wp2
      go_ret
      exact ⟨by rw [HD2.out]; rfl, rfl⟩

set_option maxHeartbeats 800000 in
set_option maxRecDepth 1000000 in
theorem varr_ref (x : Int) (w : World) (h0 : 0 ≤ x) (h1 : x < 18446744073709551616) :
    Calls Tryz.prog 32 #[.int .u64 x] w fun e w' => ∃ v, e = .returned v ∧ w'.ownsRow w.heap.size 5 1 v (vint x).length ((vint x).map (Value.int .u8)) ∧ Below w.heap.size w w' := by
  obtain ⟨i0, hi, hz0, hz1, hz2⟩ := info_parts Tryz.info5W
  go_enter Tryz.func32, Tryz.ntmps32
  go_wp2
  go_loopw [0, 3] (fun c v wr => ∃ (f : Nat) (acc : List Int) (y : Int), c = .int .u64 y ∧ 0 ≤ y ∧ y < 18446744073709551616 ∧ y < 128 ^ (f + 1) ∧ acc.length + f = 9 ∧ acc ++ vintL f y = vint x ∧ wr.ownsRow w.heap.size 5 1 v acc.length (acc.map (Value.int .u8)) ∧ Below w.heap.size w wr)
    (fun c _ _ => (intOf c).toNat)
  case atStart => exact ⟨9, [], x, rfl, h0, h1, by omega, rfl, rfl, World.ownsRow_nil _ _ _ _, Below.refl _ _⟩
  case round =>
    obtain ⟨f, acc, y, rfl, hy0, hy1, hyf, hlen, hcat, hown, hbel⟩ := hrel
    have hor := or128 y
    by_cases hy : y < 128
    · go_wp2_with (at_builtin; refine wpList_append_own _ rfl _ _ 24 rfl w.heap.size 5 i0 (.int .u8 0) 1 1 Tryz.underlying24 hi hz0 hz1 hz2 rfl (by decide) _ _ _ rfl (hown.alloc _) ⟨wr.heap.size, 0, none⟩ 1 1 [.int .u8 y] rfl rfl ?c1 ?c2 ?c3 ?c4 ?c5 ?_)
      case c1 =>
        intro j u hj
        match j, hj with
        | 0, hj => simp at hj; subst hj; simp [Addr.add]
      case c2 => intro u hu; simp at hu; subst hu; rfl
      case c3 => unfold maxLen; omega
      case c4 => omega
      case c5 => have := hbel.size; simp; omega
      intro v' w1 hown' hgrow _
      have R := own_snocW hbel.size hown hbel hown' hgrow
      have hv : acc ++ [y] = vint x := by rw [← hcat, vint_last f y hy]
      rw [hv] at R
      clear hown' hgrow hown hcat
      go_wp2
      go_ret
      exact ⟨_, rfl, R.1, R.2⟩
    · obtain ⟨g, rfl⟩ : ∃ g, f = g + 1 := by
        cases f with
        | zero => omega
        | succ g => exact ⟨g, rfl⟩
      have hcat' : (acc ++ [y % 128 + 128]) ++ vintL g (y / 128) = vint x := by rw [← hcat, vint_more g y hy]; simp
      have hyg : y / 128 < 128 ^ (g + 1) := by
        rw [Int.ediv_lt_iff_lt_mul (by decide), ← Int.pow_succ]; exact hyf
      clear hcat hyf
      go_wp2_with (at_builtin; refine wpList_append_own _ rfl _ _ 24 rfl w.heap.size 5 i0 (.int .u8 0) 1 1 Tryz.underlying24 hi hz0 hz1 hz2 rfl (by decide) _ _ _ rfl (hown.alloc _) ⟨wr.heap.size, 0, none⟩ 1 1 [.int .u8 (y % 128 + 128)] rfl rfl ?d1 ?d2 ?d3 ?d4 ?d5 ?_)
      case d2 => rfl
      case d3 => unfold maxLen; omega
      case d4 => omega
      case d5 => have := hbel.size; simp; omega
      intro v' w1 hown' hgrow _
      have R := own_snocW hbel.size hown hbel hown' hgrow
      clear hown' hgrow hown
      go_wp2
      go_roundw
      case rel => exact ⟨g, acc ++ [y % 128 + 128], y / 128, rfl, by omega, by omega, hyg, by simp; omega, hcat', R.1, R.2⟩
      case measure => simp [intOf]; omega

theorem varr_ri (x : Int) (w : World) (h0 : 0 ≤ x) (h1 : x < 18446744073709551616) :
    Calls Tryz.prog 32 #[.int .u64 x] w fun e w' => ∃ a c, e = .returned (.slice a (vint x).length c) ∧ Ri w' .u8 a c (vint x) ∧ Below w.heap.size w w' := by
  refine (varr_ref x w h0 h1).mono ?_
  rintro e w' ⟨v, rfl, ho, hb⟩
  obtain ⟨a, c, rfl, hr⟩ := Ri.own ho (fun j => wf_mk_u8 (vint_u8 x h0 h1 j).1 (vint_u8 x h0 h1 j).2)
  exact ⟨a, c, rfl, hr, hb⟩
end Go.Proofs.YtelnefngkdfcoaaGreat
