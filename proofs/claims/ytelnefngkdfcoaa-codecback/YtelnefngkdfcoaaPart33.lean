/-
  Encode, for up to 1000 bytes, and for more than it takes.
-/
import Derived.Test.YtelnefngkdfcoaaPart32
import Derived.Test.YtelnefngkdfcoaaPart30
import Derived.Laws.MakeOwn
namespace Go.Proofs.Ytelnefngkdfcoaa
open Go.RowKit Hf Lz

def CncPost (bs : List Int) (w : World) (e : Ending) (w' : World) : Prop :=
  Below w.heap.size w w' ∧ ∃ a c, e = .returned (.tuple #[.slice a (encB bs).length c, .int .i64 0]) ∧ Ri w' .u8 a c (encB bs)
theorem codB_u8 (f n : Nat) (zs : List Int) (hf : f ≤ 255) (hn : n ≤ 100000) (hz : ∀ j, 0 ≤ zs.getD j 0 ∧ zs.getD j 0 ≤ 255) (j : Nat) : 0 ≤ (codB f n zs).getD j 0 ∧ (codB f n zs).getD j 0 ≤ 255 := by
  unfold codB
  cases j with
  | zero => simp [List.getD]; omega
  | succ j =>
    have hv := vint_u8 (n : Int) (by omega) (by omega)
    rw [List.append_assoc, List.singleton_append, List.getD_cons_succ]
    by_cases h : j < (vint (n : Int)).length
    · have := hv j
      rw [List.getD_eq_getElem?_getD, List.getElem?_append_left h, ← List.getD_eq_getElem?_getD]
      exact this
    · rw [List.getD_eq_getElem?_getD, List.getElem?_append_right (by omega), ← List.getD_eq_getElem?_getD]
      exact hz _
set_option maxHeartbeats 3200000 in
set_option maxRecDepth 100000 in
theorem cenc_word (a : Option Addr) (cap : Nat) (bs : List Int) (w : World) (hr : Ri w .u8 a cap bs) (hn : bs.length ≤ 1000) :
    Calls Try.prog 7 #[.slice a bs.length cap] w (CncPost bs w) := by
  have HTK := hid (tokens_word a cap bs w hr)
  have hO : tksO bs = (toksL bs, 0) := by unfold tksO; rw [if_neg (by omega)]
  have HFT := hid (tks_fit bs hr.fits)
  have HTS := hid (toks_size bs (by omega))
  have HR := hid hr
  have HN := hid hn
  have hu8 : ∀ j, 0 ≤ bs.getD j 0 ∧ bs.getD j 0 ≤ 255 := fun j => wf_u8 (hr.fits j)
  have HU := hid hu8
  unfold TksPost at HTK
  rw [hO] at HTK HFT
  clear hr hn hu8
  unfold CncPost encB
  obtain ⟨len, hl⟩ : ∃ n, n = bs.length := ⟨_, rfl⟩
  have HL := hid hl
  rw [← hl] at HTK ⊢
  obtain ⟨l, hll⟩ : ∃ l, l = (toksL bs).map toZ := ⟨_, rfl⟩
  have HLL := hid hll
  rw [← hll] at HTS ⊢
  clear hl hll hO
  generalize hE : (if (packB l).length < len then codB 1 len (packB l) else codB 0 len bs) = E
  have HE := hid hE
  clear hE
  go_enter Try.func7, Try.ntmps7
  go_wp2_with fail
  refine HTK.out.mono ?_
  rintro _ w1 ⟨v, rfl, ho, hb⟩
  obtain ⟨a1, c1, rfl, hrt⟩ := Rt.own ho HFT.out
  have HB1 := hid hb
  rw [← HLL.out] at hrt
  have HRT := hid hrt
  have e1 : (toksL bs).length = l.length := by rw [HLL.out, List.length_map]
  have HPK := hid (pack_any a1 c1 l w1 hrt (by have := HTS.out.1; have := HN.out; omega))
  unfold PkPost at HPK
  rw [HTS.out.2] at HPK
  dsimp only
  rw [e1]
  clear hb hrt ho e1 HTK HFT
  generalize l.length = ll at *
  go_wp2_with fail
  refine HPK.out.mono ?_
  rintro _ w2 ⟨hb, hp⟩
  rw [if_pos trivial] at hp
  obtain ⟨a2, c2, rfl, hri⟩ := hp
  have HB2 := hid (Bn HB1.out hb)
  have HRI := hid hri
  have HR2 := hid ((HR.out.later HB1.out).later hb)
  clear hb hri HPK
  obtain ⟨pl, hpl⟩ : ∃ n, n = (packB l).length := ⟨_, rfl⟩
  have HPL := hid hpl
  rw [← hpl]
  clear hpl
  have hv10 : (vint (len : Int)).length ≤ 10 := by have := vint_short (len : Int) (by omega) (by have := HN.out; have := HL.out; omega); omega
  have HV := hid hv10
  clear hv10
  by_cases hlt : pl < len
  · have hlz : (pl : Int) < (len : Int) := by omega
    have HC := hid (coded_word 1 len a2 c2 (packB l) w2 HRI.out (by decide) (by have := HN.out; have := HL.out; omega) (by have := HN.out; have := HL.out; have := HPL.out; omega) HV.out)
    rw [← HPL.out] at HC
    simp only [Int.natCast_one] at HC
    have HE1 : Hid (E = codB 1 len (packB l)) := by show _ = _; rw [← HE.out, if_pos (by rw [← HPL.out]; exact hlt)]
    go_wp2_with fail
    refine HC.out.mono ?_
    rintro _ w3 ⟨v, rfl, ho, hb⟩
    obtain ⟨a3, c3, rfl, h3⟩ := Ri.own ho (fun j => by
      have := codB_u8 1 len (packB l) (by decide) (by have := HN.out; have := HL.out; omega) (fun j => wf_u8 (HRI.out.fits j)) j
      exact wf_mk_u8 this.1 this.2)
    have HB3 := hid (Bn HB2.out hb)
    have H3 := hid h3
    clear hb h3 ho HC
    generalize (codB 1 len (packB l)) = R at *
    obtain ⟨rl, hrl⟩ : ∃ n, n = R.length := ⟨_, rfl⟩
    have HRL := hid hrl
    rw [← hrl]
    clear hrl
    go_wp2_with fail
    go_ret2
    exact ⟨HB3.out, a3, c3, by rw [HE1.out, ← HRL.out]; rfl, by rw [HE1.out]; exact H3.out⟩
  · have hlz : ¬ (pl : Int) < (len : Int) := by omega
    have HC := hid (coded_word 0 len a cap bs w2 HR2.out (by decide) (by have := HN.out; have := HL.out; omega) (by have := HN.out; omega) HV.out)
    rw [← HL.out] at HC
    simp only [Int.natCast_zero] at HC
    have HE1 : Hid (E = codB 0 len bs) := by show _ = _; rw [← HE.out, if_neg (by rw [← HPL.out]; exact hlt)]
    go_wp2_with fail
    refine HC.out.mono ?_
    rintro _ w3 ⟨v, rfl, ho, hb⟩
    obtain ⟨a3, c3, rfl, h3⟩ := Ri.own ho (fun j => by
      have := codB_u8 0 len bs (by decide) (by have := HN.out; have := HL.out; omega) HU.out j
      exact wf_mk_u8 this.1 this.2)
    have HB3 := hid (Bn HB2.out hb)
    have H3 := hid h3
    clear hb h3 ho HC
    generalize (codB 0 len bs) = R at *
    obtain ⟨rl, hrl⟩ : ∃ n, n = R.length := ⟨_, rfl⟩
    have HRL := hid hrl
    rw [← hrl]
    clear hrl
    go_wp2_with fail
    go_ret2
    exact ⟨HB3.out, a3, c3, by rw [HE1.out, ← HRL.out]; rfl, by rw [HE1.out]; exact H3.out⟩
end Go.Proofs.Ytelnefngkdfcoaa
/-
  What alive meets: rows of zeros, two rows and their codes.
-/
namespace Go.Proofs.Ytelnefngkdfcoaa
open Go.RowKit Hf Lz

theorem mk_run (n : Nat) (hn : n ≤ 1000000) (w : World) : (Instr.makeSlice 23 (.int .i64 (n : Int)) (.int .i64 (n : Int))).run Try.prog w = .ok (.slice (some ⟨w.heap.size, 0, none⟩) n n) (w.alloc (.cells (madeCells #[.int .u8 0] n) 5)) := by
  obtain ⟨i0, hi, hi0, hi1, hi2⟩ := info_parts Try.info5W
  have h := run_make (P := Try.prog) w 23 5 i0 (.int .u8 0) Try.underlying23 hi hi0 .i64 .i64 (n : Int) (n : Int) (by omega) (by omega) (by rw [hi2]; omega) (by omega)
  rw [Int.toNat_natCast, hi1, Nat.mul_one] at h
  exact h
theorem made_ri (w : World) (n : Nat) (hn : n ≤ 1000000) : Ri (w.alloc (.cells (madeCells #[.int .u8 0] n) 5)) .u8 (some ⟨w.heap.size, 0, none⟩) n (List.replicate n 0) := by
  refine ⟨by rw [List.length_replicate]; exact Nat.le_refl _, by unfold maxLen; omega, fun _ => ⟨w.heap.size, 0, rfl, by simp, fun j hj => ?_⟩, fun j => ?_⟩
  · rw [List.length_replicate] at hj
    rw [Nat.zero_add, Joins.cell_of_block (heap_newZ w _) j]
    simp [madeCells, hj, Nat.mod_one, List.getD]
  · have : (List.replicate n (0 : Int)).getD j 0 = 0 := by
      simp only [List.getD, List.getElem?_replicate]
      split <;> rfl
    rw [this]; exact wf_zero _
theorem enc_len (bs : List Int) (hn : bs.length ≤ 1000) : (encB bs).length ≤ bs.length + 3 := by
  have hv := vint_short (bs.length : Int) (by omega) (by omega)
  unfold encB codB
  split <;> simp only [List.length_append, List.length_singleton] <;> omega
/-- Decode of what Encode told. -/
theorem dec_enc (bs : List Int) (h8 : Bytes8 bs) (hn : bs.length ≤ 990) (W : World) (a : Option Addr) (c : Nat) (hW : Ri W .u8 a c (encB bs)) :
    Calls Try.prog 8 #[.slice a (encB bs).length c] W fun e w' => Below W.heap.size W w' ∧ ∃ a c, e = .returned (.tuple #[.slice a bs.length c, .int .i64 0]) ∧ Ri w' .u8 a c bs := by
  have hl := enc_len bs (by omega)
  refine Calls.mono (decode_word a c (encB bs) W hW (by omega)) ?_
  rintro e w' ⟨h1, h2⟩
  rw [row_enc bs h8 (by omega)] at h2
  exact ⟨h1, h2⟩
def z100 : List Int := List.replicate 100 0
def ab2 : List Int := [97, 98]
theorem ab_enc : encB ab2 = [0, 2, 97, 98] := by decide +kernel
theorem z_enc : (encB z100).length < 60 ∧ (encB z100).getD 0 0 = 1 := by decide +kernel
theorem ab_str : strOfNums [0, 2, 97, 98] = ⟨#[0, 2, 97, 98]⟩ := by decide +kernel
theorem z_8 : Bytes8 z100 := fun j => (made_ri default 100 (by omega)).fits j
end Go.Proofs.Ytelnefngkdfcoaa
/-
  The contract of the statements' alive.
-/
namespace Go.Proofs.Ytelnefngkdfcoaa
open Go.RowKit Hf Lz

set_option maxHeartbeats 6400000 in
set_option maxRecDepth 100000 in
theorem alive_any (w : World) : Calls Try.prog 10 #[] w fun e w' => e = .returned (.bool true) ∧ Below w.heap.size w w' := by
  have HE1 := hid (cenc_word (some ⟨w.heap.size, 0, none⟩) 2 ab2 _ (lit_ri w ab2 (2, 3) 2 rfl (by omega) (by decide)) (by decide))
  unfold CncPost at HE1
  rw [ab_enc] at HE1
  have HE1' : Hid (Calls Try.prog 7 #[.slice (some ⟨w.heap.size, 0, none⟩) 2 2] (w.alloc (.cells #[.int .u8 97, .int .u8 98] 5 (2, 3))) fun e w' => Below w.heap.size w w' ∧ ∃ a c, e = .returned (.tuple #[.slice a 4 c, .int .i64 0]) ∧ Ri w' .u8 a c [0, 2, 97, 98]) := by
    refine Calls.mono HE1.out ?_
    rintro e w' ⟨h1, h2⟩
    exact ⟨Bn (bel_alloc w _) h1, h2⟩
  have HE2 : Hid (∀ W, Calls Try.prog 7 #[.slice (some ⟨W.heap.size, 0, none⟩) 100 100] (W.alloc (.cells (madeCells #[.int .u8 0] 100) 5)) fun e w' => Below W.heap.size W w' ∧ ∃ a c, e = .returned (.tuple #[.slice a (encB z100).length c, .int .i64 0]) ∧ Ri w' .u8 a c (encB z100)) := fun W => by
    refine Calls.mono (cenc_word (some ⟨W.heap.size, 0, none⟩) 100 z100 _ (made_ri W 100 (by omega)) (by decide)) ?_
    rintro e w' ⟨h1, h2⟩
    exact ⟨Bn (bel_alloc W _) h1, h2⟩
  have hmk : ∀ w : World, (Instr.makeSlice 23 (.int .i64 100) (.int .i64 100)).run Try.prog w = .ok (.slice (some ⟨w.heap.size, 0, none⟩) 100 100) (w.alloc (.cells (madeCells #[.int .u8 0] 100) 5)) := fun w => mk_run 100 (by omega) w
  have HMK := hid hmk
  have HZ := hid z_enc
  have HDC : Hid (∀ W a c, Ri W .u8 a c (encB z100) → Calls Try.prog 8 #[.slice a (encB z100).length c] W fun e w' => Below W.heap.size W w' ∧ ∃ a c, e = .returned (.tuple #[.slice a 100 c, .int .i64 0]) ∧ Ri w' .u8 a c z100) := fun W a c hW => dec_enc z100 z_8 (by decide) W a c hW
  have kc := Lib.run_convert_bytes_const (P := Try.prog) w 23 5 #[.int .u8 97, .int .u8 98] 2 2 Try.underlying23 Try.underlying5
  simp only [List.size_toArray, List.length_cons, List.length_nil, Nat.reduceAdd] at kc
  clear HE1 hmk
  go_enter Try.func10, Try.ntmps10
  go_wp2_with fail
  refine HE1'.out.mono ?_
  rintro _ w1 ⟨hb1, a1, c1, rfl, hr1⟩
  have HB1 := hid hb1
  have HR1 := hid hr1
  clear hb1 hr1 HE1' kc
  have hmk1 := HMK.out w1
  go_wp2_with fail
  refine (HE2.out w1).mono ?_
  rintro _ w2 ⟨hb2, a2, c2, rfl, hr2⟩
  have HB2 := hid hb2
  have HR2 := hid hr2
  have HD := hid (HDC.out w2 a2 c2 hr2)
  clear hb2 hr2 hmk1 HE2 HDC
  generalize hlb : (encB z100).length = lb at *
  have HLB := hid hlb
  clear hlb
  go_wp2_with fail
  refine HD.out.mono ?_
  rintro _ w3 ⟨hb3, a3, c3, rfl, hr3⟩
  have hpos : 0 < (encB z100).length := by
    have h2 := HZ.out.2
    rcases Nat.eq_zero_or_pos (encB z100).length with h | h
    · rw [List.eq_nil_of_length_eq_zero h] at h2
      simp at h2
    · exact h
  obtain ⟨gb, ob, rfl, hgb, hcb⟩ := HR2.out.cells hpos
  have hl0 : lb < 60 := HZ.out.1
  have hlp : 0 < lb := by
    have h2 := HZ.out.2
    rcases Nat.eq_zero_or_pos lb with h | h
    · have h3 := HLB.out
      rw [h] at h3
      rw [List.eq_nil_of_length_eq_zero h3] at h2
      simp at h2
    · exact h
  have c0 := hcb 0 (by rw [HLB.out]; exact hlp)
  rw [HZ.out.2, Nat.add_zero] at c0
  have ht1 := HR1.out.later HB2.out
  have ht1' := ht1.later hb3
  have HA : Hid (∀ W, Below w3.heap.size w3 W → (convert 23 9 (.slice a1 4 c1)).run Try.prog W = .ok (.string ⟨#[0, 2, 97, 98]⟩) W) := fun W hW => by
    have := ht1'.text W hW
    rw [ab_str] at this
    exact this
  have HC : Hid (∀ W, Below w3.heap.size w3 W → W.cell? ⟨gb, ob, none⟩ = some (.int .u8 1)) := fun W hW =>
    (hW.cell (p := ⟨gb, ob, none⟩) (Nat.lt_of_lt_of_le hgb hb3.size)).trans ((hb3.cell (p := ⟨gb, ob, none⟩) hgb).trans c0)
  have HD3 : Hid (∀ W, Below w3.heap.size w3 W → (convert 23 9 (.slice a3 100 c3)).run Try.prog W = .ok (.string (strOfNums z100)) W) := fun W hW => hr3.text W hW
  have HB3 := hid (Bn (Bn HB1.out HB2.out) hb3)
  have hlz : (lb : Int) < 60 := by omega
  have hln : ¬ (lb : Int) ≤ 0 := by omega
  have hlq : (0 : Int) < (lb : Int) := by omega
  clear hcb c0 ht1 ht1' hb3 hr3 hgb HD HR1 HR2 HLB HZ HB1 HB2 hl0
  go_wp2_with fail
  refine wp_region_held_drew (S := fun W => Below w3.heap.size w3 W) (by kernel_rfl) (Below.refl _ _).drew (fun hS => ?_)
  refine Ord.take (i := 0) (d := 23) (v := ?v0) rfl rfl (by as_aux_lemma => kernel_rfl) (by as_aux_lemma => kernel_rfl) (by as_aux_lemma => kernel_rfl) (fun _ _ _ h => h) (by rfl) ?h0 (by assumption) ?_
  case h0 => intro w hSw; go_simp; try with_reducible rfl
  simp only [List.setIfInBounds_toArray, List.set_cons_zero, List.set_cons_succ]
  refine Ord.take (i := 1) (d := 24) (v := ?v1) rfl rfl (by as_aux_lemma => kernel_rfl) (by as_aux_lemma => kernel_rfl) (by as_aux_lemma => kernel_rfl) (fun _ _ _ h => h) (by rfl) ?h1 (by assumption) ?_
  case h1 => intro w hSw; go_simp; try with_reducible rfl
  simp only [List.setIfInBounds_toArray, List.set_cons_zero, List.set_cons_succ]
  refine Ord.take (i := 2) (d := 25) (v := ?v2) rfl rfl (by as_aux_lemma => kernel_rfl) (by as_aux_lemma => kernel_rfl) (by as_aux_lemma => kernel_rfl) (fun _ _ _ h => h) (by rfl) ?h2 (by assumption) ?_
  case h2 => intro w hSw; go_simp; try with_reducible rfl
  simp only [List.setIfInBounds_toArray, List.set_cons_zero, List.set_cons_succ]
  refine Ord.take (i := 3) (d := 26) (v := ?v3) rfl rfl (by as_aux_lemma => kernel_rfl) (by as_aux_lemma => kernel_rfl) (by as_aux_lemma => kernel_rfl) (fun _ _ _ h => h) (by rfl) ?h3 (by assumption) ?_
  case h3 => intro w hSw; go_simp; try with_reducible rfl
  simp only [List.setIfInBounds_toArray, List.set_cons_zero, List.set_cons_succ]
  refine Ord.take (i := 4) (d := 27) (v := ?v4) rfl rfl (by as_aux_lemma => kernel_rfl) (by as_aux_lemma => kernel_rfl) (by as_aux_lemma => kernel_rfl) (fun _ _ _ h => h) (by rfl) ?h4 (by assumption) ?_
  case h4 => intro w hSw; go_simp; try with_reducible rfl
  simp only [List.setIfInBounds_toArray, List.set_cons_zero, List.set_cons_succ]
  refine Ord.take (i := 5) (d := 28) (v := ?v5) rfl rfl (by as_aux_lemma => kernel_rfl) (by as_aux_lemma => kernel_rfl) (by as_aux_lemma => kernel_rfl) (fun _ _ _ h => h) (by rfl) ?h5 (by assumption) ?_
  case h5 => intro w hSw; go_simp; try with_reducible rfl
  simp only [List.setIfInBounds_toArray, List.set_cons_zero, List.set_cons_succ]
  refine Ord.take (i := 6) (d := 29) (v := ?v6) rfl rfl (by as_aux_lemma => kernel_rfl) (by as_aux_lemma => kernel_rfl) (by as_aux_lemma => kernel_rfl) (fun _ _ _ h => h) (by rfl) ?h6 (by assumption) ?_
  case h6 => intro w hSw; go_simp; try with_reducible rfl
  simp only [List.setIfInBounds_toArray, List.set_cons_zero, List.set_cons_succ]
  refine Ord.take (i := 7) (d := 30) (v := ?v7) rfl rfl (by as_aux_lemma => kernel_rfl) (by as_aux_lemma => kernel_rfl) (by as_aux_lemma => kernel_rfl) (fun _ _ _ h => h) (by rfl) ?h7 (by assumption) ?_
  case h7 => intro w hSw; go_simp; try with_reducible rfl
  simp only [List.setIfInBounds_toArray, List.set_cons_zero, List.set_cons_succ]
  refine Ord.take (i := 8) (d := 31) (v := ?v8) rfl rfl (by as_aux_lemma => kernel_rfl) (by as_aux_lemma => kernel_rfl) (by as_aux_lemma => kernel_rfl) (fun _ _ _ h => h) (by rfl) ?h8 (by assumption) ?_
  case h8 => intro w hSw; go_simp; try with_reducible rfl
  simp only [List.setIfInBounds_toArray, List.set_cons_zero, List.set_cons_succ]
  refine Ord.take (i := 9) (d := 32) (v := ?v9) rfl rfl (by as_aux_lemma => kernel_rfl) (by as_aux_lemma => kernel_rfl) (by as_aux_lemma => kernel_rfl) (fun _ _ _ h => h) (by rfl) ?h9 (by assumption) ?_
  case h9 => intro w hSw; go_simp; try with_reducible rfl
  simp only [List.setIfInBounds_toArray, List.set_cons_zero, List.set_cons_succ]
  refine Ord.take (i := 10) (d := 33) (v := ?v10) rfl rfl (by as_aux_lemma => kernel_rfl) (by as_aux_lemma => kernel_rfl) (by as_aux_lemma => kernel_rfl) (fun _ _ _ h => h) (by rfl) ?h10 (by assumption) ?_
  case h10 => intro w hSw; go_simp; try with_reducible rfl
  simp only [List.setIfInBounds_toArray, List.set_cons_zero, List.set_cons_succ]
  refine Ord.take (i := 11) (d := 34) (v := ?v11) rfl rfl (by as_aux_lemma => kernel_rfl) (by as_aux_lemma => kernel_rfl) (by as_aux_lemma => kernel_rfl) (fun _ _ _ h => h) (by rfl) ?h11 (by assumption) ?_
  case h11 => intro w hSw; go_simp; try with_reducible rfl
  simp only [List.setIfInBounds_toArray, List.set_cons_zero, List.set_cons_succ]
  refine Ord.take (i := 12) (d := 35) (v := ?v12) rfl rfl (by as_aux_lemma => kernel_rfl) (by as_aux_lemma => kernel_rfl) (by as_aux_lemma => kernel_rfl) (fun _ _ _ h => h) (by rfl) ?h12 (by assumption) ?_
  case h12 => intro w hSw; have q := HA.out w hSw; go_simp; try with_reducible rfl
  simp only [List.setIfInBounds_toArray, List.set_cons_zero, List.set_cons_succ]
  refine Ord.take (i := 13) (d := 36) (v := ?v13) rfl rfl (by as_aux_lemma => kernel_rfl) (by as_aux_lemma => kernel_rfl) (by as_aux_lemma => kernel_rfl) (fun _ _ _ h => h) (by rfl) ?h13 (by assumption) ?_
  case h13 => intro w hSw; go_simp; try with_reducible rfl
  simp only [List.setIfInBounds_toArray, List.set_cons_zero, List.set_cons_succ]
  refine Ord.take (i := 14) (d := 37) (v := ?v14) rfl rfl (by as_aux_lemma => kernel_rfl) (by as_aux_lemma => kernel_rfl) (by as_aux_lemma => kernel_rfl) (fun _ _ _ h => h) (by rfl) ?h14 (by assumption) ?_
  case h14 => intro w hSw; go_simp; try with_reducible rfl
  simp only [List.setIfInBounds_toArray, List.set_cons_zero, List.set_cons_succ]
  refine Ord.take (i := 15) (d := 38) (v := ?v15) rfl rfl (by as_aux_lemma => kernel_rfl) (by as_aux_lemma => kernel_rfl) (by as_aux_lemma => kernel_rfl) (fun _ _ _ h => h) (by rfl) ?h15 (by assumption) ?_
  case h15 => intro w hSw; go_simp; try with_reducible rfl
  simp only [List.setIfInBounds_toArray, List.set_cons_zero, List.set_cons_succ]
  refine Ord.take (i := 16) (d := 39) (v := ?v16) rfl rfl (by as_aux_lemma => kernel_rfl) (by as_aux_lemma => kernel_rfl) (by as_aux_lemma => kernel_rfl) (fun _ _ _ h => h) (by rfl) ?h16 (by assumption) ?_
  case h16 => intro w hSw; go_simp; try with_reducible rfl
  simp only [List.setIfInBounds_toArray, List.set_cons_zero, List.set_cons_succ]
  refine Ord.take (i := 17) (d := 40) (v := ?v17) rfl rfl (by as_aux_lemma => kernel_rfl) (by as_aux_lemma => kernel_rfl) (by as_aux_lemma => kernel_rfl) (fun _ _ _ h => h) (by rfl) ?h17 (by assumption) ?_
  case h17 => intro w hSw; go_simp; try with_reducible rfl
  simp only [List.setIfInBounds_toArray, List.set_cons_zero, List.set_cons_succ]
  refine Ord.take (i := 18) (d := 41) (v := ?v18) rfl rfl (by as_aux_lemma => kernel_rfl) (by as_aux_lemma => kernel_rfl) (by as_aux_lemma => kernel_rfl) (fun _ _ _ h => h) (by rfl) ?h18 (by assumption) ?_
  case h18 => intro w hSw; go_simp; try with_reducible rfl
  simp only [List.setIfInBounds_toArray, List.set_cons_zero, List.set_cons_succ]
  refine Ord.take (i := 19) (d := 42) (v := ?v19) rfl rfl (by as_aux_lemma => kernel_rfl) (by as_aux_lemma => kernel_rfl) (by as_aux_lemma => kernel_rfl) (fun _ _ _ h => h) (by rfl) ?h19 (by assumption) ?_
  case h19 => intro w hSw; go_simp; try with_reducible rfl
  simp only [List.setIfInBounds_toArray, List.set_cons_zero, List.set_cons_succ]
  refine Ord.take (i := 20) (d := 43) (v := ?v20) rfl rfl (by as_aux_lemma => kernel_rfl) (by as_aux_lemma => kernel_rfl) (by as_aux_lemma => kernel_rfl) (fun _ _ _ h => h) (by rfl) ?h20 (by assumption) ?_
  case h20 => intro w hSw; go_simp; try with_reducible rfl
  simp only [List.setIfInBounds_toArray, List.set_cons_zero, List.set_cons_succ]
  refine Ord.take (i := 21) (d := 44) (v := ?v21) rfl rfl (by as_aux_lemma => kernel_rfl) (by as_aux_lemma => kernel_rfl) (by as_aux_lemma => kernel_rfl) (fun _ _ _ h => h) (by rfl) ?h21 (by assumption) ?_
  case h21 => intro w hSw; go_simp; try with_reducible rfl
  simp only [List.setIfInBounds_toArray, List.set_cons_zero, List.set_cons_succ]
  refine Ord.take (i := 22) (d := 45) (v := ?v22) rfl rfl (by as_aux_lemma => kernel_rfl) (by as_aux_lemma => kernel_rfl) (by as_aux_lemma => kernel_rfl) (fun _ _ _ h => h) (by rfl) ?h22 (by assumption) ?_
  case h22 => intro w hSw; go_simp; try with_reducible rfl
  simp only [List.setIfInBounds_toArray, List.set_cons_zero, List.set_cons_succ]
  refine Ord.take (i := 23) (d := 46) (v := ?v23) rfl rfl (by as_aux_lemma => kernel_rfl) (by as_aux_lemma => kernel_rfl) (by as_aux_lemma => kernel_rfl) (fun _ _ _ h => h) (by rfl) ?h23 (by assumption) ?_
  case h23 => intro w hSw; have q := HC.out w hSw; go_simp; try with_reducible rfl
  simp only [List.setIfInBounds_toArray, List.set_cons_zero, List.set_cons_succ]
  refine Ord.take (i := 24) (d := 47) (v := ?v24) rfl rfl (by as_aux_lemma => kernel_rfl) (by as_aux_lemma => kernel_rfl) (by as_aux_lemma => kernel_rfl) (fun _ _ _ h => h) (by rfl) ?h24 (by assumption) ?_
  case h24 => intro w hSw; go_simp; try with_reducible rfl
  simp only [List.setIfInBounds_toArray, List.set_cons_zero, List.set_cons_succ]
  refine Ord.take (i := 25) (d := 48) (v := ?v25) rfl rfl (by as_aux_lemma => kernel_rfl) (by as_aux_lemma => kernel_rfl) (by as_aux_lemma => kernel_rfl) (fun _ _ _ h => h) (by rfl) ?h25 (by assumption) ?_
  case h25 => intro w hSw; go_simp; try with_reducible rfl
  simp only [List.setIfInBounds_toArray, List.set_cons_zero, List.set_cons_succ]
  refine Ord.take (i := 26) (d := 49) (v := ?v26) rfl rfl (by as_aux_lemma => kernel_rfl) (by as_aux_lemma => kernel_rfl) (by as_aux_lemma => kernel_rfl) (fun _ _ _ h => h) (by rfl) ?h26 (by assumption) ?_
  case h26 => intro w hSw; go_simp; try with_reducible rfl
  simp only [List.setIfInBounds_toArray, List.set_cons_zero, List.set_cons_succ]
  refine Ord.take (i := 27) (d := 50) (v := ?v27) rfl rfl (by as_aux_lemma => kernel_rfl) (by as_aux_lemma => kernel_rfl) (by as_aux_lemma => kernel_rfl) (fun _ _ _ h => h) (by rfl) ?h27 (by assumption) ?_
  case h27 => intro w hSw; go_simp; try with_reducible rfl
  simp only [List.setIfInBounds_toArray, List.set_cons_zero, List.set_cons_succ]
  refine Ord.take (i := 28) (d := 51) (v := ?v28) rfl rfl (by as_aux_lemma => kernel_rfl) (by as_aux_lemma => kernel_rfl) (by as_aux_lemma => kernel_rfl) (fun _ _ _ h => h) (by rfl) ?h28 (by assumption) ?_
  case h28 => intro w hSw; have q := HD3.out w hSw; go_simp; try with_reducible rfl
  simp only [List.setIfInBounds_toArray, List.set_cons_zero, List.set_cons_succ]
  have hmk := HMK.out w3.drew
  refine wpAnyH_ready (rs := [29]) (by as_aux_lemma => kernel_rfl) (by simp) (AllReadyH.cons rfl (fun K hK => ?_) AllReadyH.nil)
  go_simp
  have hb4 : Below w3.heap.size w3 (w3.alloc (.cells (madeCells #[.int .u8 0] 100) 5)).drew := (bel_alloc w3 _).drew
  have HT : Hid (∀ W, Below (w3.heap.size + 1) (w3.alloc (.cells (madeCells #[.int .u8 0] 100) 5)).drew W → (convert 23 9 (.slice (some ⟨w3.heap.size, 0, none⟩) 100 100)).run Try.prog W = .ok (.string (strOfNums z100)) W) := fun W hW => by
    have h := (made_ri w3 100 (by omega)).later (Below.refl _ _).drew
    refine h.text W ?_
    rw [show (w3.alloc (.cells (madeCells #[.int .u8 0] 100) 5)).drew.heap.size = w3.heap.size + 1 from by simp [World.drew]]
    exact hW
  refine hK.out _ _ hb4 (fun _ => ?_)
  clear hK K hS hmk HMK HA HC HD3
  have hS : Below (w3.heap.size + 1) (w3.alloc (.cells (madeCells #[.int .u8 0] 100) 5)).drew (w3.alloc (.cells (madeCells #[.int .u8 0] 100) 5)).drew := Below.refl _ _
  have HB4 := hid (Bn HB3.out hb4)
  refine Ord.more (S' := fun W => Below (w3.heap.size + 1) (w3.alloc (.cells (madeCells #[.int .u8 0] 100) 5)).drew W) (fun W hW => hb4.trans (hW.mono (by omega))) _ _ _ _ ?_
  clear hb4
  generalize (w3.alloc (.cells (madeCells #[.int .u8 0] 100) 5)).drew = w4 at *
  refine Ord.take (i := 30) (d := 53) (v := ?v30) rfl rfl (by as_aux_lemma => kernel_rfl) (by as_aux_lemma => kernel_rfl) (by as_aux_lemma => kernel_rfl) (fun _ _ _ h => h) (by rfl) ?h30 (by assumption) ?_
  case h30 => intro w hSw; have q := HT.out w hSw; go_simp; try with_reducible rfl
  simp only [List.setIfInBounds_toArray, List.set_cons_zero, List.set_cons_succ]
  refine Ord.take (i := 31) (d := 54) (v := ?v31) rfl rfl (by as_aux_lemma => kernel_rfl) (by as_aux_lemma => kernel_rfl) (by as_aux_lemma => kernel_rfl) (fun _ _ _ h => h) (by rfl) ?h31 (by assumption) ?_
  case h31 => intro w hSw; go_simp; try with_reducible rfl
  simp only [List.setIfInBounds_toArray, List.set_cons_zero, List.set_cons_succ]
  refine Ord.take (i := 32) (d := 55) (v := ?v32) rfl rfl (by as_aux_lemma => kernel_rfl) (by as_aux_lemma => kernel_rfl) (by as_aux_lemma => kernel_rfl) (fun _ _ _ h => h) (by rfl) ?h32 (by assumption) ?_
  case h32 => intro w hSw; go_simp; try with_reducible rfl
  simp only [List.setIfInBounds_toArray, List.set_cons_zero, List.set_cons_succ]
  refine Ord.take (i := 33) (d := 0) (v := ?v33) rfl rfl (by as_aux_lemma => kernel_rfl) (by as_aux_lemma => kernel_rfl) (by as_aux_lemma => kernel_rfl) (fun _ _ _ h => h) (by rfl) ?h33 (by assumption) ?_
  case h33 => intro w hSw; go_simp; try with_reducible rfl
  simp only [List.setIfInBounds_toArray, List.set_cons_zero]
  refine wpAnyH_done (by as_aux_lemma => kernel_rfl) ?_ _
  go_wp2_with fail
  go_ret
  exact ⟨rfl, HB4.out⟩
end Go.Proofs.Ytelnefngkdfcoaa
/-
  How long packed tokens are; Unpack of what Pack told.
-/
namespace Go.Proofs.Ytelnefngkdfcoaa
open Hf Lz Go.RowKit

def nzc (zs : List Int) : Nat := zs.countP (fun z => z != 0)
theorem runN_drop_ne (z : Int) (l : List Int) : ∀ y r, l.drop (runN z l) = y :: r → y ≠ z := by
  intro y r h
  have h1 : l.drop (runN z l) = l.dropWhile (· == z) := by
    have e := List.takeWhile_append_dropWhile (p := (· == z)) (l := l)
    have h2 := List.drop_left (l₁ := l.takeWhile (· == z)) (l₂ := l.dropWhile (· == z))
    rw [e] at h2
    exact h2
  rw [h1] at h
  intro hy
  have h2 := List.head?_dropWhile_not (fun x => x == z) l
  rw [h] at h2
  simp [hy] at h2
theorem runsF_nz : ∀ (f : Nat) (zs : List Int), zs.length ≤ 1000 → (runsF f zs).length ≤ 6 * nzc zs + (if zs.head? = some 0 then 3 else 0)
  | 0, _, _ => by simp [runsF]
  | f + 1, [], _ => by simp [runsF]
  | f + 1, z :: l, hl => by
    rw [List.length_cons] at hl
    have hd : (l.drop (runN z l)).length ≤ 1000 := by rw [List.length_drop]; omega
    have ih := runsF_nz f (l.drop (runN z l)) hd
    have hr : runN z l ≤ l.length := by unfold runN; exact (List.takeWhile_sublist _).length_le
    have hv := vint_short ((runN z l + 1 : Nat) : Int) (by omega) (by omega)
    have hn : nzc (l.drop (runN z l)) ≤ nzc l := (List.drop_sublist _ _).countP_le
    have hne := runN_drop_ne z l
    rw [runsF, List.length_cons, List.length_append]
    have hz : nzc (z :: l) = nzc l + (if z = 0 then 0 else 1) := by
      unfold nzc
      rw [List.countP_cons]
      by_cases h : z = 0 <;> simp [h]
    rw [hz]
    by_cases h : z = 0
    · subst h
      have h0 : (l.drop (runN 0 l)).head? ≠ some 0 := by
        intro e
        cases hx : l.drop (runN 0 l) with
        | nil => rw [hx] at e; cases e
        | cons y r =>
          rw [hx] at e
          exact hne y r hx (by simpa using e)
      rw [if_neg h0] at ih
      simp only [List.head?_cons, if_true]
      omega
    · rw [if_neg h]
      have : (if (l.drop (runN z l)).head? = some 0 then 3 else 0) ≤ 3 := by split <;> omega
      omega
theorem runs_nz (zs : List Int) (h : zs.length ≤ 1000) : (runsL zs).length ≤ 6 * nzc zs + 3 := by
  have h1 := runsF_nz zs.length zs h
  have : (if zs.head? = some 0 then 3 else 0) ≤ 3 := by split <;> omega
  unfold runsL; omega
theorem nz_set (l : List Nat) (i v : Nat) : (l.set i v).countP (fun z => z != 0) ≤ l.countP (fun z => z != 0) + 1 := by
  induction l generalizing i with
  | nil => simp
  | cons a l ih =>
    cases i with
    | zero =>
      rw [List.set_cons_zero, List.countP_cons, List.countP_cons]
      split <;> split <;> omega
    | succ i =>
      have := ih i
      rw [List.set_cons_succ, List.countP_cons, List.countP_cons]
      omega
theorem kinds_nz (l : List Tkz) : ∀ k, (kindsN l k).countP (fun z => z != 0) ≤ k
  | 0 => by rw [kindsN, List.countP_replicate, if_neg (by decide)]; exact Nat.le_refl 0
  | k + 1 => by
    rw [kindsN]
    unfold upL
    exact Nat.le_trans (nz_set _ _ _) (Nat.succ_le_succ (kinds_nz l k))
/-- Where a list has no number but 0, another of its length has none either: it counts fewer. -/
theorem count_le : ∀ (a b : List Int), a.length = b.length → (∀ u, u < a.length → b.getD u 0 = 0 → a.getD u 0 = 0) → nzc a ≤ nzc b
  | [], [], _, _ => Nat.le_refl _
  | [], _ :: _, h, _ => by simp at h
  | _ :: _, [], h, _ => by simp at h
  | x :: a, y :: b, h, k => by
    have ih := count_le a b (by simpa using h) (fun u hu e => by
      have := k (u + 1) (by simpa using hu)
      rw [List.getD_cons_succ, List.getD_cons_succ] at this
      exact this e)
    have h0 := k 0 (by simp)
    rw [List.getD_cons_zero, List.getD_cons_zero] at h0
    unfold nzc at ih ⊢
    rw [List.countP_cons, List.countP_cons]
    by_cases hy : y = 0
    · rw [h0 hy, hy]; simpa using ih
    · have : (if (y != 0) = true then 1 else 0) = 1 := by simp [hy]
      rw [this]
      split <;> omega
theorem flats_zero (cs : List Int) (u : Nat) : ∀ j, cs.getD u 0 = 0 → (flats cs j).getD u 0 = 0
  | 0, h => h
  | j + 1, h => by
    have ih := flats_zero cs u j h
    rw [flats]
    rw [List.getD_eq_getElem?_getD] at ih ⊢
    rw [List.getElem?_map]
    cases hx : (flats cs j)[u]? with
    | none => rfl
    | some y =>
      rw [hx] at ih
      simp only [Option.getD_some, Option.map_some] at ih ⊢
      rw [ih]; rfl
theorem lenF_zero {cs : List Int} (hn : cs.length ≤ 512) (hc : ∀ k, 0 ≤ cs.getD k 0 ∧ cs.getD k 0 ≤ 1073741824) (u : Nat) (hu : u < cs.length) (h0 : cs.getD u 0 = 0) : (lenF cs).getD u 0 = 0 := by
  obtain ⟨k, h1, h2⟩ := flats_some cs hn hc
  rw [← lenF_eq hn hc h1 h2]
  have h5 := flats_zero cs u k h0
  rcases dep_cases (flats cs k) (flats_rng hc k) u (by rw [flats_length]; exact hu) with ⟨_, h⟩ | ⟨h, _⟩
  · exact h
  · omega
theorem ls_nz (l : List Tkz) (hn : l.length ≤ 10000) : nzc (lsF l) ≤ l.length := by
  have a1 := (codes_all l hn).1
  have hcs : ∀ k, 0 ≤ (intL (kindsN l l.length)).getD k 0 ∧ (intL (kindsN l l.length)).getD k 0 ≤ 1073741824 := fun k => by rw [intL_getD]; have := kinds_le l l.length k; omega
  refine Nat.le_trans (count_le (lsF l) (intL (kindsN l l.length)) (by rw [a1, intL_length, kinds_length]) (fun u hu e => ?_)) ?_
  · exact lenF_zero (by rw [intL_length, kinds_length]; decide) hcs u (by rw [intL_length, kinds_length]; omega) e
  · refine Nat.le_trans (Nat.le_of_eq ?_) (kinds_nz l l.length)
    unfold nzc intL
    rw [List.countP_map]
    congr 1
    funext n
    show ((n : Int) != 0) = (n != 0)
    by_cases h : n = 0
    · rw [h]; rfl
    · rw [bne_iff_ne.2 h, bne_iff_ne.2 (show (n : Int) ≠ 0 by omega)]
theorem tokL_len {ls ds : List Int} (h1 : checkB ls = true) (h2 : checkB ds = true) {t : Tkz} (hk : chkZ t = 0) : (tokL ls (codesL ls) ds (codesL ds) t).length ≤ 42 := by
  have key : ∀ {zs : List Int}, checkB zs = true → ∀ x, (zs.getD x 0).toNat ≤ 15 := fun {zs} hc x => by
    have hok : lenOk zs = true := by unfold checkB at hc; rw [Bool.and_eq_true] at hc; exact hc.1
    by_cases hx : x < zs.length
    · have hr := (lenOk_all hok).2 _ (show zs.getD x 0 ∈ zs from by simp [List.getD, List.getElem?_eq_getElem hx])
      omega
    · have : zs.getD x 0 = 0 := by simp [List.getD, List.getElem?_eq_none (show zs.length ≤ x by omega)]
      omega
  have k1 := key h1 (symZ t).toNat
  have k2 := key h2 (dstZ t.1).toNat
  unfold tokL symL
  split
  · rw [low_length]; omega
  · rename_i h0
    rcases chk_cases hk with ⟨e1, _⟩ | ⟨e1, e2, _⟩
    · exact absurd e1 h0
    · have := dst_rng e1 e2
      rw [List.length_append, List.length_append, low_length, low_length, low_length]; omega
theorem flat_len {α β : Type} (f : α → List β) (n : Nat) : ∀ l : List α, (∀ t ∈ l, (f t).length ≤ n) → (l.flatMap f).length ≤ n * l.length
  | [], _ => by simp
  | t :: l, h => by
    have h1 := h t (List.mem_cons_self ..)
    have h2 := flat_len f n l (fun u hu => h u (List.mem_cons_of_mem _ hu))
    rw [List.flatMap_cons, List.length_append, List.length_cons, Nat.mul_succ]; omega
theorem pack_short (l : List Tkz) (hn : l.length ≤ 80) (hz : (sizeO l).2 = 0) : (packB l).length ≤ 1000 := by
  obtain ⟨a1, a2, b1, b2, _, _⟩ := codes_all l (by omega)
  have hall := sizeO_all hz
  obtain ⟨M, e1, e2, e3⟩ := Wv.toks (H := headP l) (lsF l) (codesL (lsF l)) (dsF l) (codesL (dsF l)) l l.length (Nat.le_refl _)
  rw [List.take_length] at e2
  have hp : packB l = headP l ++ M := by unfold packB; exact e1
  have hB := flat_len (tokL (lsF l) (codesL (lsF l)) (dsF l) (codesL (dsF l))) 42 l (fun t ht => by
    obtain ⟨j, hj, rfl⟩ := List.getElem_of_mem ht
    have e : l.getD j tk0 = l[j] := by simp [List.getD, List.getElem?_eq_getElem hj]
    have := hall j hj
    rw [e] at this
    exact tokL_len a2 b2 this)
  have hM := congrArg List.length e2
  rw [bts_length, List.length_append, List.length_replicate] at hM
  have r1 := runs_nz (lsF l) (by omega)
  have r2 := runs_len (dsF l) (by omega)
  have r3 := ls_nz l (by omega)
  have r4 := vint_short (l.length : Int) (by omega) (by omega)
  rw [hp]
  unfold headP
  simp only [List.length_append]
  omega
/-- Unpack of what Pack told. -/
theorem unp_back (l : List Tkz) (hn : l.length ≤ 80) (hz : (sizeO l).2 = 0) (h8 : ∀ j, j < l.length → 0 ≤ (l.getD j tk0).2.2 ∧ (l.getD j tk0).2.2 ≤ 255) (W : World) (a : Option Addr) (c : Nat) (hW : Ri W .u8 a c (packB l)) :
    Calls Try.prog 11 #[.slice a (packB l).length c] W fun e w' => Below W.heap.size W w' ∧ ∃ a c, e = .returned (.tuple #[.slice a l.length c, .int .i64 0]) ∧ Rt w' a c l := by
  refine Calls.mono (unpack_word a c (packB l) W hW (pack_short l hn hz)) ?_
  rintro e w' ⟨h1, h2⟩
  rw [unp_pack l (by omega) hz h8] at h2
  exact ⟨h1, h2⟩
end Go.Proofs.Ytelnefngkdfcoaa
