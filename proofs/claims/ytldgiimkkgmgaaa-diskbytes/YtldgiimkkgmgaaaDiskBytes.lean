/-
  DiskBytes is proved for every input: behind a loss each byte of a block is one that lasted, or one that was written since; no condition.
-/
import Derived.Test.YtldgiimkkgmgaaaPart05
namespace Go.Proofs.Ytldgiimkkgmgaaa.diskBytes
open Go.ChangeShapes Go.WideShapes Go.ChangeAt Go.RowKit

theorem own : ownKnob Try.prog.godebug = none := by kernel_rfl

/-- A row of bytes of one's own. -/
theorem own_rx {base B : Nat} {W : World} {v : Value} {b : List Int} (h : W.ownsRow B 5 1 v b.length (bytesV b)) (hf : ∀ z ∈ b, 0 ≤ z ∧ z ≤ 255) : ∃ a cap, v = .slice a b.length cap ∧ Rx base W a cap b := by
  obtain ⟨a, cap, rfl, hr⟩ := Ri.own h (wf_of hf)
  refine ⟨a, cap, rfl, Rx.blk hr (fun b' off W' e _ hF => ?_)⟩
  rcases h.2 with ⟨e2, _⟩ | ⟨g, cp, cur, e2, _, h5, _⟩
  · injection e2 with e2; rw [e2] at e; cases e
  · injection e2 with e2
    rw [e2] at e
    cases e
    rw [h5]
    exact hF.typ _ _ 5 (0, 0) (by decide) (by decide) h5
structure BtI (w wr : World) (gd gv gl gn q : Nat) (L : Int → List Int) (O : List (Int × List Int)) : Prop where
  dv : ∃ v, Dv wr w.heap.size gd gv gl gn v (q + 2) 4 L O (-1)
  bel : Below w.heap.size w wr
set_option maxHeartbeats 6400000 in
set_option maxRecDepth 100000 in
theorem walk (a0 : Option Addr) (cap0 : Nat) (fs : List Int) (a1 : Option Addr) (cap1 : Nat) (Ls : List (List Int)) (a2 : Option Addr) (cap2 : Nat) (Kp : List Bool) (torn : Int) (_ : (Lit.int .i64 torn).wf = true) (at_ : Int) (ha4 : (Lit.int .i64 at_).wf = true) (w : World) (hr0 : Ri w .u8 a0 cap0 fs) (hr1 : Ps w a1 cap1 Ls) (hr2 : Bls w a2 cap2 Kp) :
    Calls Try.prog 5 #[.slice a0 fs.length cap0, .slice a1 Ls.length cap1, .slice a2 Kp.length cap2, .int .i64 torn, .int .i64 at_] w fun e w' => e = .returned (.bool true) ∧ Below w.heap.size w w' := by
  have hm : Ls.length ≤ 9223372036854775807 := by have h1 := hr1.room; have h2 := hr1.most; unfold maxLen at h2; omega
  have hcap1 := hr1.room
  have hmx1 := hr1.most
  unfold maxLen at hmx1
  have HP := hid (hr1.take 10)
  have HRA := hid (hr0)
  have HKP := hid hr2
  have HNW := hid (new_ok 4 w ⟨by omega, by omega⟩)
  have HA4 : Hid (okI at_) := ha4
  unfold NewPost at HNW
  have hl10 : (Ls.take 10).length = min 10 Ls.length := List.length_take ..
  have HSM : Hid (∃ n, n = (Ls.take 10).length ∧ n ≤ 10) := ⟨_, rfl, List.length_take_le _ _⟩
  generalize hWs : Ls.take 10 = Ws at *
  obtain ⟨n, hn, hn10⟩ := HSM.out
  have HN := hid hn
  rw [← hn] at hl10
  obtain ⟨nk, hnk⟩ : ∃ m, m = Kp.length := ⟨_, rfl⟩
  have HNK := hid hnk
  rw [← hnk]
  obtain ⟨nf, hnf⟩ : ∃ m, m = fs.length := ⟨_, rfl⟩
  have HNF := hid hnf
  rw [← hnf]
  generalize Ls.length = nL at *
  clear hr0 hr1 hr2 hn hWs HSM hnk hnf ha4
  by_cases hbig : 10 < nL
  · have hb1 : (10 : Int) < (nL : Int) := by omega
    have hb2 : n = 10 := by omega
    have hb3 : (10 : Nat) ≤ cap1 := by omega
    have hb4 : (10 : Int) ≤ (cap1 : Int) := by omega
    clear hm hmx1 hl10 hcap1 hbig
    go_enter Try.func5, Try.ntmps5
    go_wp2_with fail
    refine HNW.out.mono ?_
    rintro _ w1 ⟨gd, gv, gl, gn, rfl, hd, hb⟩
    have HD1 := hid hd
    have HB1 := hid hb
    have HCA := hid (cut_any a0 cap0 fs w1 (HRA.out.later hb))
    rw [← HNF.out] at HCA
    have HRC := hid (HRA.out.take 600)
    have hlc : (fs.take 600).length ≤ 600 := List.length_take_le _ _
    clear hd hb HNW
    generalize fs.take 600 = C0 at *
    go_wp2_with fail
    refine HCA.out.mono ?_
    rintro _ w1' ⟨rfl, hw1⟩
    obtain rfl := hw1.symm
    clear hw1 HCA
    have HWH := hid (whole_ref a0 cap0 C0 w1 (HRC.out.later HB1.out) (by omega))
    unfold WhoPost at HWH
    have HFC := hid (fits_of HRC.out)
    generalize C0.length = nc at *
    go_wp2_with fail
    refine HWH.out.mono ?_
    rintro _ w2 ⟨v2, rfl, hown, hb2⟩
    have HB2 := hid (Bn HB1.out hb2)
    have HWF : Hid (∀ z ∈ wholeL C0, 0 ≤ z ∧ z ≤ 255) := fun z hz => by
      rcases List.mem_append.1 hz with h | h
      · exact HFC.out z h
      · rw [List.eq_of_mem_replicate h]; omega
    have hwl : 512 ≤ (wholeL C0).length := by unfold wholeL; rw [List.length_append, List.length_replicate]; omega
    obtain ⟨af, cf, rfl, hxf⟩ := own_rx (base := w.heap.size) hown HWF.out
    have hcf := hxf.at.room
    have hmf := hxf.at.most
    unfold maxLen at hmf
    obtain ⟨gf, of_, hgf, _, _⟩ := hxf.at.cells (by omega)
    subst hgf
    have HXF : Hid (Rx w.heap.size w2 (some ⟨gf, of_, none⟩) cf ((wholeL C0).take 512)) := fun W hW => (hxf W hW).take 512
    have HF : Hid (Blk ((wholeL C0).take 512)) := ⟨by rw [List.length_take]; omega, fun z hz => HWF.out z (List.mem_of_mem_take hz)⟩
    have HD2 := hid (HD1.out.below hb2)
    clear hown hb2 hxf HWH HD1 HB1 HWF HFC
    generalize (wholeL C0).take 512 = F at *
    generalize (wholeL C0).length = nw at *
    have hz1 : (512 : Int) ≤ (cf : Int) := by omega
    have hz2 : (512 : Nat) ≤ cf := by omega
    have HWR := hid (write_ok w.heap.size gd gv gl gn 0 _ 4 _ [] (-1) 2 _ cf F w2 HD2.out HXF.out (by omega) (by decide))
    unfold WriPost at HWR
    rw [HF.out.len] at HWR
    rw [show wrC 4 (-1) 2 512 = 0 from by decide, show wrO 4 (-1) 2 [] F = [(2, F)] from by unfold wrO; rw [HF.out.len, if_pos (by decide)]; unfold wholeL; rw [HF.out.len]; simp, show wrF 4 (-1) 2 512 = -1 from by decide] at HWR
    clear hcf hmf hwl
    go_wp2_with fail
    refine HWR.out.mono ?_
    rintro _ w3 ⟨rfl, ⟨v3, hd3⟩, hf3⟩
    have HX3 := hid (HXF.out.later hf3)
    have HB3 := hid (HB2.out.trans hf3.bel)
    have HSY := hid (sync_ok w.heap.size gd gv gl gn 1 v3 4 _ [(2, F)] (-1) w3 hd3 (by simp))
    unfold SynPost at HSY
    rw [show burnE (-1) = 0 from by decide, show syL (-1) (fun _ => z512) [(2, F)] = holdF (fun _ => z512) [(2, F)] from if_neg (by decide), show syO (-1) [(2, F)] = [] from if_neg (by decide), show burnF (-1) = -1 from by decide] at HSY
    clear hd3 hf3 HWR HD2 HB2 HXF
    go_wp2_with fail
    refine HSY.out.mono ?_
    rintro _ w4 ⟨rfl, hd4, hf4⟩
    have HX4 := hid (HX3.out.later hf4)
    have HI4 : Hid (BtI w w4 gd gv gl gn 0 (holdF (fun _ => z512) [(2, F)]) []) := ⟨hd4, HB3.out.trans hf4.bel⟩
    have HL2 : Hid (holdF (fun _ => z512) [(2, F)] 2 = F) := rfl
    generalize holdF (fun _ => z512) [(2, F)] = L0 at *
    clear hd4 hf4 HSY HX3 HB3
    go_wp2_with fail
    go_loopw [13] (fun k wr => ∃ q : Nat, k = .int .i64 (q : Int) ∧ q ≤ n ∧ Hid (BtI w wr gd gv gl gn q L0 (opsOf (Ws.take q))) ∧ Hid (Fr w.heap.size w4 wr)) (fun k _ => n - (intOf k).toNat)
    case atStart => exact ⟨0, rfl, Nat.zero_le _, HI4.out, Fr.refl _ _⟩
    case round =>
      clear HI4
      obtain ⟨q, rfl, hq, HI, HFR⟩ := hrel
      by_cases hlt : q < n
      · have hy1 : (q : Int) < (10 : Int) := by omega
        have hy3 : (0 : Int) ≤ (q : Int) := by omega
        obtain ⟨bL, oL, rfl, hbL, hcL⟩ := HP.out.cells (by rw [← HN.out]; omega)
        obtain ⟨aj, cj, hce, hri⟩ := hcL q (by rw [← HN.out]; exact hlt)
        have x1 := (HI.out.bel.cell (p := ⟨bL, oL + q, none⟩) hbL).trans hce
        have hsn : Ws.take (q + 1) = Ws.take q ++ [Ws.getD q []] := by
          rw [List.take_succ_eq_append_getElem (by rw [← HN.out]; exact hlt)]
          simp [List.getD, List.getElem?_eq_getElem (show q < Ws.length by rw [← HN.out]; exact hlt)]
        have HOP := hid (opsOf_snoc (Ws.take q) (Ws.getD q []))
        rw [← hsn] at HOP
        have hol : (opsOf (Ws.take q)).length ≤ q := Nat.le_trans (opsOf_len _) (List.length_take_le _ _)
        have HRJ := hid hri
        clear hcL hce hri hsn
        generalize Ws.getD q [] = Y at *
        by_cases hy : Y.length ≤ 512
        · rw [if_pos hy] at HOP
          obtain ⟨v9, hv9⟩ := HI.out.dv
          have HWR := hid (write_ok w.heap.size gd gv gl gn (q + 2) v9 4 L0 (opsOf (Ws.take q)) (-1) 2 aj cj Y wr hv9 (Rx.low HRJ.out rfl HI.out.bel) (by omega) (by omega))
          unfold WriPost at HWR
          have hwc : wrC 4 (-1) 2 Y.length = 0 := by unfold wrC; rw [if_pos (by decide), if_neg (by omega), if_neg (by decide)]
          rw [show wrO 4 (-1) 2 (opsOf (Ws.take q)) Y = opsOf (Ws.take (q + 1)) from by rw [HOP.out]; exact if_pos hwc, show wrF 4 (-1) 2 Y.length = -1 from by unfold wrF; rw [if_pos hwc]; rfl, hwc] at HWR
          have hyz : (Y.length : Int) ≤ 512 := by omega
          clear hv9 hwc
          generalize Y.length = ny at *
          go_wp2_with fail
          refine HWR.out.mono ?_
          rintro _ w5 ⟨rfl, ⟨v5, hd5⟩, hf5⟩
          have HI5 : Hid (BtI w w5 gd gv gl gn (q + 1) L0 (opsOf (Ws.take (q + 1)))) := ⟨⟨v5, hd5⟩, HI.out.bel.trans hf5.bel⟩
          have HF5 := hid (HFR.out.trans hf5)
          clear hd5 hf5 HWR HI HFR x1
          go_wp2_with fail
          exact ⟨⟨q + 1, by go_num, hlt, HI5, HF5⟩, by simp only [intOf]; omega⟩
        · rw [if_neg hy] at HOP
          have HI5 : Hid (BtI w wr gd gv gl gn (q + 1) L0 (opsOf (Ws.take (q + 1)))) := by
            obtain ⟨v9, hv9⟩ := HI.out.dv
            rw [HOP.out]
            exact ⟨⟨v9, hv9.mono (Nat.le_succ _)⟩, HI.out.bel⟩
          have hyz : ¬ (Y.length : Int) ≤ 512 := by omega
          generalize Y.length = ny at *
          clear HI
          go_wp2_with fail
          exact ⟨⟨q + 1, by go_num, hlt, HI5, HFR⟩, by simp only [intOf]; omega⟩
      · have hqn : q = n := by omega
        subst hqn
        have hq10 : q = 10 := hb2
        have hy1 : ¬ (q : Int) < (10 : Int) := by omega
        have e : Ws.take q = Ws := by rw [HN.out, List.take_length]
        rw [e] at HI
        have hol : (opsOf Ws).length ≤ q := by rw [HN.out]; exact opsOf_len _
        obtain ⟨v9, hv9⟩ := HI.out.dv
        have HLO := hid (lose_ok w.heap.size gd gv gl gn (q + 2) v9 4 L0 (opsOf Ws) (-1) a2 cap2 Kp torn at_ wr hv9 (Kx.low HKP.out rfl HI.out.bel) HA4.out (by omega))
        unfold LosPost at HLO
        rw [← HNK.out] at HLO
        have HCL : Hid (∀ k, (loseF L0 (opsOf Ws) Kp torn at_ (opsOf Ws).length 2).getD k 0 = F.getD k 0 ∨ ∃ j, j < q ∧ (Ws.getD j []).length ≤ 512 ∧ (wholeL (Ws.getD j [])).getD k 0 = (loseF L0 (opsOf Ws) Kp torn at_ (opsOf Ws).length 2).getD k 0) := fun k => by
          rcases lose_byte (L := L0) (K := Kp) (torn := torn) (at_ := at_) (fun x hx => (hv9.okO x hx).1) 2 k (opsOf Ws).length (Nat.le_refl _) with h | ⟨x, hx, h⟩
          · rw [HL2.out] at h; exact .inl h
          · obtain ⟨j, hj, hjl, rfl⟩ := opsOf_mem hx
            exact .inr ⟨j, by rw [HN.out]; exact hj, hjl, h⟩
        have HX5 := hid (HX4.out.later HFR.out)
        have HBW := hid HI.out.bel
        clear hv9 HI HFR HX4 e
        go_wp2_with fail
        refine HLO.out.mono ?_
        rintro _ w6 ⟨gd2, gv2, gn2, rfl, hd6, _, hf6⟩
        have HX6 := hid (HX5.out.later hf6)
        have HB6 := hid (HBW.out.trans hf6.bel)
        have HRE := hid (read_ok w.heap.size gd2 gv2 gl gn2 _ _ 4 _ [] (-1) 2 w6 hd6 ⟨by omega, by omega⟩)
        unfold ReaPost at HRE
        have HBK := hid (hd6.okL 2)
        rw [show holdF (loseF L0 (opsOf Ws) Kp torn at_ (opsOf Ws).length) [] 2 = loseF L0 (opsOf Ws) Kp torn at_ (opsOf Ws).length 2 from rfl] at HRE
        generalize loseF L0 (opsOf Ws) Kp torn at_ (opsOf Ws).length 2 = B at *
        clear hd6 hf6 HLO HX5 HBW
        go_wp2_with fail
        refine HRE.out.mono ?_
        rintro _ w7 ⟨g, rfl, hg, hgs, hb7⟩
        have HX7 : Hid (∀ W, Below w7.heap.size w7 W → Ri W .u8 (some ⟨gf, of_, none⟩) cf F) := fun W hW => HX6.out W (Fr.of_below (Bn hb7 hW) HB6.out.size)
        have HG7 : Hid (∀ W, Below w7.heap.size w7 W → ∀ k, k < 512 → W.cell? ⟨g, k, none⟩ = some (.int .u8 (B.getD k 0))) := fun W hW k hk => by
          obtain ⟨b9, o9, e9, _, c9⟩ := ((ri_arr hg HBK.out).later hW).cells (by rw [HBK.out.len]; omega)
          cases e9
          have := c9 k (by rw [HBK.out.len]; exact hk)
          rwa [Nat.zero_add] at this
        have HB7 := hid (Bn HB6.out hb7)
        clear hg hgs hb7 HRE HX6 HB6 HL2
        go_wp2_with fail
        go_loopw [18] (fun k wr => ∃ p : Nat, k = .int .i64 (p : Int) ∧ p ≤ 512 ∧ Hid (Below w7.heap.size w7 wr)) (fun k _ => 512 - (intOf k).toNat)
        case atStart => exact ⟨0, rfl, Nat.zero_le _, Below.refl _ _⟩
        case round =>
          obtain ⟨p, rfl, hp, HBP⟩ := hrel
          by_cases hpl : p < 512
          · have hpz : (p : Int) < 512 := by omega
            have hpz0 : (0 : Int) ≤ (p : Int) := by omega
            go_wp2_with fail
            refine wp_region_held_drew (S := fun W => Below w7.heap.size w7 W) (by kernel_rfl) HBP.out.drew (fun hS0 => ?_)
            clear HBP
            generalize wr.drew = v0 at *
            have HFP : Hid (∀ W, Below w7.heap.size w7 W → W.cell? ⟨gf, of_ + p, none⟩ = some (.int .u8 (F.getD p 0))) := fun W hW => by
              obtain ⟨b9, o9, e9, _, c9⟩ := (HX7.out W hW).cells (by rw [HF.out.len]; omega)
              cases e9
              exact c9 p (by rw [HF.out.len]; exact hpl)
            have HGP : Hid (∀ W, Below w7.heap.size w7 W → W.cell? ⟨g, p, none⟩ = some (.int .u8 (B.getD p 0))) := fun W hW => HG7.out W hW p hpl
            have HCP := hid (HCL.out p)
            generalize F.getD p 0 = cF at *
            generalize B.getD p 0 = cB at *
            refine Ord.take (i := 0) (d := 97) (v := ?vxa0) rfl rfl (by as_aux_lemma => kernel_rfl) (by as_aux_lemma => kernel_rfl) (by as_aux_lemma => kernel_rfl) (fun _ _ _ h => h) (by rfl) ?hxa0 (by assumption) ?_
            case hxa0 => intro w hSw; go_simp; try with_reducible rfl
            simp only [List.setIfInBounds_toArray, List.set_cons_zero, List.set_cons_succ]
            refine Ord.take (i := 1) (d := 98) (v := ?vxa1) rfl rfl (by as_aux_lemma => kernel_rfl) (by as_aux_lemma => kernel_rfl) (by as_aux_lemma => kernel_rfl) (fun _ _ _ h => h) (by rfl) ?hxa1 (by assumption) ?_
            case hxa1 => intro w hSw; go_simp; try with_reducible rfl
            simp only [List.setIfInBounds_toArray, List.set_cons_zero, List.set_cons_succ]
            refine Ord.take (i := 2) (d := 99) (v := ?vxa2) rfl rfl (by as_aux_lemma => kernel_rfl) (by as_aux_lemma => kernel_rfl) (by as_aux_lemma => kernel_rfl) (fun _ _ _ h => h) (by rfl) ?hxa2 (by assumption) ?_
            case hxa2 => intro w hSw; go_simp; try with_reducible rfl
            simp only [List.setIfInBounds_toArray, List.set_cons_zero, List.set_cons_succ]
            refine Ord.take (i := 3) (d := 100) (v := .int .u8 cB) rfl rfl (by as_aux_lemma => kernel_rfl) (by as_aux_lemma => kernel_rfl) (by as_aux_lemma => kernel_rfl) (fun _ _ _ h => h) (by rfl) ?hxa3 (by assumption) ?_
            case hxa3 => intro w hSw; have q9 := HGP.out w hSw; go_simp; try with_reducible rfl
            simp only [List.setIfInBounds_toArray, List.set_cons_zero, List.set_cons_succ]
            refine Ord.take (i := 4) (d := 101) (v := ?vxa4) rfl rfl (by as_aux_lemma => kernel_rfl) (by as_aux_lemma => kernel_rfl) (by as_aux_lemma => kernel_rfl) (fun _ _ _ h => h) (by rfl) ?hxa4 (by assumption) ?_
            case hxa4 => intro w hSw; go_simp; try with_reducible rfl
            simp only [List.setIfInBounds_toArray, List.set_cons_zero, List.set_cons_succ]
            refine Ord.take (i := 5) (d := 102) (v := ?vxa5) rfl rfl (by as_aux_lemma => kernel_rfl) (by as_aux_lemma => kernel_rfl) (by as_aux_lemma => kernel_rfl) (fun _ _ _ h => h) (by rfl) ?hxa5 (by assumption) ?_
            case hxa5 => intro w hSw; go_simp; try with_reducible rfl
            simp only [List.setIfInBounds_toArray, List.set_cons_zero, List.set_cons_succ]
            refine Ord.take (i := 6) (d := 103) (v := ?vxa6) rfl rfl (by as_aux_lemma => kernel_rfl) (by as_aux_lemma => kernel_rfl) (by as_aux_lemma => kernel_rfl) (fun _ _ _ h => h) (by rfl) ?hxa6 (by assumption) ?_
            case hxa6 => intro w hSw; go_simp; try with_reducible rfl
            simp only [List.setIfInBounds_toArray, List.set_cons_zero, List.set_cons_succ]
            refine Ord.take (i := 7) (d := 104) (v := .int .u8 cF) rfl rfl (by as_aux_lemma => kernel_rfl) (by as_aux_lemma => kernel_rfl) (by as_aux_lemma => kernel_rfl) (fun _ _ _ h => h) (by rfl) ?hxa7 (by assumption) ?_
            case hxa7 => intro w hSw; have q9 := HFP.out w hSw; go_simp; try with_reducible rfl
            simp only [List.setIfInBounds_toArray, List.set_cons_zero, List.set_cons_succ]
            refine Ord.take (i := 8) (d := 105) (v := ?vxa8) rfl rfl (by as_aux_lemma => kernel_rfl) (by as_aux_lemma => kernel_rfl) (by as_aux_lemma => kernel_rfl) (fun _ _ _ h => h) (by rfl) ?hxa8 (by assumption) ?_
            case hxa8 => intro w hSw; go_simp; try with_reducible rfl
            simp only [List.setIfInBounds_toArray, List.set_cons_zero, List.set_cons_succ]
            refine Ord.take (i := 9) (d := 19) (v := ?vxa9) rfl rfl (by as_aux_lemma => kernel_rfl) (by as_aux_lemma => kernel_rfl) (by as_aux_lemma => kernel_rfl) (fun _ _ _ h => h) (by rfl) ?hxa9 (by assumption) ?_
            case hxa9 => intro w hSw; go_simp; try with_reducible rfl
            simp only [List.setIfInBounds_toArray, List.set_cons_zero, List.set_cons_succ]
            refine wpAnyH_done (by as_aux_lemma => kernel_rfl) ?_ _
            have HB0 := hid hS0
            clear hS0
            go_wp2_with fail
            go_loopw [19, 20] (fun o k wr => ∃ (ob : Bool) (r : Nat), o = .bool ob ∧ k = .int .i64 (r : Int) ∧ r ≤ q ∧ Hid (ob = true ∨ (cB ≠ cF ∧ ∀ j, j < r → ¬ ((Ws.getD j []).length ≤ 512 ∧ (wholeL (Ws.getD j [])).getD p 0 = cB))) ∧ Hid (Below w7.heap.size w7 wr)) (fun _ k _ => q - (intOf k).toNat)
            case atStart =>
              refine ⟨_, 0, rfl, rfl, Nat.zero_le _, ?_, HB0.out⟩
              by_cases h9 : cB = cF
              · exact .inl (by simp [h9])
              · exact .inr ⟨h9, fun j hj => absurd hj (Nat.not_lt_zero _)⟩
            case round =>
              clear HB0
              obtain ⟨ob, r, rfl, rfl, hr, HOB, HBR⟩ := hrel
              cases ob
              · by_cases hrl : r < q
                · have hrz : (r : Int) < (10 : Int) := by omega
                  have hrz0 : (0 : Int) ≤ (r : Int) := by omega
                  obtain ⟨bL, oL, rfl, hbL, hcL⟩ := HP.out.cells (by rw [← HN.out]; omega)
                  obtain ⟨aj, cj, hce, hri⟩ := hcL r (by rw [← HN.out]; exact hrl)
                  have HXR : Hid (∀ W, Below w7.heap.size w7 W → W.cell? ⟨bL, oL + r, none⟩ = some (.slice aj (Ws.getD r []).length cj)) := fun W hW => ((Bn HB7.out hW).cell (p := ⟨bL, oL + r, none⟩) hbL).trans hce
                  have HRR := hid hri
                  have HOL := HOB
                  have HNX : Hid (∀ b : Bool, (b = true ∨ ¬ ((Ws.getD r []).length ≤ 512 ∧ (wholeL (Ws.getD r [])).getD p 0 = cB)) → (b = true ∨ (cB ≠ cF ∧ ∀ j, j < r + 1 → ¬ ((Ws.getD j []).length ≤ 512 ∧ (wholeL (Ws.getD j [])).getD p 0 = cB)))) := fun b hb => by
                    rcases hb with h | h
                    · exact .inl h
                    · rcases HOL.out with h2 | ⟨h2, h3⟩
                      · cases h2
                      · refine .inr ⟨h2, fun j hj => ?_⟩
                        by_cases hjr : j = r
                        · subst hjr; exact h
                        · exact h3 j (by omega)
                  clear hcL hce hri HOB HOL
                  generalize hYr : Ws.getD r [] = Y at *
                  clear hYr
                  obtain ⟨ny, hny⟩ : ∃ m, m = Y.length := ⟨_, rfl⟩
                  have HNY := hid hny
                  rw [← hny] at HXR
                  clear hny
                  by_cases hy : ny ≤ 512
                  · have hyz : (ny : Int) ≤ 512 := by omega
                    have HWP := hid (whole_blk (b := Y) (by rw [← HNY.out]; exact hy) (fits_of HRR.out))
                    have HWH : Hid (∀ W, Below w7.heap.size w7 W → Calls Try.prog 15 #[.slice aj ny cj] W (WhoPost Y W)) := fun W hW => by
                      have h1 := whole_ref aj cj Y W (HRR.out.later (Bn HB7.out hW)) (by rw [← HNY.out]; omega)
                      rw [← HNY.out] at h1
                      exact h1
                    unfold WhoPost at HWH
                    go_wp2_with fail
                    refine wp_region_held_drew (S := fun W => Below w7.heap.size w7 W) (by kernel_rfl) HBR.out.drew (fun hS0 => ?_)
                    clear HBR
                    generalize wr.drew = v1 at *
                    refine Ord.take (i := 0) (d := 116) (v := ?vxb0) rfl rfl (by as_aux_lemma => kernel_rfl) (by as_aux_lemma => kernel_rfl) (by as_aux_lemma => kernel_rfl) (fun _ _ _ h => h) (by rfl) ?hxb0 (by assumption) ?_
                    case hxb0 => intro w hSw; go_simp; try with_reducible rfl
                    simp only [List.setIfInBounds_toArray, List.set_cons_zero, List.set_cons_succ]
                    refine Ord.take (i := 1) (d := 117) (v := ?vxb1) rfl rfl (by as_aux_lemma => kernel_rfl) (by as_aux_lemma => kernel_rfl) (by as_aux_lemma => kernel_rfl) (fun _ _ _ h => h) (by rfl) ?hxb1 (by assumption) ?_
                    case hxb1 => intro w hSw; go_simp; try with_reducible rfl
                    simp only [List.setIfInBounds_toArray, List.set_cons_zero, List.set_cons_succ]
                    refine Ord.take (i := 2) (d := 118) (v := ?vxb2) rfl rfl (by as_aux_lemma => kernel_rfl) (by as_aux_lemma => kernel_rfl) (by as_aux_lemma => kernel_rfl) (fun _ _ _ h => h) (by rfl) ?hxb2 (by assumption) ?_
                    case hxb2 => intro w hSw; go_simp; try with_reducible rfl
                    simp only [List.setIfInBounds_toArray, List.set_cons_zero, List.set_cons_succ]
                    refine Ord.take (i := 3) (d := 119) (v := .slice aj ny cj) rfl rfl (by as_aux_lemma => kernel_rfl) (by as_aux_lemma => kernel_rfl) (by as_aux_lemma => kernel_rfl) (fun _ _ _ h => h) (by rfl) ?hxb3 (by assumption) ?_
                    case hxb3 => intro w hSw; have q9 := HXR.out w hSw; go_simp; try with_reducible rfl
                    simp only [List.setIfInBounds_toArray, List.set_cons_zero, List.set_cons_succ]
                    refine Ord.take (i := 4) (d := 120) (v := .int .i64 (ny : Int)) rfl rfl (by as_aux_lemma => kernel_rfl) (by as_aux_lemma => kernel_rfl) (by as_aux_lemma => kernel_rfl) (fun _ _ _ h => h) (by rfl) ?hxb4 (by assumption) ?_
                    case hxb4 => intro w hSw; go_simp; try with_reducible rfl
                    simp only [List.setIfInBounds_toArray, List.set_cons_zero, List.set_cons_succ]
                    refine Ord.take (i := 5) (d := 121) (v := .bool true) rfl rfl (by as_aux_lemma => kernel_rfl) (by as_aux_lemma => kernel_rfl) (by as_aux_lemma => kernel_rfl) (fun _ _ _ h => h) (by rfl) ?hxb5 (by assumption) ?_
                    case hxb5 => intro w hSw; go_simp; try with_reducible rfl
                    simp only [List.setIfInBounds_toArray, List.set_cons_zero, List.set_cons_succ]
                    refine Ord.take (i := 6) (d := 122) (v := ?vxb6) rfl rfl (by as_aux_lemma => kernel_rfl) (by as_aux_lemma => kernel_rfl) (by as_aux_lemma => kernel_rfl) (fun _ _ _ h => h) (by rfl) ?hxb6 (by assumption) ?_
                    case hxb6 => intro w hSw; go_simp; try with_reducible rfl
                    simp only [List.setIfInBounds_toArray, List.set_cons_zero, List.set_cons_succ]
                    refine Ord.take (i := 7) (d := 123) (v := ?vxb7) rfl rfl (by as_aux_lemma => kernel_rfl) (by as_aux_lemma => kernel_rfl) (by as_aux_lemma => kernel_rfl) (fun _ _ _ h => h) (by rfl) ?hxb7 (by assumption) ?_
                    case hxb7 => intro w hSw; go_simp; try with_reducible rfl
                    simp only [List.setIfInBounds_toArray, List.set_cons_zero, List.set_cons_succ]
                    refine Ord.take (i := 8) (d := 124) (v := ?vxb8) rfl rfl (by as_aux_lemma => kernel_rfl) (by as_aux_lemma => kernel_rfl) (by as_aux_lemma => kernel_rfl) (fun _ _ _ h => h) (by rfl) ?hxb8 (by assumption) ?_
                    case hxb8 => intro w hSw; go_simp; try with_reducible rfl
                    simp only [List.setIfInBounds_toArray, List.set_cons_zero, List.set_cons_succ]
                    refine Ord.take (i := 9) (d := 125) (v := ?vxb9) rfl rfl (by as_aux_lemma => kernel_rfl) (by as_aux_lemma => kernel_rfl) (by as_aux_lemma => kernel_rfl) (fun _ _ _ h => h) (by rfl) ?hxb9 (by assumption) ?_
                    case hxb9 => intro w hSw; go_simp; try with_reducible rfl
                    simp only [List.setIfInBounds_toArray, List.set_cons_zero, List.set_cons_succ]
                    refine Ord.take (i := 10) (d := 126) (v := .slice aj ny cj) rfl rfl (by as_aux_lemma => kernel_rfl) (by as_aux_lemma => kernel_rfl) (by as_aux_lemma => kernel_rfl) (fun _ _ _ h => h) (by rfl) ?hxb10 (by assumption) ?_
                    case hxb10 => intro w hSw; have q9 := HXR.out w hSw; go_simp; try with_reducible rfl
                    simp only [List.setIfInBounds_toArray, List.set_cons_zero, List.set_cons_succ]
                    refine Ord.take (i := 12) (d := 128) (v := ?vxb12) rfl rfl (by as_aux_lemma => kernel_rfl) (by as_aux_lemma => kernel_rfl) (by as_aux_lemma => kernel_rfl) (fun _ _ _ h => h) (by rfl) ?hxb12 (by assumption) ?_
                    case hxb12 => intro w hSw; go_simp; try with_reducible rfl
                    simp only [List.setIfInBounds_toArray, List.set_cons_zero, List.set_cons_succ]
                    refine Ord.take (i := 15) (d := 131) (v := ?vxb15) rfl rfl (by as_aux_lemma => kernel_rfl) (by as_aux_lemma => kernel_rfl) (by as_aux_lemma => kernel_rfl) (fun _ _ _ h => h) (by rfl) ?hxb15 (by assumption) ?_
                    case hxb15 => intro w hSw; go_simp; try with_reducible rfl
                    simp only [List.setIfInBounds_toArray, List.set_cons_zero, List.set_cons_succ]
                    refine Ord.take (i := 16) (d := 132) (v := ?vxb16) rfl rfl (by as_aux_lemma => kernel_rfl) (by as_aux_lemma => kernel_rfl) (by as_aux_lemma => kernel_rfl) (fun _ _ _ h => h) (by rfl) ?hxb16 (by assumption) ?_
                    case hxb16 => intro w hSw; go_simp; try with_reducible rfl
                    simp only [List.setIfInBounds_toArray, List.set_cons_zero, List.set_cons_succ]
                    refine Ord.take (i := 17) (d := 133) (v := ?vxb17) rfl rfl (by as_aux_lemma => kernel_rfl) (by as_aux_lemma => kernel_rfl) (by as_aux_lemma => kernel_rfl) (fun _ _ _ h => h) (by rfl) ?hxb17 (by assumption) ?_
                    case hxb17 => intro w hSw; go_simp; try with_reducible rfl
                    simp only [List.setIfInBounds_toArray, List.set_cons_zero, List.set_cons_succ]
                    refine Ord.take (i := 18) (d := 134) (v := .int .u8 cB) rfl rfl (by as_aux_lemma => kernel_rfl) (by as_aux_lemma => kernel_rfl) (by as_aux_lemma => kernel_rfl) (fun _ _ _ h => h) (by rfl) ?hxb18 (by assumption) ?_
                    case hxb18 => intro w hSw; have q9 := HGP.out w hSw; go_simp; try with_reducible rfl
                    simp only [List.setIfInBounds_toArray, List.set_cons_zero, List.set_cons_succ]
                    refine wpAnyH_ready (rs := [11]) (by as_aux_lemma => kernel_rfl) (by simp) (AllReadyH.cons rfl (fun KK hK => ?_) AllReadyH.nil)
                    go_simp
                    refine (HWH.out v1 hS0).mono ?_
                    rintro _ v2 ⟨vw, rfl, hown, hb2⟩
                    have hS2 := Bn hS0 hb2
                    refine hK.out _ _ hS2 (fun _ => ?_)
                    clear hK
                    rw [HWP.out.len] at hown
                    obtain ⟨gw, cw2, hvw⟩ : ∃ gw cw2, vw = .slice (some ⟨gw, 0, none⟩) 512 cw2 := by
                      rcases hown.2 with ⟨_, h9⟩ | ⟨gw, cw2, cur, h9, _⟩
                      · cases h9
                      · exact ⟨gw, cw2, h9⟩
                    subst hvw
                    have hcw := hown.cellAt p (by omega)
                    have hgw : gw < v2.heap.size := by
                      rcases hown.2 with ⟨h9, _⟩ | ⟨gw', cw', cur, h9, _, h10, _⟩
                      · cases h9
                      · cases h9; exact (Array.getElem?_eq_some_iff.1 h10).1
                    have hcw2 : v2.cell? ⟨gw, p, none⟩ = some (.int .u8 ((wholeL Y).getD p 0)) := by
                      rw [hcw, bytesV, List.getElem?_map, List.getElem?_eq_getElem (show p < (wholeL Y).length by rw [HWP.out.len]; exact hpl)]
                      simp [List.getD, List.getElem?_eq_getElem (show p < (wholeL Y).length by rw [HWP.out.len]; exact hpl)]
                    have HCW : Hid (∀ W, Below v2.heap.size v2 W → W.cell? ⟨gw, p, none⟩ = some (.int .u8 ((wholeL Y).getD p 0))) := fun W hW => (hW.cell (p := ⟨gw, p, none⟩) hgw).trans hcw2
                    clear hown hcw hcw2 hgw hb2
                    generalize (wholeL Y).getD p 0 = cW at *
                    refine Ord.more (S' := fun W => Below v2.heap.size v2 W) (fun W hW => Bn hS2 hW) _ _ _ _ ?_
                    have hS3 : Below v2.heap.size v2 v2 := Below.refl _ _
                    try simp only [List.setIfInBounds_toArray, List.set_cons_zero, List.set_cons_succ]
                    by_cases hcc : cW = cB
                    · subst hcc
                      refine Ord.take (i := 13) (d := 129) (v := ?vxc13) rfl rfl (by as_aux_lemma => kernel_rfl) (by as_aux_lemma => kernel_rfl) (by as_aux_lemma => kernel_rfl) (fun _ _ _ h => h) (by rfl) ?hxc13 (by assumption) ?_
                      case hxc13 => intro w hSw; go_simp; try with_reducible rfl
                      simp only [List.setIfInBounds_toArray, List.set_cons_zero, List.set_cons_succ]
                      refine Ord.take (i := 14) (d := 130) (v := .int .u8 cW) rfl rfl (by as_aux_lemma => kernel_rfl) (by as_aux_lemma => kernel_rfl) (by as_aux_lemma => kernel_rfl) (fun _ _ _ h => h) (by rfl) ?hxc14 (by assumption) ?_
                      case hxc14 => intro w hSw; have q9 := HCW.out w hSw; go_simp; try with_reducible rfl
                      simp only [List.setIfInBounds_toArray, List.set_cons_zero, List.set_cons_succ]
                      refine Ord.take (i := 19) (d := 135) (v := .bool true) rfl rfl (by as_aux_lemma => kernel_rfl) (by as_aux_lemma => kernel_rfl) (by as_aux_lemma => kernel_rfl) (fun _ _ _ h => h) (by rfl) ?hxc19 (by assumption) ?_
                      case hxc19 => intro w hSw; go_simp; try with_reducible rfl
                      simp only [List.setIfInBounds_toArray, List.set_cons_zero, List.set_cons_succ]
                      refine Ord.take (i := 20) (d := 136) (v := .bool true) rfl rfl (by as_aux_lemma => kernel_rfl) (by as_aux_lemma => kernel_rfl) (by as_aux_lemma => kernel_rfl) (fun _ _ _ h => h) (by rfl) ?hxc20 (by assumption) ?_
                      case hxc20 => intro w hSw; go_simp; try with_reducible rfl
                      simp only [List.setIfInBounds_toArray, List.set_cons_zero, List.set_cons_succ]
                      refine Ord.take (i := 21) (d := 19) (v := .bool true) rfl rfl (by as_aux_lemma => kernel_rfl) (by as_aux_lemma => kernel_rfl) (by as_aux_lemma => kernel_rfl) (fun _ _ _ h => h) (by rfl) ?hxc21 (by assumption) ?_
                      case hxc21 => intro w hSw; go_simp; try with_reducible rfl
                      simp only [List.setIfInBounds_toArray, List.set_cons_zero, List.set_cons_succ]
                      refine wpAnyH_done (by as_aux_lemma => kernel_rfl) ?_ _
                      have HBS := hid hS2
                      have HZZ := hid (HNX.out true (.inl rfl))
                      clear hS2 hS3 HNX HCW HWH HWP
                      go_wp2_with fail
                      exact ⟨⟨_, r + 1, rfl, by go_num, hrl, HZZ, HBS⟩, by simp only [intOf]; omega⟩
                    · have hce : (cW == cB) = false := by simpa using hcc
                      refine Ord.take (i := 13) (d := 129) (v := ?vxd13) rfl rfl (by as_aux_lemma => kernel_rfl) (by as_aux_lemma => kernel_rfl) (by as_aux_lemma => kernel_rfl) (fun _ _ _ h => h) (by rfl) ?hxd13 (by assumption) ?_
                      case hxd13 => intro w hSw; go_simp; try with_reducible rfl
                      simp only [List.setIfInBounds_toArray, List.set_cons_zero, List.set_cons_succ]
                      refine Ord.take (i := 14) (d := 130) (v := .int .u8 cW) rfl rfl (by as_aux_lemma => kernel_rfl) (by as_aux_lemma => kernel_rfl) (by as_aux_lemma => kernel_rfl) (fun _ _ _ h => h) (by rfl) ?hxd14 (by assumption) ?_
                      case hxd14 => intro w hSw; have q9 := HCW.out w hSw; go_simp; try with_reducible rfl
                      simp only [List.setIfInBounds_toArray, List.set_cons_zero, List.set_cons_succ]
                      refine Ord.take (i := 19) (d := 135) (v := .bool false) rfl rfl (by as_aux_lemma => kernel_rfl) (by as_aux_lemma => kernel_rfl) (by as_aux_lemma => kernel_rfl) (fun _ _ _ h => h) (by rfl) ?hxd19 (by assumption) ?_
                      case hxd19 => intro w hSw; go_simp; try with_reducible rfl
                      simp only [List.setIfInBounds_toArray, List.set_cons_zero, List.set_cons_succ]
                      refine Ord.take (i := 20) (d := 136) (v := .bool false) rfl rfl (by as_aux_lemma => kernel_rfl) (by as_aux_lemma => kernel_rfl) (by as_aux_lemma => kernel_rfl) (fun _ _ _ h => h) (by rfl) ?hxd20 (by assumption) ?_
                      case hxd20 => intro w hSw; go_simp; try with_reducible rfl
                      simp only [List.setIfInBounds_toArray, List.set_cons_zero, List.set_cons_succ]
                      refine Ord.take (i := 21) (d := 19) (v := .bool false) rfl rfl (by as_aux_lemma => kernel_rfl) (by as_aux_lemma => kernel_rfl) (by as_aux_lemma => kernel_rfl) (fun _ _ _ h => h) (by rfl) ?hxd21 (by assumption) ?_
                      case hxd21 => intro w hSw; go_simp; try with_reducible rfl
                      simp only [List.setIfInBounds_toArray, List.set_cons_zero, List.set_cons_succ]
                      refine wpAnyH_done (by as_aux_lemma => kernel_rfl) ?_ _
                      have HBS := hid hS2
                      have HZZ := hid (HNX.out false (.inr (fun h => hcc h.2)))
                      clear hS2 hS3 HNX HCW HWH HWP
                      go_wp2_with fail
                      exact ⟨⟨_, r + 1, rfl, by go_num, hrl, HZZ, HBS⟩, by simp only [intOf]; omega⟩
                  · have hyz : ¬ (ny : Int) ≤ 512 := by omega
                    go_wp2_with fail
                    refine wp_region_held_drew (S := fun W => Below w7.heap.size w7 W) (by kernel_rfl) HBR.out.drew (fun hS0 => ?_)
                    clear HBR
                    generalize wr.drew = v1 at *
                    refine Ord.take (i := 0) (d := 116) (v := ?vxe0) rfl rfl (by as_aux_lemma => kernel_rfl) (by as_aux_lemma => kernel_rfl) (by as_aux_lemma => kernel_rfl) (fun _ _ _ h => h) (by rfl) ?hxe0 (by assumption) ?_
                    case hxe0 => intro w hSw; go_simp; try with_reducible rfl
                    simp only [List.setIfInBounds_toArray, List.set_cons_zero, List.set_cons_succ]
                    refine Ord.take (i := 1) (d := 117) (v := ?vxe1) rfl rfl (by as_aux_lemma => kernel_rfl) (by as_aux_lemma => kernel_rfl) (by as_aux_lemma => kernel_rfl) (fun _ _ _ h => h) (by rfl) ?hxe1 (by assumption) ?_
                    case hxe1 => intro w hSw; go_simp; try with_reducible rfl
                    simp only [List.setIfInBounds_toArray, List.set_cons_zero, List.set_cons_succ]
                    refine Ord.take (i := 2) (d := 118) (v := ?vxe2) rfl rfl (by as_aux_lemma => kernel_rfl) (by as_aux_lemma => kernel_rfl) (by as_aux_lemma => kernel_rfl) (fun _ _ _ h => h) (by rfl) ?hxe2 (by assumption) ?_
                    case hxe2 => intro w hSw; go_simp; try with_reducible rfl
                    simp only [List.setIfInBounds_toArray, List.set_cons_zero, List.set_cons_succ]
                    refine Ord.take (i := 3) (d := 119) (v := .slice aj ny cj) rfl rfl (by as_aux_lemma => kernel_rfl) (by as_aux_lemma => kernel_rfl) (by as_aux_lemma => kernel_rfl) (fun _ _ _ h => h) (by rfl) ?hxe3 (by assumption) ?_
                    case hxe3 => intro w hSw; have q9 := HXR.out w hSw; go_simp; try with_reducible rfl
                    simp only [List.setIfInBounds_toArray, List.set_cons_zero, List.set_cons_succ]
                    refine Ord.take (i := 4) (d := 120) (v := .int .i64 (ny : Int)) rfl rfl (by as_aux_lemma => kernel_rfl) (by as_aux_lemma => kernel_rfl) (by as_aux_lemma => kernel_rfl) (fun _ _ _ h => h) (by rfl) ?hxe4 (by assumption) ?_
                    case hxe4 => intro w hSw; go_simp; try with_reducible rfl
                    simp only [List.setIfInBounds_toArray, List.set_cons_zero, List.set_cons_succ]
                    refine Ord.take (i := 5) (d := 121) (v := .bool false) rfl rfl (by as_aux_lemma => kernel_rfl) (by as_aux_lemma => kernel_rfl) (by as_aux_lemma => kernel_rfl) (fun _ _ _ h => h) (by rfl) ?hxe5 (by assumption) ?_
                    case hxe5 => intro w hSw; go_simp; try with_reducible rfl
                    simp only [List.setIfInBounds_toArray, List.set_cons_zero, List.set_cons_succ]
                    refine Ord.take (i := 6) (d := 122) (v := ?vxe6) rfl rfl (by as_aux_lemma => kernel_rfl) (by as_aux_lemma => kernel_rfl) (by as_aux_lemma => kernel_rfl) (fun _ _ _ h => h) (by rfl) ?hxe6 (by assumption) ?_
                    case hxe6 => intro w hSw; go_simp; try with_reducible rfl
                    simp only [List.setIfInBounds_toArray, List.set_cons_zero, List.set_cons_succ]
                    refine Ord.skip (i := 7) (d := 123) rfl rfl (by as_aux_lemma => kernel_rfl) (by as_aux_lemma => kernel_rfl) (by as_aux_lemma => kernel_rfl) (fun _ _ _ h => h) (by rfl) (by assumption) ?_
                    simp only [List.setIfInBounds_toArray, List.set_cons_zero, List.set_cons_succ]
                    refine Ord.skip (i := 8) (d := 124) rfl rfl (by as_aux_lemma => kernel_rfl) (by as_aux_lemma => kernel_rfl) (by as_aux_lemma => kernel_rfl) (fun _ _ _ h => h) (by rfl) (by assumption) ?_
                    simp only [List.setIfInBounds_toArray, List.set_cons_zero, List.set_cons_succ]
                    refine Ord.skip (i := 9) (d := 125) rfl rfl (by as_aux_lemma => kernel_rfl) (by as_aux_lemma => kernel_rfl) (by as_aux_lemma => kernel_rfl) (fun _ _ _ h => h) (by rfl) (by assumption) ?_
                    simp only [List.setIfInBounds_toArray, List.set_cons_zero, List.set_cons_succ]
                    refine Ord.skip (i := 10) (d := 126) rfl rfl (by as_aux_lemma => kernel_rfl) (by as_aux_lemma => kernel_rfl) (by as_aux_lemma => kernel_rfl) (fun _ _ _ h => h) (by rfl) (by assumption) ?_
                    simp only [List.setIfInBounds_toArray, List.set_cons_zero, List.set_cons_succ]
                    refine Ord.skip (i := 11) (d := 127) rfl rfl (by as_aux_lemma => kernel_rfl) (by as_aux_lemma => kernel_rfl) (by as_aux_lemma => kernel_rfl) (fun _ _ _ h => h) (by rfl) (by assumption) ?_
                    simp only [List.setIfInBounds_toArray, List.set_cons_zero, List.set_cons_succ]
                    refine Ord.skip (i := 12) (d := 128) rfl rfl (by as_aux_lemma => kernel_rfl) (by as_aux_lemma => kernel_rfl) (by as_aux_lemma => kernel_rfl) (fun _ _ _ h => h) (by rfl) (by assumption) ?_
                    simp only [List.setIfInBounds_toArray, List.set_cons_zero, List.set_cons_succ]
                    refine Ord.skip (i := 13) (d := 129) rfl rfl (by as_aux_lemma => kernel_rfl) (by as_aux_lemma => kernel_rfl) (by as_aux_lemma => kernel_rfl) (fun _ _ _ h => h) (by rfl) (by assumption) ?_
                    simp only [List.setIfInBounds_toArray, List.set_cons_zero, List.set_cons_succ]
                    refine Ord.skip (i := 14) (d := 130) rfl rfl (by as_aux_lemma => kernel_rfl) (by as_aux_lemma => kernel_rfl) (by as_aux_lemma => kernel_rfl) (fun _ _ _ h => h) (by rfl) (by assumption) ?_
                    simp only [List.setIfInBounds_toArray, List.set_cons_zero, List.set_cons_succ]
                    refine Ord.skip (i := 15) (d := 131) rfl rfl (by as_aux_lemma => kernel_rfl) (by as_aux_lemma => kernel_rfl) (by as_aux_lemma => kernel_rfl) (fun _ _ _ h => h) (by rfl) (by assumption) ?_
                    simp only [List.setIfInBounds_toArray, List.set_cons_zero, List.set_cons_succ]
                    refine Ord.skip (i := 16) (d := 132) rfl rfl (by as_aux_lemma => kernel_rfl) (by as_aux_lemma => kernel_rfl) (by as_aux_lemma => kernel_rfl) (fun _ _ _ h => h) (by rfl) (by assumption) ?_
                    simp only [List.setIfInBounds_toArray, List.set_cons_zero, List.set_cons_succ]
                    refine Ord.skip (i := 17) (d := 133) rfl rfl (by as_aux_lemma => kernel_rfl) (by as_aux_lemma => kernel_rfl) (by as_aux_lemma => kernel_rfl) (fun _ _ _ h => h) (by rfl) (by assumption) ?_
                    simp only [List.setIfInBounds_toArray, List.set_cons_zero, List.set_cons_succ]
                    refine Ord.skip (i := 18) (d := 134) rfl rfl (by as_aux_lemma => kernel_rfl) (by as_aux_lemma => kernel_rfl) (by as_aux_lemma => kernel_rfl) (fun _ _ _ h => h) (by rfl) (by assumption) ?_
                    simp only [List.setIfInBounds_toArray, List.set_cons_zero, List.set_cons_succ]
                    refine Ord.skip (i := 19) (d := 135) rfl rfl (by as_aux_lemma => kernel_rfl) (by as_aux_lemma => kernel_rfl) (by as_aux_lemma => kernel_rfl) (fun _ _ _ h => h) (by rfl) (by assumption) ?_
                    simp only [List.setIfInBounds_toArray, List.set_cons_zero, List.set_cons_succ]
                    refine Ord.take (i := 20) (d := 136) (v := .bool false) rfl rfl (by as_aux_lemma => kernel_rfl) (by as_aux_lemma => kernel_rfl) (by as_aux_lemma => kernel_rfl) (fun _ _ _ h => h) (by rfl) ?hxe20 (by assumption) ?_
                    case hxe20 => intro w hSw; go_simp; try with_reducible rfl
                    simp only [List.setIfInBounds_toArray, List.set_cons_zero, List.set_cons_succ]
                    refine Ord.take (i := 21) (d := 19) (v := .bool false) rfl rfl (by as_aux_lemma => kernel_rfl) (by as_aux_lemma => kernel_rfl) (by as_aux_lemma => kernel_rfl) (fun _ _ _ h => h) (by rfl) ?hxe21 (by assumption) ?_
                    case hxe21 => intro w hSw; go_simp; try with_reducible rfl
                    simp only [List.setIfInBounds_toArray, List.set_cons_zero, List.set_cons_succ]
                    refine wpAnyH_done (by as_aux_lemma => kernel_rfl) ?_ _
                    have HBS := hid hS0
                    have HZZ := hid (HNX.out false (.inr (fun h => hy (by rw [HNY.out]; exact h.1))))
                    clear hS0 HNX
                    go_wp2_with fail
                    exact ⟨⟨_, r + 1, rfl, by go_num, hrl, HZZ, HBS⟩, by simp only [intOf]; omega⟩
                · have hrz : ¬ (r : Int) < (10 : Int) := by omega
                  have hF : False := by
                    rcases HOB.out with h | ⟨h1, h2⟩
                    · cases h
                    · rcases HCP.out with h | ⟨j, hj, h3, h4⟩
                      · exact h1 h
                      · exact h2 j (by omega) ⟨h3, h4⟩
                  exact hF.elim
              · by_cases hrl : r < q
                · have hrz : (r : Int) < (10 : Int) := by omega
                  go_wp2_with fail
                  exact ⟨⟨p + 1, by go_num, hpl, HBR⟩, by simp only [intOf]; omega⟩
                · have hrz : ¬ (r : Int) < (10 : Int) := by omega
                  go_wp2_with fail
                  exact ⟨⟨p + 1, by go_num, hpl, HBR⟩, by simp only [intOf]; omega⟩
          · have hpz : ¬ (p : Int) < 512 := by omega
            have HB9 := hid (Bn HB7.out HBP.out)
            clear HBP
            go_wp2_with fail
            refine (alive_any wr).mono ?_
            rintro _ w9 ⟨rfl, hb9⟩
            have HBZ := hid (Bn HB9.out hb9)
            clear hb9
            go_wp2_with fail
            go_ret
            exact ⟨rfl, HBZ.out⟩
  · have hb1 : ¬ (10 : Int) < (nL : Int) := by omega
    have hb2 : n = nL := by omega
    subst hb2
    clear hm hmx1 hl10 hcap1 hbig
    go_enter Try.func5, Try.ntmps5
    go_wp2_with fail
    refine HNW.out.mono ?_
    rintro _ w1 ⟨gd, gv, gl, gn, rfl, hd, hb⟩
    have HD1 := hid hd
    have HB1 := hid hb
    have HCA := hid (cut_any a0 cap0 fs w1 (HRA.out.later hb))
    rw [← HNF.out] at HCA
    have HRC := hid (HRA.out.take 600)
    have hlc : (fs.take 600).length ≤ 600 := List.length_take_le _ _
    clear hd hb HNW
    generalize fs.take 600 = C0 at *
    go_wp2_with fail
    refine HCA.out.mono ?_
    rintro _ w1' ⟨rfl, hw1⟩
    obtain rfl := hw1.symm
    clear hw1 HCA
    have HWH := hid (whole_ref a0 cap0 C0 w1 (HRC.out.later HB1.out) (by omega))
    unfold WhoPost at HWH
    have HFC := hid (fits_of HRC.out)
    generalize C0.length = nc at *
    go_wp2_with fail
    refine HWH.out.mono ?_
    rintro _ w2 ⟨v2, rfl, hown, hb2⟩
    have HB2 := hid (Bn HB1.out hb2)
    have HWF : Hid (∀ z ∈ wholeL C0, 0 ≤ z ∧ z ≤ 255) := fun z hz => by
      rcases List.mem_append.1 hz with h | h
      · exact HFC.out z h
      · rw [List.eq_of_mem_replicate h]; omega
    have hwl : 512 ≤ (wholeL C0).length := by unfold wholeL; rw [List.length_append, List.length_replicate]; omega
    obtain ⟨af, cf, rfl, hxf⟩ := own_rx (base := w.heap.size) hown HWF.out
    have hcf := hxf.at.room
    have hmf := hxf.at.most
    unfold maxLen at hmf
    obtain ⟨gf, of_, hgf, _, _⟩ := hxf.at.cells (by omega)
    subst hgf
    have HXF : Hid (Rx w.heap.size w2 (some ⟨gf, of_, none⟩) cf ((wholeL C0).take 512)) := fun W hW => (hxf W hW).take 512
    have HF : Hid (Blk ((wholeL C0).take 512)) := ⟨by rw [List.length_take]; omega, fun z hz => HWF.out z (List.mem_of_mem_take hz)⟩
    have HD2 := hid (HD1.out.below hb2)
    clear hown hb2 hxf HWH HD1 HB1 HWF HFC
    generalize (wholeL C0).take 512 = F at *
    generalize (wholeL C0).length = nw at *
    have hz1 : (512 : Int) ≤ (cf : Int) := by omega
    have hz2 : (512 : Nat) ≤ cf := by omega
    have HWR := hid (write_ok w.heap.size gd gv gl gn 0 _ 4 _ [] (-1) 2 _ cf F w2 HD2.out HXF.out (by omega) (by decide))
    unfold WriPost at HWR
    rw [HF.out.len] at HWR
    rw [show wrC 4 (-1) 2 512 = 0 from by decide, show wrO 4 (-1) 2 [] F = [(2, F)] from by unfold wrO; rw [HF.out.len, if_pos (by decide)]; unfold wholeL; rw [HF.out.len]; simp, show wrF 4 (-1) 2 512 = -1 from by decide] at HWR
    clear hcf hmf hwl
    go_wp2_with fail
    refine HWR.out.mono ?_
    rintro _ w3 ⟨rfl, ⟨v3, hd3⟩, hf3⟩
    have HX3 := hid (HXF.out.later hf3)
    have HB3 := hid (HB2.out.trans hf3.bel)
    have HSY := hid (sync_ok w.heap.size gd gv gl gn 1 v3 4 _ [(2, F)] (-1) w3 hd3 (by simp))
    unfold SynPost at HSY
    rw [show burnE (-1) = 0 from by decide, show syL (-1) (fun _ => z512) [(2, F)] = holdF (fun _ => z512) [(2, F)] from if_neg (by decide), show syO (-1) [(2, F)] = [] from if_neg (by decide), show burnF (-1) = -1 from by decide] at HSY
    clear hd3 hf3 HWR HD2 HB2 HXF
    go_wp2_with fail
    refine HSY.out.mono ?_
    rintro _ w4 ⟨rfl, hd4, hf4⟩
    have HX4 := hid (HX3.out.later hf4)
    have HI4 : Hid (BtI w w4 gd gv gl gn 0 (holdF (fun _ => z512) [(2, F)]) []) := ⟨hd4, HB3.out.trans hf4.bel⟩
    have HL2 : Hid (holdF (fun _ => z512) [(2, F)] 2 = F) := rfl
    generalize holdF (fun _ => z512) [(2, F)] = L0 at *
    clear hd4 hf4 HSY HX3 HB3
    go_wp2_with fail
    go_loopw [13] (fun k wr => ∃ q : Nat, k = .int .i64 (q : Int) ∧ q ≤ n ∧ Hid (BtI w wr gd gv gl gn q L0 (opsOf (Ws.take q))) ∧ Hid (Fr w.heap.size w4 wr)) (fun k _ => n - (intOf k).toNat)
    case atStart => exact ⟨0, rfl, Nat.zero_le _, HI4.out, Fr.refl _ _⟩
    case round =>
      clear HI4
      obtain ⟨q, rfl, hq, HI, HFR⟩ := hrel
      by_cases hlt : q < n
      · have hy1 : (q : Int) < (n : Int) := by omega
        have hy3 : (0 : Int) ≤ (q : Int) := by omega
        obtain ⟨bL, oL, rfl, hbL, hcL⟩ := HP.out.cells (by rw [← HN.out]; omega)
        obtain ⟨aj, cj, hce, hri⟩ := hcL q (by rw [← HN.out]; exact hlt)
        have x1 := (HI.out.bel.cell (p := ⟨bL, oL + q, none⟩) hbL).trans hce
        have hsn : Ws.take (q + 1) = Ws.take q ++ [Ws.getD q []] := by
          rw [List.take_succ_eq_append_getElem (by rw [← HN.out]; exact hlt)]
          simp [List.getD, List.getElem?_eq_getElem (show q < Ws.length by rw [← HN.out]; exact hlt)]
        have HOP := hid (opsOf_snoc (Ws.take q) (Ws.getD q []))
        rw [← hsn] at HOP
        have hol : (opsOf (Ws.take q)).length ≤ q := Nat.le_trans (opsOf_len _) (List.length_take_le _ _)
        have HRJ := hid hri
        clear hcL hce hri hsn
        generalize Ws.getD q [] = Y at *
        by_cases hy : Y.length ≤ 512
        · rw [if_pos hy] at HOP
          obtain ⟨v9, hv9⟩ := HI.out.dv
          have HWR := hid (write_ok w.heap.size gd gv gl gn (q + 2) v9 4 L0 (opsOf (Ws.take q)) (-1) 2 aj cj Y wr hv9 (Rx.low HRJ.out rfl HI.out.bel) (by omega) (by omega))
          unfold WriPost at HWR
          have hwc : wrC 4 (-1) 2 Y.length = 0 := by unfold wrC; rw [if_pos (by decide), if_neg (by omega), if_neg (by decide)]
          rw [show wrO 4 (-1) 2 (opsOf (Ws.take q)) Y = opsOf (Ws.take (q + 1)) from by rw [HOP.out]; exact if_pos hwc, show wrF 4 (-1) 2 Y.length = -1 from by unfold wrF; rw [if_pos hwc]; rfl, hwc] at HWR
          have hyz : (Y.length : Int) ≤ 512 := by omega
          clear hv9 hwc
          generalize Y.length = ny at *
          go_wp2_with fail
          refine HWR.out.mono ?_
          rintro _ w5 ⟨rfl, ⟨v5, hd5⟩, hf5⟩
          have HI5 : Hid (BtI w w5 gd gv gl gn (q + 1) L0 (opsOf (Ws.take (q + 1)))) := ⟨⟨v5, hd5⟩, HI.out.bel.trans hf5.bel⟩
          have HF5 := hid (HFR.out.trans hf5)
          clear hd5 hf5 HWR HI HFR x1
          go_wp2_with fail
          exact ⟨⟨q + 1, by go_num, hlt, HI5, HF5⟩, by simp only [intOf]; omega⟩
        · rw [if_neg hy] at HOP
          have HI5 : Hid (BtI w wr gd gv gl gn (q + 1) L0 (opsOf (Ws.take (q + 1)))) := by
            obtain ⟨v9, hv9⟩ := HI.out.dv
            rw [HOP.out]
            exact ⟨⟨v9, hv9.mono (Nat.le_succ _)⟩, HI.out.bel⟩
          have hyz : ¬ (Y.length : Int) ≤ 512 := by omega
          generalize Y.length = ny at *
          clear HI
          go_wp2_with fail
          exact ⟨⟨q + 1, by go_num, hlt, HI5, HFR⟩, by simp only [intOf]; omega⟩
      · have hqn : q = n := by omega
        subst hqn
        have hy1 : ¬ (q : Int) < (q : Int) := by omega
        have e : Ws.take q = Ws := by rw [HN.out, List.take_length]
        rw [e] at HI
        have hol : (opsOf Ws).length ≤ q := by rw [HN.out]; exact opsOf_len _
        obtain ⟨v9, hv9⟩ := HI.out.dv
        have HLO := hid (lose_ok w.heap.size gd gv gl gn (q + 2) v9 4 L0 (opsOf Ws) (-1) a2 cap2 Kp torn at_ wr hv9 (Kx.low HKP.out rfl HI.out.bel) HA4.out (by omega))
        unfold LosPost at HLO
        rw [← HNK.out] at HLO
        have HCL : Hid (∀ k, (loseF L0 (opsOf Ws) Kp torn at_ (opsOf Ws).length 2).getD k 0 = F.getD k 0 ∨ ∃ j, j < q ∧ (Ws.getD j []).length ≤ 512 ∧ (wholeL (Ws.getD j [])).getD k 0 = (loseF L0 (opsOf Ws) Kp torn at_ (opsOf Ws).length 2).getD k 0) := fun k => by
          rcases lose_byte (L := L0) (K := Kp) (torn := torn) (at_ := at_) (fun x hx => (hv9.okO x hx).1) 2 k (opsOf Ws).length (Nat.le_refl _) with h | ⟨x, hx, h⟩
          · rw [HL2.out] at h; exact .inl h
          · obtain ⟨j, hj, hjl, rfl⟩ := opsOf_mem hx
            exact .inr ⟨j, by rw [HN.out]; exact hj, hjl, h⟩
        have HX5 := hid (HX4.out.later HFR.out)
        have HBW := hid HI.out.bel
        clear hv9 HI HFR HX4 e
        go_wp2_with fail
        refine HLO.out.mono ?_
        rintro _ w6 ⟨gd2, gv2, gn2, rfl, hd6, _, hf6⟩
        have HX6 := hid (HX5.out.later hf6)
        have HB6 := hid (HBW.out.trans hf6.bel)
        have HRE := hid (read_ok w.heap.size gd2 gv2 gl gn2 _ _ 4 _ [] (-1) 2 w6 hd6 ⟨by omega, by omega⟩)
        unfold ReaPost at HRE
        have HBK := hid (hd6.okL 2)
        rw [show holdF (loseF L0 (opsOf Ws) Kp torn at_ (opsOf Ws).length) [] 2 = loseF L0 (opsOf Ws) Kp torn at_ (opsOf Ws).length 2 from rfl] at HRE
        generalize loseF L0 (opsOf Ws) Kp torn at_ (opsOf Ws).length 2 = B at *
        clear hd6 hf6 HLO HX5 HBW
        go_wp2_with fail
        refine HRE.out.mono ?_
        rintro _ w7 ⟨g, rfl, hg, hgs, hb7⟩
        have HX7 : Hid (∀ W, Below w7.heap.size w7 W → Ri W .u8 (some ⟨gf, of_, none⟩) cf F) := fun W hW => HX6.out W (Fr.of_below (Bn hb7 hW) HB6.out.size)
        have HG7 : Hid (∀ W, Below w7.heap.size w7 W → ∀ k, k < 512 → W.cell? ⟨g, k, none⟩ = some (.int .u8 (B.getD k 0))) := fun W hW k hk => by
          obtain ⟨b9, o9, e9, _, c9⟩ := ((ri_arr hg HBK.out).later hW).cells (by rw [HBK.out.len]; omega)
          cases e9
          have := c9 k (by rw [HBK.out.len]; exact hk)
          rwa [Nat.zero_add] at this
        have HB7 := hid (Bn HB6.out hb7)
        clear hg hgs hb7 HRE HX6 HB6 HL2
        go_wp2_with fail
        go_loopw [18] (fun k wr => ∃ p : Nat, k = .int .i64 (p : Int) ∧ p ≤ 512 ∧ Hid (Below w7.heap.size w7 wr)) (fun k _ => 512 - (intOf k).toNat)
        case atStart => exact ⟨0, rfl, Nat.zero_le _, Below.refl _ _⟩
        case round =>
          obtain ⟨p, rfl, hp, HBP⟩ := hrel
          by_cases hpl : p < 512
          · have hpz : (p : Int) < 512 := by omega
            have hpz0 : (0 : Int) ≤ (p : Int) := by omega
            go_wp2_with fail
            refine wp_region_held_drew (S := fun W => Below w7.heap.size w7 W) (by kernel_rfl) HBP.out.drew (fun hS0 => ?_)
            clear HBP
            generalize wr.drew = v0 at *
            have HFP : Hid (∀ W, Below w7.heap.size w7 W → W.cell? ⟨gf, of_ + p, none⟩ = some (.int .u8 (F.getD p 0))) := fun W hW => by
              obtain ⟨b9, o9, e9, _, c9⟩ := (HX7.out W hW).cells (by rw [HF.out.len]; omega)
              cases e9
              exact c9 p (by rw [HF.out.len]; exact hpl)
            have HGP : Hid (∀ W, Below w7.heap.size w7 W → W.cell? ⟨g, p, none⟩ = some (.int .u8 (B.getD p 0))) := fun W hW => HG7.out W hW p hpl
            have HCP := hid (HCL.out p)
            generalize F.getD p 0 = cF at *
            generalize B.getD p 0 = cB at *
            refine Ord.take (i := 0) (d := 97) (v := ?vya0) rfl rfl (by as_aux_lemma => kernel_rfl) (by as_aux_lemma => kernel_rfl) (by as_aux_lemma => kernel_rfl) (fun _ _ _ h => h) (by rfl) ?hya0 (by assumption) ?_
            case hya0 => intro w hSw; go_simp; try with_reducible rfl
            simp only [List.setIfInBounds_toArray, List.set_cons_zero, List.set_cons_succ]
            refine Ord.take (i := 1) (d := 98) (v := ?vya1) rfl rfl (by as_aux_lemma => kernel_rfl) (by as_aux_lemma => kernel_rfl) (by as_aux_lemma => kernel_rfl) (fun _ _ _ h => h) (by rfl) ?hya1 (by assumption) ?_
            case hya1 => intro w hSw; go_simp; try with_reducible rfl
            simp only [List.setIfInBounds_toArray, List.set_cons_zero, List.set_cons_succ]
            refine Ord.take (i := 2) (d := 99) (v := ?vya2) rfl rfl (by as_aux_lemma => kernel_rfl) (by as_aux_lemma => kernel_rfl) (by as_aux_lemma => kernel_rfl) (fun _ _ _ h => h) (by rfl) ?hya2 (by assumption) ?_
            case hya2 => intro w hSw; go_simp; try with_reducible rfl
            simp only [List.setIfInBounds_toArray, List.set_cons_zero, List.set_cons_succ]
            refine Ord.take (i := 3) (d := 100) (v := .int .u8 cB) rfl rfl (by as_aux_lemma => kernel_rfl) (by as_aux_lemma => kernel_rfl) (by as_aux_lemma => kernel_rfl) (fun _ _ _ h => h) (by rfl) ?hya3 (by assumption) ?_
            case hya3 => intro w hSw; have q9 := HGP.out w hSw; go_simp; try with_reducible rfl
            simp only [List.setIfInBounds_toArray, List.set_cons_zero, List.set_cons_succ]
            refine Ord.take (i := 4) (d := 101) (v := ?vya4) rfl rfl (by as_aux_lemma => kernel_rfl) (by as_aux_lemma => kernel_rfl) (by as_aux_lemma => kernel_rfl) (fun _ _ _ h => h) (by rfl) ?hya4 (by assumption) ?_
            case hya4 => intro w hSw; go_simp; try with_reducible rfl
            simp only [List.setIfInBounds_toArray, List.set_cons_zero, List.set_cons_succ]
            refine Ord.take (i := 5) (d := 102) (v := ?vya5) rfl rfl (by as_aux_lemma => kernel_rfl) (by as_aux_lemma => kernel_rfl) (by as_aux_lemma => kernel_rfl) (fun _ _ _ h => h) (by rfl) ?hya5 (by assumption) ?_
            case hya5 => intro w hSw; go_simp; try with_reducible rfl
            simp only [List.setIfInBounds_toArray, List.set_cons_zero, List.set_cons_succ]
            refine Ord.take (i := 6) (d := 103) (v := ?vya6) rfl rfl (by as_aux_lemma => kernel_rfl) (by as_aux_lemma => kernel_rfl) (by as_aux_lemma => kernel_rfl) (fun _ _ _ h => h) (by rfl) ?hya6 (by assumption) ?_
            case hya6 => intro w hSw; go_simp; try with_reducible rfl
            simp only [List.setIfInBounds_toArray, List.set_cons_zero, List.set_cons_succ]
            refine Ord.take (i := 7) (d := 104) (v := .int .u8 cF) rfl rfl (by as_aux_lemma => kernel_rfl) (by as_aux_lemma => kernel_rfl) (by as_aux_lemma => kernel_rfl) (fun _ _ _ h => h) (by rfl) ?hya7 (by assumption) ?_
            case hya7 => intro w hSw; have q9 := HFP.out w hSw; go_simp; try with_reducible rfl
            simp only [List.setIfInBounds_toArray, List.set_cons_zero, List.set_cons_succ]
            refine Ord.take (i := 8) (d := 105) (v := ?vya8) rfl rfl (by as_aux_lemma => kernel_rfl) (by as_aux_lemma => kernel_rfl) (by as_aux_lemma => kernel_rfl) (fun _ _ _ h => h) (by rfl) ?hya8 (by assumption) ?_
            case hya8 => intro w hSw; go_simp; try with_reducible rfl
            simp only [List.setIfInBounds_toArray, List.set_cons_zero, List.set_cons_succ]
            refine Ord.take (i := 9) (d := 19) (v := ?vya9) rfl rfl (by as_aux_lemma => kernel_rfl) (by as_aux_lemma => kernel_rfl) (by as_aux_lemma => kernel_rfl) (fun _ _ _ h => h) (by rfl) ?hya9 (by assumption) ?_
            case hya9 => intro w hSw; go_simp; try with_reducible rfl
            simp only [List.setIfInBounds_toArray, List.set_cons_zero, List.set_cons_succ]
            refine wpAnyH_done (by as_aux_lemma => kernel_rfl) ?_ _
            have HB0 := hid hS0
            clear hS0
            go_wp2_with fail
            go_loopw [19, 20] (fun o k wr => ∃ (ob : Bool) (r : Nat), o = .bool ob ∧ k = .int .i64 (r : Int) ∧ r ≤ q ∧ Hid (ob = true ∨ (cB ≠ cF ∧ ∀ j, j < r → ¬ ((Ws.getD j []).length ≤ 512 ∧ (wholeL (Ws.getD j [])).getD p 0 = cB))) ∧ Hid (Below w7.heap.size w7 wr)) (fun _ k _ => q - (intOf k).toNat)
            case atStart =>
              refine ⟨_, 0, rfl, rfl, Nat.zero_le _, ?_, HB0.out⟩
              by_cases h9 : cB = cF
              · exact .inl (by simp [h9])
              · exact .inr ⟨h9, fun j hj => absurd hj (Nat.not_lt_zero _)⟩
            case round =>
              clear HB0
              obtain ⟨ob, r, rfl, rfl, hr, HOB, HBR⟩ := hrel
              cases ob
              · by_cases hrl : r < q
                · have hrz : (r : Int) < (q : Int) := by omega
                  have hrz0 : (0 : Int) ≤ (r : Int) := by omega
                  obtain ⟨bL, oL, rfl, hbL, hcL⟩ := HP.out.cells (by rw [← HN.out]; omega)
                  obtain ⟨aj, cj, hce, hri⟩ := hcL r (by rw [← HN.out]; exact hrl)
                  have HXR : Hid (∀ W, Below w7.heap.size w7 W → W.cell? ⟨bL, oL + r, none⟩ = some (.slice aj (Ws.getD r []).length cj)) := fun W hW => ((Bn HB7.out hW).cell (p := ⟨bL, oL + r, none⟩) hbL).trans hce
                  have HRR := hid hri
                  have HOL := HOB
                  have HNX : Hid (∀ b : Bool, (b = true ∨ ¬ ((Ws.getD r []).length ≤ 512 ∧ (wholeL (Ws.getD r [])).getD p 0 = cB)) → (b = true ∨ (cB ≠ cF ∧ ∀ j, j < r + 1 → ¬ ((Ws.getD j []).length ≤ 512 ∧ (wholeL (Ws.getD j [])).getD p 0 = cB)))) := fun b hb => by
                    rcases hb with h | h
                    · exact .inl h
                    · rcases HOL.out with h2 | ⟨h2, h3⟩
                      · cases h2
                      · refine .inr ⟨h2, fun j hj => ?_⟩
                        by_cases hjr : j = r
                        · subst hjr; exact h
                        · exact h3 j (by omega)
                  clear hcL hce hri HOB HOL
                  generalize hYr : Ws.getD r [] = Y at *
                  clear hYr
                  obtain ⟨ny, hny⟩ : ∃ m, m = Y.length := ⟨_, rfl⟩
                  have HNY := hid hny
                  rw [← hny] at HXR
                  clear hny
                  by_cases hy : ny ≤ 512
                  · have hyz : (ny : Int) ≤ 512 := by omega
                    have HWP := hid (whole_blk (b := Y) (by rw [← HNY.out]; exact hy) (fits_of HRR.out))
                    have HWH : Hid (∀ W, Below w7.heap.size w7 W → Calls Try.prog 15 #[.slice aj ny cj] W (WhoPost Y W)) := fun W hW => by
                      have h1 := whole_ref aj cj Y W (HRR.out.later (Bn HB7.out hW)) (by rw [← HNY.out]; omega)
                      rw [← HNY.out] at h1
                      exact h1
                    unfold WhoPost at HWH
                    go_wp2_with fail
                    refine wp_region_held_drew (S := fun W => Below w7.heap.size w7 W) (by kernel_rfl) HBR.out.drew (fun hS0 => ?_)
                    clear HBR
                    generalize wr.drew = v1 at *
                    refine Ord.take (i := 0) (d := 116) (v := ?vyb0) rfl rfl (by as_aux_lemma => kernel_rfl) (by as_aux_lemma => kernel_rfl) (by as_aux_lemma => kernel_rfl) (fun _ _ _ h => h) (by rfl) ?hyb0 (by assumption) ?_
                    case hyb0 => intro w hSw; go_simp; try with_reducible rfl
                    simp only [List.setIfInBounds_toArray, List.set_cons_zero, List.set_cons_succ]
                    refine Ord.take (i := 1) (d := 117) (v := ?vyb1) rfl rfl (by as_aux_lemma => kernel_rfl) (by as_aux_lemma => kernel_rfl) (by as_aux_lemma => kernel_rfl) (fun _ _ _ h => h) (by rfl) ?hyb1 (by assumption) ?_
                    case hyb1 => intro w hSw; go_simp; try with_reducible rfl
                    simp only [List.setIfInBounds_toArray, List.set_cons_zero, List.set_cons_succ]
                    refine Ord.take (i := 2) (d := 118) (v := ?vyb2) rfl rfl (by as_aux_lemma => kernel_rfl) (by as_aux_lemma => kernel_rfl) (by as_aux_lemma => kernel_rfl) (fun _ _ _ h => h) (by rfl) ?hyb2 (by assumption) ?_
                    case hyb2 => intro w hSw; go_simp; try with_reducible rfl
                    simp only [List.setIfInBounds_toArray, List.set_cons_zero, List.set_cons_succ]
                    refine Ord.take (i := 3) (d := 119) (v := .slice aj ny cj) rfl rfl (by as_aux_lemma => kernel_rfl) (by as_aux_lemma => kernel_rfl) (by as_aux_lemma => kernel_rfl) (fun _ _ _ h => h) (by rfl) ?hyb3 (by assumption) ?_
                    case hyb3 => intro w hSw; have q9 := HXR.out w hSw; go_simp; try with_reducible rfl
                    simp only [List.setIfInBounds_toArray, List.set_cons_zero, List.set_cons_succ]
                    refine Ord.take (i := 4) (d := 120) (v := .int .i64 (ny : Int)) rfl rfl (by as_aux_lemma => kernel_rfl) (by as_aux_lemma => kernel_rfl) (by as_aux_lemma => kernel_rfl) (fun _ _ _ h => h) (by rfl) ?hyb4 (by assumption) ?_
                    case hyb4 => intro w hSw; go_simp; try with_reducible rfl
                    simp only [List.setIfInBounds_toArray, List.set_cons_zero, List.set_cons_succ]
                    refine Ord.take (i := 5) (d := 121) (v := .bool true) rfl rfl (by as_aux_lemma => kernel_rfl) (by as_aux_lemma => kernel_rfl) (by as_aux_lemma => kernel_rfl) (fun _ _ _ h => h) (by rfl) ?hyb5 (by assumption) ?_
                    case hyb5 => intro w hSw; go_simp; try with_reducible rfl
                    simp only [List.setIfInBounds_toArray, List.set_cons_zero, List.set_cons_succ]
                    refine Ord.take (i := 6) (d := 122) (v := ?vyb6) rfl rfl (by as_aux_lemma => kernel_rfl) (by as_aux_lemma => kernel_rfl) (by as_aux_lemma => kernel_rfl) (fun _ _ _ h => h) (by rfl) ?hyb6 (by assumption) ?_
                    case hyb6 => intro w hSw; go_simp; try with_reducible rfl
                    simp only [List.setIfInBounds_toArray, List.set_cons_zero, List.set_cons_succ]
                    refine Ord.take (i := 7) (d := 123) (v := ?vyb7) rfl rfl (by as_aux_lemma => kernel_rfl) (by as_aux_lemma => kernel_rfl) (by as_aux_lemma => kernel_rfl) (fun _ _ _ h => h) (by rfl) ?hyb7 (by assumption) ?_
                    case hyb7 => intro w hSw; go_simp; try with_reducible rfl
                    simp only [List.setIfInBounds_toArray, List.set_cons_zero, List.set_cons_succ]
                    refine Ord.take (i := 8) (d := 124) (v := ?vyb8) rfl rfl (by as_aux_lemma => kernel_rfl) (by as_aux_lemma => kernel_rfl) (by as_aux_lemma => kernel_rfl) (fun _ _ _ h => h) (by rfl) ?hyb8 (by assumption) ?_
                    case hyb8 => intro w hSw; go_simp; try with_reducible rfl
                    simp only [List.setIfInBounds_toArray, List.set_cons_zero, List.set_cons_succ]
                    refine Ord.take (i := 9) (d := 125) (v := ?vyb9) rfl rfl (by as_aux_lemma => kernel_rfl) (by as_aux_lemma => kernel_rfl) (by as_aux_lemma => kernel_rfl) (fun _ _ _ h => h) (by rfl) ?hyb9 (by assumption) ?_
                    case hyb9 => intro w hSw; go_simp; try with_reducible rfl
                    simp only [List.setIfInBounds_toArray, List.set_cons_zero, List.set_cons_succ]
                    refine Ord.take (i := 10) (d := 126) (v := .slice aj ny cj) rfl rfl (by as_aux_lemma => kernel_rfl) (by as_aux_lemma => kernel_rfl) (by as_aux_lemma => kernel_rfl) (fun _ _ _ h => h) (by rfl) ?hyb10 (by assumption) ?_
                    case hyb10 => intro w hSw; have q9 := HXR.out w hSw; go_simp; try with_reducible rfl
                    simp only [List.setIfInBounds_toArray, List.set_cons_zero, List.set_cons_succ]
                    refine Ord.take (i := 12) (d := 128) (v := ?vyb12) rfl rfl (by as_aux_lemma => kernel_rfl) (by as_aux_lemma => kernel_rfl) (by as_aux_lemma => kernel_rfl) (fun _ _ _ h => h) (by rfl) ?hyb12 (by assumption) ?_
                    case hyb12 => intro w hSw; go_simp; try with_reducible rfl
                    simp only [List.setIfInBounds_toArray, List.set_cons_zero, List.set_cons_succ]
                    refine Ord.take (i := 15) (d := 131) (v := ?vyb15) rfl rfl (by as_aux_lemma => kernel_rfl) (by as_aux_lemma => kernel_rfl) (by as_aux_lemma => kernel_rfl) (fun _ _ _ h => h) (by rfl) ?hyb15 (by assumption) ?_
                    case hyb15 => intro w hSw; go_simp; try with_reducible rfl
                    simp only [List.setIfInBounds_toArray, List.set_cons_zero, List.set_cons_succ]
                    refine Ord.take (i := 16) (d := 132) (v := ?vyb16) rfl rfl (by as_aux_lemma => kernel_rfl) (by as_aux_lemma => kernel_rfl) (by as_aux_lemma => kernel_rfl) (fun _ _ _ h => h) (by rfl) ?hyb16 (by assumption) ?_
                    case hyb16 => intro w hSw; go_simp; try with_reducible rfl
                    simp only [List.setIfInBounds_toArray, List.set_cons_zero, List.set_cons_succ]
                    refine Ord.take (i := 17) (d := 133) (v := ?vyb17) rfl rfl (by as_aux_lemma => kernel_rfl) (by as_aux_lemma => kernel_rfl) (by as_aux_lemma => kernel_rfl) (fun _ _ _ h => h) (by rfl) ?hyb17 (by assumption) ?_
                    case hyb17 => intro w hSw; go_simp; try with_reducible rfl
                    simp only [List.setIfInBounds_toArray, List.set_cons_zero, List.set_cons_succ]
                    refine Ord.take (i := 18) (d := 134) (v := .int .u8 cB) rfl rfl (by as_aux_lemma => kernel_rfl) (by as_aux_lemma => kernel_rfl) (by as_aux_lemma => kernel_rfl) (fun _ _ _ h => h) (by rfl) ?hyb18 (by assumption) ?_
                    case hyb18 => intro w hSw; have q9 := HGP.out w hSw; go_simp; try with_reducible rfl
                    simp only [List.setIfInBounds_toArray, List.set_cons_zero, List.set_cons_succ]
                    refine wpAnyH_ready (rs := [11]) (by as_aux_lemma => kernel_rfl) (by simp) (AllReadyH.cons rfl (fun KK hK => ?_) AllReadyH.nil)
                    go_simp
                    refine (HWH.out v1 hS0).mono ?_
                    rintro _ v2 ⟨vw, rfl, hown, hb2⟩
                    have hS2 := Bn hS0 hb2
                    refine hK.out _ _ hS2 (fun _ => ?_)
                    clear hK
                    rw [HWP.out.len] at hown
                    obtain ⟨gw, cw2, hvw⟩ : ∃ gw cw2, vw = .slice (some ⟨gw, 0, none⟩) 512 cw2 := by
                      rcases hown.2 with ⟨_, h9⟩ | ⟨gw, cw2, cur, h9, _⟩
                      · cases h9
                      · exact ⟨gw, cw2, h9⟩
                    subst hvw
                    have hcw := hown.cellAt p (by omega)
                    have hgw : gw < v2.heap.size := by
                      rcases hown.2 with ⟨h9, _⟩ | ⟨gw', cw', cur, h9, _, h10, _⟩
                      · cases h9
                      · cases h9; exact (Array.getElem?_eq_some_iff.1 h10).1
                    have hcw2 : v2.cell? ⟨gw, p, none⟩ = some (.int .u8 ((wholeL Y).getD p 0)) := by
                      rw [hcw, bytesV, List.getElem?_map, List.getElem?_eq_getElem (show p < (wholeL Y).length by rw [HWP.out.len]; exact hpl)]
                      simp [List.getD, List.getElem?_eq_getElem (show p < (wholeL Y).length by rw [HWP.out.len]; exact hpl)]
                    have HCW : Hid (∀ W, Below v2.heap.size v2 W → W.cell? ⟨gw, p, none⟩ = some (.int .u8 ((wholeL Y).getD p 0))) := fun W hW => (hW.cell (p := ⟨gw, p, none⟩) hgw).trans hcw2
                    clear hown hcw hcw2 hgw hb2
                    generalize (wholeL Y).getD p 0 = cW at *
                    refine Ord.more (S' := fun W => Below v2.heap.size v2 W) (fun W hW => Bn hS2 hW) _ _ _ _ ?_
                    have hS3 : Below v2.heap.size v2 v2 := Below.refl _ _
                    try simp only [List.setIfInBounds_toArray, List.set_cons_zero, List.set_cons_succ]
                    by_cases hcc : cW = cB
                    · subst hcc
                      refine Ord.take (i := 13) (d := 129) (v := ?vyc13) rfl rfl (by as_aux_lemma => kernel_rfl) (by as_aux_lemma => kernel_rfl) (by as_aux_lemma => kernel_rfl) (fun _ _ _ h => h) (by rfl) ?hyc13 (by assumption) ?_
                      case hyc13 => intro w hSw; go_simp; try with_reducible rfl
                      simp only [List.setIfInBounds_toArray, List.set_cons_zero, List.set_cons_succ]
                      refine Ord.take (i := 14) (d := 130) (v := .int .u8 cW) rfl rfl (by as_aux_lemma => kernel_rfl) (by as_aux_lemma => kernel_rfl) (by as_aux_lemma => kernel_rfl) (fun _ _ _ h => h) (by rfl) ?hyc14 (by assumption) ?_
                      case hyc14 => intro w hSw; have q9 := HCW.out w hSw; go_simp; try with_reducible rfl
                      simp only [List.setIfInBounds_toArray, List.set_cons_zero, List.set_cons_succ]
                      refine Ord.take (i := 19) (d := 135) (v := .bool true) rfl rfl (by as_aux_lemma => kernel_rfl) (by as_aux_lemma => kernel_rfl) (by as_aux_lemma => kernel_rfl) (fun _ _ _ h => h) (by rfl) ?hyc19 (by assumption) ?_
                      case hyc19 => intro w hSw; go_simp; try with_reducible rfl
                      simp only [List.setIfInBounds_toArray, List.set_cons_zero, List.set_cons_succ]
                      refine Ord.take (i := 20) (d := 136) (v := .bool true) rfl rfl (by as_aux_lemma => kernel_rfl) (by as_aux_lemma => kernel_rfl) (by as_aux_lemma => kernel_rfl) (fun _ _ _ h => h) (by rfl) ?hyc20 (by assumption) ?_
                      case hyc20 => intro w hSw; go_simp; try with_reducible rfl
                      simp only [List.setIfInBounds_toArray, List.set_cons_zero, List.set_cons_succ]
                      refine Ord.take (i := 21) (d := 19) (v := .bool true) rfl rfl (by as_aux_lemma => kernel_rfl) (by as_aux_lemma => kernel_rfl) (by as_aux_lemma => kernel_rfl) (fun _ _ _ h => h) (by rfl) ?hyc21 (by assumption) ?_
                      case hyc21 => intro w hSw; go_simp; try with_reducible rfl
                      simp only [List.setIfInBounds_toArray, List.set_cons_zero, List.set_cons_succ]
                      refine wpAnyH_done (by as_aux_lemma => kernel_rfl) ?_ _
                      have HBS := hid hS2
                      have HZZ := hid (HNX.out true (.inl rfl))
                      clear hS2 hS3 HNX HCW HWH HWP
                      go_wp2_with fail
                      exact ⟨⟨_, r + 1, rfl, by go_num, hrl, HZZ, HBS⟩, by simp only [intOf]; omega⟩
                    · have hce : (cW == cB) = false := by simpa using hcc
                      refine Ord.take (i := 13) (d := 129) (v := ?vyd13) rfl rfl (by as_aux_lemma => kernel_rfl) (by as_aux_lemma => kernel_rfl) (by as_aux_lemma => kernel_rfl) (fun _ _ _ h => h) (by rfl) ?hyd13 (by assumption) ?_
                      case hyd13 => intro w hSw; go_simp; try with_reducible rfl
                      simp only [List.setIfInBounds_toArray, List.set_cons_zero, List.set_cons_succ]
                      refine Ord.take (i := 14) (d := 130) (v := .int .u8 cW) rfl rfl (by as_aux_lemma => kernel_rfl) (by as_aux_lemma => kernel_rfl) (by as_aux_lemma => kernel_rfl) (fun _ _ _ h => h) (by rfl) ?hyd14 (by assumption) ?_
                      case hyd14 => intro w hSw; have q9 := HCW.out w hSw; go_simp; try with_reducible rfl
                      simp only [List.setIfInBounds_toArray, List.set_cons_zero, List.set_cons_succ]
                      refine Ord.take (i := 19) (d := 135) (v := .bool false) rfl rfl (by as_aux_lemma => kernel_rfl) (by as_aux_lemma => kernel_rfl) (by as_aux_lemma => kernel_rfl) (fun _ _ _ h => h) (by rfl) ?hyd19 (by assumption) ?_
                      case hyd19 => intro w hSw; go_simp; try with_reducible rfl
                      simp only [List.setIfInBounds_toArray, List.set_cons_zero, List.set_cons_succ]
                      refine Ord.take (i := 20) (d := 136) (v := .bool false) rfl rfl (by as_aux_lemma => kernel_rfl) (by as_aux_lemma => kernel_rfl) (by as_aux_lemma => kernel_rfl) (fun _ _ _ h => h) (by rfl) ?hyd20 (by assumption) ?_
                      case hyd20 => intro w hSw; go_simp; try with_reducible rfl
                      simp only [List.setIfInBounds_toArray, List.set_cons_zero, List.set_cons_succ]
                      refine Ord.take (i := 21) (d := 19) (v := .bool false) rfl rfl (by as_aux_lemma => kernel_rfl) (by as_aux_lemma => kernel_rfl) (by as_aux_lemma => kernel_rfl) (fun _ _ _ h => h) (by rfl) ?hyd21 (by assumption) ?_
                      case hyd21 => intro w hSw; go_simp; try with_reducible rfl
                      simp only [List.setIfInBounds_toArray, List.set_cons_zero, List.set_cons_succ]
                      refine wpAnyH_done (by as_aux_lemma => kernel_rfl) ?_ _
                      have HBS := hid hS2
                      have HZZ := hid (HNX.out false (.inr (fun h => hcc h.2)))
                      clear hS2 hS3 HNX HCW HWH HWP
                      go_wp2_with fail
                      exact ⟨⟨_, r + 1, rfl, by go_num, hrl, HZZ, HBS⟩, by simp only [intOf]; omega⟩
                  · have hyz : ¬ (ny : Int) ≤ 512 := by omega
                    go_wp2_with fail
                    refine wp_region_held_drew (S := fun W => Below w7.heap.size w7 W) (by kernel_rfl) HBR.out.drew (fun hS0 => ?_)
                    clear HBR
                    generalize wr.drew = v1 at *
                    refine Ord.take (i := 0) (d := 116) (v := ?vye0) rfl rfl (by as_aux_lemma => kernel_rfl) (by as_aux_lemma => kernel_rfl) (by as_aux_lemma => kernel_rfl) (fun _ _ _ h => h) (by rfl) ?hye0 (by assumption) ?_
                    case hye0 => intro w hSw; go_simp; try with_reducible rfl
                    simp only [List.setIfInBounds_toArray, List.set_cons_zero, List.set_cons_succ]
                    refine Ord.take (i := 1) (d := 117) (v := ?vye1) rfl rfl (by as_aux_lemma => kernel_rfl) (by as_aux_lemma => kernel_rfl) (by as_aux_lemma => kernel_rfl) (fun _ _ _ h => h) (by rfl) ?hye1 (by assumption) ?_
                    case hye1 => intro w hSw; go_simp; try with_reducible rfl
                    simp only [List.setIfInBounds_toArray, List.set_cons_zero, List.set_cons_succ]
                    refine Ord.take (i := 2) (d := 118) (v := ?vye2) rfl rfl (by as_aux_lemma => kernel_rfl) (by as_aux_lemma => kernel_rfl) (by as_aux_lemma => kernel_rfl) (fun _ _ _ h => h) (by rfl) ?hye2 (by assumption) ?_
                    case hye2 => intro w hSw; go_simp; try with_reducible rfl
                    simp only [List.setIfInBounds_toArray, List.set_cons_zero, List.set_cons_succ]
                    refine Ord.take (i := 3) (d := 119) (v := .slice aj ny cj) rfl rfl (by as_aux_lemma => kernel_rfl) (by as_aux_lemma => kernel_rfl) (by as_aux_lemma => kernel_rfl) (fun _ _ _ h => h) (by rfl) ?hye3 (by assumption) ?_
                    case hye3 => intro w hSw; have q9 := HXR.out w hSw; go_simp; try with_reducible rfl
                    simp only [List.setIfInBounds_toArray, List.set_cons_zero, List.set_cons_succ]
                    refine Ord.take (i := 4) (d := 120) (v := .int .i64 (ny : Int)) rfl rfl (by as_aux_lemma => kernel_rfl) (by as_aux_lemma => kernel_rfl) (by as_aux_lemma => kernel_rfl) (fun _ _ _ h => h) (by rfl) ?hye4 (by assumption) ?_
                    case hye4 => intro w hSw; go_simp; try with_reducible rfl
                    simp only [List.setIfInBounds_toArray, List.set_cons_zero, List.set_cons_succ]
                    refine Ord.take (i := 5) (d := 121) (v := .bool false) rfl rfl (by as_aux_lemma => kernel_rfl) (by as_aux_lemma => kernel_rfl) (by as_aux_lemma => kernel_rfl) (fun _ _ _ h => h) (by rfl) ?hye5 (by assumption) ?_
                    case hye5 => intro w hSw; go_simp; try with_reducible rfl
                    simp only [List.setIfInBounds_toArray, List.set_cons_zero, List.set_cons_succ]
                    refine Ord.take (i := 6) (d := 122) (v := ?vye6) rfl rfl (by as_aux_lemma => kernel_rfl) (by as_aux_lemma => kernel_rfl) (by as_aux_lemma => kernel_rfl) (fun _ _ _ h => h) (by rfl) ?hye6 (by assumption) ?_
                    case hye6 => intro w hSw; go_simp; try with_reducible rfl
                    simp only [List.setIfInBounds_toArray, List.set_cons_zero, List.set_cons_succ]
                    refine Ord.skip (i := 7) (d := 123) rfl rfl (by as_aux_lemma => kernel_rfl) (by as_aux_lemma => kernel_rfl) (by as_aux_lemma => kernel_rfl) (fun _ _ _ h => h) (by rfl) (by assumption) ?_
                    simp only [List.setIfInBounds_toArray, List.set_cons_zero, List.set_cons_succ]
                    refine Ord.skip (i := 8) (d := 124) rfl rfl (by as_aux_lemma => kernel_rfl) (by as_aux_lemma => kernel_rfl) (by as_aux_lemma => kernel_rfl) (fun _ _ _ h => h) (by rfl) (by assumption) ?_
                    simp only [List.setIfInBounds_toArray, List.set_cons_zero, List.set_cons_succ]
                    refine Ord.skip (i := 9) (d := 125) rfl rfl (by as_aux_lemma => kernel_rfl) (by as_aux_lemma => kernel_rfl) (by as_aux_lemma => kernel_rfl) (fun _ _ _ h => h) (by rfl) (by assumption) ?_
                    simp only [List.setIfInBounds_toArray, List.set_cons_zero, List.set_cons_succ]
                    refine Ord.skip (i := 10) (d := 126) rfl rfl (by as_aux_lemma => kernel_rfl) (by as_aux_lemma => kernel_rfl) (by as_aux_lemma => kernel_rfl) (fun _ _ _ h => h) (by rfl) (by assumption) ?_
                    simp only [List.setIfInBounds_toArray, List.set_cons_zero, List.set_cons_succ]
                    refine Ord.skip (i := 11) (d := 127) rfl rfl (by as_aux_lemma => kernel_rfl) (by as_aux_lemma => kernel_rfl) (by as_aux_lemma => kernel_rfl) (fun _ _ _ h => h) (by rfl) (by assumption) ?_
                    simp only [List.setIfInBounds_toArray, List.set_cons_zero, List.set_cons_succ]
                    refine Ord.skip (i := 12) (d := 128) rfl rfl (by as_aux_lemma => kernel_rfl) (by as_aux_lemma => kernel_rfl) (by as_aux_lemma => kernel_rfl) (fun _ _ _ h => h) (by rfl) (by assumption) ?_
                    simp only [List.setIfInBounds_toArray, List.set_cons_zero, List.set_cons_succ]
                    refine Ord.skip (i := 13) (d := 129) rfl rfl (by as_aux_lemma => kernel_rfl) (by as_aux_lemma => kernel_rfl) (by as_aux_lemma => kernel_rfl) (fun _ _ _ h => h) (by rfl) (by assumption) ?_
                    simp only [List.setIfInBounds_toArray, List.set_cons_zero, List.set_cons_succ]
                    refine Ord.skip (i := 14) (d := 130) rfl rfl (by as_aux_lemma => kernel_rfl) (by as_aux_lemma => kernel_rfl) (by as_aux_lemma => kernel_rfl) (fun _ _ _ h => h) (by rfl) (by assumption) ?_
                    simp only [List.setIfInBounds_toArray, List.set_cons_zero, List.set_cons_succ]
                    refine Ord.skip (i := 15) (d := 131) rfl rfl (by as_aux_lemma => kernel_rfl) (by as_aux_lemma => kernel_rfl) (by as_aux_lemma => kernel_rfl) (fun _ _ _ h => h) (by rfl) (by assumption) ?_
                    simp only [List.setIfInBounds_toArray, List.set_cons_zero, List.set_cons_succ]
                    refine Ord.skip (i := 16) (d := 132) rfl rfl (by as_aux_lemma => kernel_rfl) (by as_aux_lemma => kernel_rfl) (by as_aux_lemma => kernel_rfl) (fun _ _ _ h => h) (by rfl) (by assumption) ?_
                    simp only [List.setIfInBounds_toArray, List.set_cons_zero, List.set_cons_succ]
                    refine Ord.skip (i := 17) (d := 133) rfl rfl (by as_aux_lemma => kernel_rfl) (by as_aux_lemma => kernel_rfl) (by as_aux_lemma => kernel_rfl) (fun _ _ _ h => h) (by rfl) (by assumption) ?_
                    simp only [List.setIfInBounds_toArray, List.set_cons_zero, List.set_cons_succ]
                    refine Ord.skip (i := 18) (d := 134) rfl rfl (by as_aux_lemma => kernel_rfl) (by as_aux_lemma => kernel_rfl) (by as_aux_lemma => kernel_rfl) (fun _ _ _ h => h) (by rfl) (by assumption) ?_
                    simp only [List.setIfInBounds_toArray, List.set_cons_zero, List.set_cons_succ]
                    refine Ord.skip (i := 19) (d := 135) rfl rfl (by as_aux_lemma => kernel_rfl) (by as_aux_lemma => kernel_rfl) (by as_aux_lemma => kernel_rfl) (fun _ _ _ h => h) (by rfl) (by assumption) ?_
                    simp only [List.setIfInBounds_toArray, List.set_cons_zero, List.set_cons_succ]
                    refine Ord.take (i := 20) (d := 136) (v := .bool false) rfl rfl (by as_aux_lemma => kernel_rfl) (by as_aux_lemma => kernel_rfl) (by as_aux_lemma => kernel_rfl) (fun _ _ _ h => h) (by rfl) ?hye20 (by assumption) ?_
                    case hye20 => intro w hSw; go_simp; try with_reducible rfl
                    simp only [List.setIfInBounds_toArray, List.set_cons_zero, List.set_cons_succ]
                    refine Ord.take (i := 21) (d := 19) (v := .bool false) rfl rfl (by as_aux_lemma => kernel_rfl) (by as_aux_lemma => kernel_rfl) (by as_aux_lemma => kernel_rfl) (fun _ _ _ h => h) (by rfl) ?hye21 (by assumption) ?_
                    case hye21 => intro w hSw; go_simp; try with_reducible rfl
                    simp only [List.setIfInBounds_toArray, List.set_cons_zero, List.set_cons_succ]
                    refine wpAnyH_done (by as_aux_lemma => kernel_rfl) ?_ _
                    have HBS := hid hS0
                    have HZZ := hid (HNX.out false (.inr (fun h => hy (by rw [HNY.out]; exact h.1))))
                    clear hS0 HNX
                    go_wp2_with fail
                    exact ⟨⟨_, r + 1, rfl, by go_num, hrl, HZZ, HBS⟩, by simp only [intOf]; omega⟩
                · have hrz : ¬ (r : Int) < (q : Int) := by omega
                  have hF : False := by
                    rcases HOB.out with h | ⟨h1, h2⟩
                    · cases h
                    · rcases HCP.out with h | ⟨j, hj, h3, h4⟩
                      · exact h1 h
                      · exact h2 j (by omega) ⟨h3, h4⟩
                  exact hF.elim
              · by_cases hrl : r < q
                · have hrz : (r : Int) < (q : Int) := by omega
                  go_wp2_with fail
                  exact ⟨⟨p + 1, by go_num, hpl, HBR⟩, by simp only [intOf]; omega⟩
                · have hrz : ¬ (r : Int) < (q : Int) := by omega
                  go_wp2_with fail
                  exact ⟨⟨p + 1, by go_num, hpl, HBR⟩, by simp only [intOf]; omega⟩
          · have hpz : ¬ (p : Int) < 512 := by omega
            have HB9 := hid (Bn HB7.out HBP.out)
            clear HBP
            go_wp2_with fail
            refine (alive_any wr).mono ?_
            rintro _ w9 ⟨rfl, hb9⟩
            have HBZ := hid (Bn HB9.out hb9)
            clear hb9
            go_wp2_with fail
            go_ret
            exact ⟨rfl, HBZ.out⟩

set_option maxRecDepth 100000 in
theorem lifted (os : Os) (started : os.Started) (H : Type) (enc : TypeId × Value → H) :
    ReturnsInHanded {} Try.checked os 5 .any (Rows.diskBytesSpec.pre6 enc Try.prog Try.f5 Rows.diskBytesRow.domain false) (Rows.diskBytesSpec.post enc Try.prog Try.f5 false true false false) := by
  refine returnsInHanded_of_change (C := Try.checked) own started (by kernel_rfl) Try.func5
    (ChangeSpec.witness6 (enc := enc) (C := Try.checked) false ⟨#[], #[.slice none 0 0, .slice none 0 0, .slice none 0 0, .int .i64 0, .int .i64 0], []⟩ 8 (by kernel_rfl) (by kernel_rfl) (by kernel_rfl) (by kernel_rfl)) ?_
  intro W base args ds gs before hval0 hW _ _
  have hval : ∀ (j : Nat) t v, Try.f5.params[j]? = some t → args[j]? = some v → Value.okWide Try.prog W .any base t v := hval0
  have hW' := hW
  obtain ⟨p, q, hA0, hV, rfl, _, _⟩ := hW
  have hA : DataW.TrodAll enc Try.prog W 0 (fun _ => true) true Try.f5.params.toList args.toList ds p := hA0
  rw [Try.params5] at hA hval
  obtain ⟨v0, vs0, d0, ds0, p0, q0, hargs, rfl, rfl, h0, r0⟩ := trodAll_cons hA
  obtain ⟨v1, vs1, d1, ds1, p1, q1, rfl, rfl, rfl, h1, r1⟩ := trodAll_cons r0
  obtain ⟨v2, vs2, d2, ds2, p2, q2, rfl, rfl, rfl, h2, r2⟩ := trodAll_cons r1
  obtain ⟨v3, vs3, d3, ds3, p3, q3, rfl, rfl, rfl, h3, r3⟩ := trodAll_cons r2
  obtain ⟨v4, vs4, d4, ds4, p4, q4, rfl, rfl, rfl, h4, r4⟩ := trodAll_cons r3
  obtain ⟨rfl, rfl, rfl⟩ := trodAll_nil r4
  obtain rfl : args = #[v0, v1, v2, v3, v4] := by cases args; simp_all
  obtain ⟨rfl, rfl⟩ := trodVars_none hV
  obtain ⟨a3, rfl, rfl, rfl, w3⟩ := open_int Try.underlying3 (hval 3 3 v3 rfl rfl) h3
  obtain ⟨a4, rfl, rfl, rfl, w4⟩ := open_int Try.underlying3 (hval 4 3 v4 rfl rfl) h4
  clear hA0
  simp only [List.append_nil] at hW'
  have hlt0 : ∀ x ∈ p0, x.block < W.heap.size := fun x hx => hW'.lt x (by simp [hx])
  have hk0 := h0
  obtain ⟨a0, cap0, zs0, rfl, hr0⟩ := open_ri Try.underlying33 Try.underlying5 Try.cells5 (hval 0 33 v0 rfl rfl) h0 hlt0
  have hlt1 : ∀ x ∈ p1, x.block < W.heap.size := fun x hx => hW'.lt x (by simp [hx])
  have hk1 := h1
  obtain ⟨a1, cap1, zs1, rfl, hr1⟩ := open_ps (hval 1 44 v1 rfl rfl) h1 hlt1
  have hlt2 : ∀ x ∈ p2, x.block < W.heap.size := fun x hx => hW'.lt x (by simp [hx])
  have hk2 := h2
  obtain ⟨a2, cap2, zs2, rfl, hr2⟩ := open_bls (hval 2 34 v2 rfl rfl) h2 hlt2
  clear hval0
  refine (walk a0 cap0 zs0 a1 cap1 zs1 a2 cap2 zs2 a3 w3 a4 w4 W hr0 hr1 hr2).mono fun e W' ⟨he, hb⟩ => ?_
  subst he
  exact ⟨_, rfl, _, _, _, [] ++ [], _, [], hW', trodAll_cons_mk (shut_bool Try.underlying4 _) trodAll_mk0, (trodAll_cons_mk (Below.trod Try.laidOut (by kernel_rfl) (of_decide_eq_true (by kernel_rfl)) hk0 hb hlt0) (trodAll_cons_mk (Below.trod Try.laidOut (by kernel_rfl) (of_decide_eq_true (by kernel_rfl)) hk1 hb hlt1) (trodAll_cons_mk (Below.trod Try.laidOut (by kernel_rfl) (of_decide_eq_true (by kernel_rfl)) hk2 hb hlt2) (trodAll_cons_mk (shut_int Try.underlying3 w3) (trodAll_cons_mk (shut_int Try.underlying3 w4) trodAll_mk0))))), rfl, hb.frame _, fun h => by cases h⟩

theorem over : Rows.diskBytesRow.holds Try.pinned (OpenSpec.ofChange Rows.diskBytesSpec) :=
  OpenClaim.holds_of_wide 5 Try.f5 rfl rfl rfl rfl rfl rfl rfl ⟨rfl, rfl, rfl, rfl, rfl⟩ rfl rfl rfl rfl rfl (by kernel_rfl) Try.func5 (by kernel_rfl)
    (of_decide_eq_true (by kernel_rfl)) (by unfold Func.isWrapper; first | (rw [if_pos (by decide +kernel)]; kernel_rfl) | (rw [if_neg (by decide +kernel)]; exact ⟨rfl, rfl⟩))
    (fun os started H enc _ => lifted os started H enc)

end Go.Proofs.Ytldgiimkkgmgaaa.diskBytes
namespace Go.Proofs.Ytldgiimkkgmgaaa
theorem diskBytes_holds : Rows.DiskBytesSaid := diskBytes.over
#print axioms diskBytes_holds
end Go.Proofs.Ytldgiimkkgmgaaa
