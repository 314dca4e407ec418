/-
  DiskSyncs is proved for every input: what was synced stays; no condition.
-/
import Derived.Test.YtldgiimkkgmgaaaPart14
import Derived.Test.YtldgiimkkgmgaaaPart07
import Derived.Test.YtldgiimkkgmgaaaPart01
namespace Go.Proofs.Ytldgiimkkgmgaaa.diskSyncs
open Go.ChangeShapes Go.WideShapes Go.ChangeAt Go.RowKit

theorem own : ownKnob Try.prog.godebug = none := by kernel_rfl

theorem size36 : (Try.prog.info? 36).map (·.size) = some 7 := by kernel_rfl
theorem Rv_mono {W : World} {base b2 gr n : Nat} {vL vW : Value} {L : Int → List Int} {O : List (Int × List Int)} {f : Int} (h : Rv W b2 gr vL vW n L O f) (hb : base ≤ b2) : Rv W base gr vL vW n L O f := by
  obtain ⟨xs, h1, h2⟩ := h.rowL
  obtain ⟨ys, h3, h4⟩ := h.rowW
  exact ⟨h.blk, ⟨xs, own_mono h1 hb, h2⟩, ⟨ys, own_mono h3 hb, h4⟩, h.okO, h.okF, h.okN, Nat.le_trans hb h.bg⟩
theorem stO_len (x : OpZ) (n f : Int) (O : List (Int × List Int)) : (stO x n f O).length ≤ O.length + 1 := by
  unfold stO
  split
  · unfold wrO; split
    · simp
    · omega
  · split
    · unfold syO; split
      · omega
      · simp
    · split
      · simp
      · split
        · split
          · unfold rotO; simp
          · omega
        · omega
theorem fold_none (i : Int) : ∀ (O : List (Int × List Int)) (c : List Int), (∀ x ∈ O, x.1 ≠ i) → O.foldl (fun b x => if x.1 = i then x.2 else b) c = c
  | [], _, _ => rfl
  | x :: xs, c, h => by
    rw [List.foldl_cons, if_neg (h x (by simp))]
    exact fold_none i xs c (fun y hy => h y (by simp [hy]))
theorem holdF_none (L : Int → List Int) (i : Int) (O : List (Int × List Int)) (h : ∀ x ∈ O, x.1 ≠ i) : holdF L O i = L i := fold_none i O _ h
theorem loseF_none (L : Int → List Int) (O : List (Int × List Int)) (K : List Bool) (torn at_ : Int) (i : Int) (h : ∀ x ∈ O, x.1 ≠ i) : ∀ q, q ≤ O.length → loseF L O K torn at_ q i = L i
  | 0, _ => rfl
  | q + 1, hq => by
    unfold loseF setI
    rw [if_neg (fun e => h _ (getD_mem (show q < O.length by omega)) e.symm)]
    exact loseF_none L O K torn at_ i h q (by omega)
theorem setI_other {L : Int → List Int} {i j : Int} {b : List Int} (h : i ≠ j) : setI L j b i = L i := by unfold setI; rw [if_neg h]
/-- A synced block stays under every act but a write to it and Rot. -/
theorem stays (x : OpZ) (n f : Int) (L : Int → List Int) (O : List (Int × List Int)) (i : Int) (h1 : ¬ (x.kind = 1 ∧ x.i = i)) (h5 : x.kind ≠ 5) (h : ∀ y ∈ O, y.1 ≠ i) : stL x n f L O i = L i ∧ ∀ y ∈ stO x n f O, y.1 ≠ i := by
  unfold stL stO
  by_cases k1 : x.kind = 1
  · rw [if_neg (by omega), if_neg (by omega), if_neg h5, if_pos k1]
    refine ⟨rfl, fun y hy => ?_⟩
    unfold wrO at hy
    split at hy
    · rcases List.mem_append.1 hy with h9 | h9
      · exact h y h9
      · rw [List.mem_singleton] at h9
        subst h9
        exact fun e => h1 ⟨k1, e⟩
    · exact h y hy
  · rw [if_neg k1]
    by_cases k3 : x.kind = 3
    · rw [if_pos k3, if_pos k3]
      unfold syL syO
      split
      · exact ⟨rfl, h⟩
      · exact ⟨holdF_none L i O h, fun y hy => by cases hy⟩
    · rw [if_neg k3, if_neg k3]
      by_cases k4 : x.kind = 4
      · rw [if_pos k4, if_pos k4]
        exact ⟨loseF_none L O _ _ _ i h _ (Nat.le_refl _), fun y hy => by cases hy⟩
      · rw [if_neg k4, if_neg k4, if_neg h5, if_neg h5]
        exact ⟨rfl, h⟩
theorem sy_f (i : Int) (len : Nat) : wrF 12 (-1) i len = -1 := by unfold wrF; split <;> rfl
theorem wrO_len (size fuse i : Int) (O : List (Int × List Int)) (zs : List Int) : (wrO size fuse i O zs).length ≤ O.length + 1 := by
  unfold wrO
  split
  · simp
  · omega
structure SyI (w wr : World) (gd gv gl gn gr q : Nat) (v vL vW : Value) (L1 : Int → List Int) (O1 : List (Int × List Int)) (L2 : Int → List Int) (O2 : List (Int × List Int)) (f : Int) : Prop where
  dv : Dv wr w.heap.size gd gv gl gn v (q * 200) 12 L1 O1 f
  rv : Rv wr w.heap.size gr vL vW 12 L2 O2 f
  len1 : O1.length ≤ q
  len2 : O2.length ≤ q
  bel : Below w.heap.size w wr
set_option maxHeartbeats 6400000 in
set_option maxRecDepth 100000 in
theorem walk (a : Option Addr) (cap : Nat) (ls : List OpZ) (a2 : Option Addr) (cap2 : Nat) (ms : List OpZ) (i : Int) (_ : (Lit.int .i64 i).wf = true) (w : World) (hr : Ro w a cap ls) (hr2 : Ro w a2 cap2 ms) :
    Calls Try.prog 4 #[.slice a ls.length cap, .slice a2 ms.length cap2, .int .i64 i] w fun e w' => e = .returned (.bool true) ∧ Below w.heap.size w w' := by
  have hm : ls.length ≤ 9223372036854775807 := by have h1 := hr.room; have h2 := hr.most; unfold maxLen at h2; omega
  have hm2 : ms.length ≤ 9223372036854775807 := by have h1 := hr2.room; have h2 := hr2.most; unfold maxLen at h2; omega
  have HR := hid hr
  have HQ := hid hr2
  obtain ⟨m, hme⟩ : ∃ m, m = ls.length := ⟨_, rfl⟩
  have HM := hid hme
  obtain ⟨m2, hme2⟩ : ∃ m, m = ms.length := ⟨_, rfl⟩
  have HM2 := hid hme2
  rw [← hme] at hm
  rw [← hme2] at hm2
  rw [← hme, ← hme2]
  clear hr hr2 hme hme2
  have HNW := hid (new_ok 12 w ⟨by omega, by omega⟩)
  unfold NewPost at HNW
  have HRW0 : Hid (∀ w1, Calls Try.prog 9 #[.int .i64 12] w1 (RnPost 12 w1)) := fun w1 => rnew_ref 12 w1 ⟨by omega, by omega⟩
  unfold RnPost at HRW0
  by_cases hi : 0 ≤ i ∧ i < 12
  case neg =>
    by_cases h1 : i < 0
    · skip
      skip
      go_enter Try.func4, Try.ntmps4
      go_wp2_with fail
      refine HNW.out.mono ?_
      rintro _ w1 ⟨gd, gv, gl, gn, rfl, hd, hb⟩
      have HD := hid hd
      have HB := hid hb
      clear hd hb HNW
      go_wp2_with fail
      refine (HRW0.out w1).mono ?_
      rintro _ w2 ⟨gr, vL, rfl, hr2, hb2⟩
      have HB2 := hid (Bn HB.out hb2)
      clear hr2 hb2 HRW0 HD HB
      go_wp2_with fail
      refine (alive_any w2).mono ?_
      rintro _ w3 ⟨rfl, hb3⟩
      have HB3 := hid (Bn HB2.out hb3)
      clear hb3
      go_wp2_with fail
      go_ret
      exact ⟨rfl, HB3.out⟩
    · have h2 : 12 ≤ i := by omega
      skip
      go_enter Try.func4, Try.ntmps4
      go_wp2_with fail
      refine HNW.out.mono ?_
      rintro _ w1 ⟨gd, gv, gl, gn, rfl, hd, hb⟩
      have HD := hid hd
      have HB := hid hb
      clear hd hb HNW
      go_wp2_with fail
      refine (HRW0.out w1).mono ?_
      rintro _ w2 ⟨gr, vL, rfl, hr2, hb2⟩
      have HB2 := hid (Bn HB.out hb2)
      clear hr2 hb2 HRW0 HD HB
      go_wp2_with fail
      refine (alive_any w2).mono ?_
      rintro _ w3 ⟨rfl, hb3⟩
      have HB3 := hid (Bn HB2.out hb3)
      clear hb3
      go_wp2_with fail
      go_ret
      exact ⟨rfl, HB3.out⟩
  obtain ⟨j1, j2⟩ := hi
  have HJ : Hid (0 ≤ i ∧ i < 12) := ⟨j1, j2⟩
  have j3 : ¬ i < 0 := by omega
  have j4 : ¬ 12 ≤ i := by omega
  go_enter Try.func4, Try.ntmps4
  go_wp2_with fail
  refine HNW.out.mono ?_
  rintro _ w1 ⟨gd, gv, gl, gn, rfl, hd, hb⟩
  have HD := hid hd
  have HB := hid hb
  clear hd hb HNW
  go_wp2_with fail
  refine (HRW0.out w1).mono ?_
  rintro _ w2 ⟨gr, vL, rfl, hr2, hb2⟩
  have HI0 : Hid (SyI w w2 gd gv gl gn gr 0 (.slice none 0 0) vL nilV (fun _ => z512) [] (fun _ => z512) [] (-1)) := ⟨HD.out.below hb2, Rv_mono hr2 HB.out.size, Nat.le_refl _, Nat.le_refl _, Bn HB.out hb2⟩
  clear hr2 hb2 HRW0 HD HB
  go_wp2_with fail
  go_loopw [11] (fun k wr => ∃ (q : Nat) (v vL vW : Value) (O1 O2 : List (Int × List Int)), k = .int .i64 (q : Int) ∧ q ≤ m ∧ q ≤ 60 ∧ Hid (SyI w wr gd gv gl gn gr q v vL vW (fun _ => z512) O1 (fun _ => z512) O2 (-1))) (fun k _ => 60 - (intOf k).toNat)
  case atStart => exact ⟨0, _, _, _, _, _, rfl, Nat.zero_le _, Nat.zero_le _, HI0⟩
  case round =>
    clear HI0
    obtain ⟨q, v, vL, vW, O1, O2, rfl, hq, hq2, HI⟩ := hrel
    by_cases hl : q < m ∧ q < 60
    · obtain ⟨hl1, hl2⟩ := hl
      have hy1 : (q : Int) < (m : Int) := by omega
      have hy2 : (q : Int) < 60 := by omega
      have hy3 : (0 : Int) ≤ (q : Int) := by omega
      obtain ⟨bL, oL, rfl, hbL, hcL⟩ := HR.out.cells (by rw [← HM.out]; omega)
      obtain ⟨ab, cb, ak, ck, hrg, hop⟩ := hcL q (by rw [← HM.out]; exact hl1)
      have y0 := (HI.out.bel.cell (p := ⟨bL, oL + q * 7, none⟩) hbL).trans (hrg 0 _ rfl)
      have y1 := (HI.out.bel.cell (p := ⟨bL, oL + q * 7 + 1, none⟩) hbL).trans (hrg 1 _ rfl)
      have y2 := (HI.out.bel.cell (p := ⟨bL, oL + q * 7 + 2, none⟩) hbL).trans (hrg 2 _ rfl)
      have y3 := (HI.out.bel.cell (p := ⟨bL, oL + q * 7 + 3, none⟩) hbL).trans (hrg 3 _ rfl)
      have y4 := (HI.out.bel.cell (p := ⟨bL, oL + q * 7 + 4, none⟩) hbL).trans (hrg 4 _ rfl)
      have y5 := (HI.out.bel.cell (p := ⟨bL, oL + q * 7 + 5, none⟩) hbL).trans (hrg 5 _ rfl)
      have y6 := (HI.out.bel.cell (p := ⟨bL, oL + q * 7 + 6, none⟩) hbL).trans (hrg 6 _ rfl)
      generalize hx : ls.getD q default = x at *
      by_cases hk : x.kind = 1
      · have HLE1 := hid (wrO_len 12 (-1) x.i O1 (x.b.take 600))
        have HLE2 := hid (wrO_len 12 (-1) x.i O2 (x.b.take 600))
        have HLO1 := hid HI.out.len1
        have HLO2 := hid HI.out.len2
        have HAC := hid (ac1s w wr w.heap.size gd gv gl gn (q * 200) v 12 (fun _ => z512) O1 (-1) gr vL vW (fun _ => z512) O2 x ab cb ak ck rfl HI.out.bel hop HI.out.dv HI.out.rv (by have := HLO1.out; omega) (by have := HLO1.out; omega) (by have := HLO2.out; omega) hk)
        unfold AcPost1 at HAC
        unfold opV at HAC
        rw [show ((12 : Nat) : Int) = 12 from rfl, sy_f] at HAC
        rw [hk] at HAC y0
        clear hcL hrg hop hx
        go_wp2_with fail
        refine HAC.out.mono ?_
        rintro _ w3 ⟨v3, vW3, rfl, hd3, hr3, hf3⟩
        have HN4 : Hid (SyI w w3 gd gv gl gn gr (q + 1) v3 vL vW3 (fun _ => z512) (wrO 12 (-1) x.i O1 (x.b.take 600)) (fun _ => z512) (wrO 12 (-1) x.i O2 (x.b.take 600)) (-1)) := ⟨hd3.mono (by omega), hr3, by have := HLE1.out; have := HLO1.out; omega, by have := HLE2.out; have := HLO2.out; omega, HI.out.bel.trans hf3.bel⟩
        clear hd3 hr3 hf3 HAC HI y0 y1 y2 y3 y4 y5 y6
        go_wp2_with fail
        exact ⟨⟨q + 1, _, _, _, _, _, by go_num, hl1, hl2, HN4⟩, by simp only [intOf]; omega⟩
      · have HN4 : Hid (SyI w wr gd gv gl gn gr (q + 1) v vL vW (fun _ => z512) O1 (fun _ => z512) O2 (-1)) := ⟨HI.out.dv.mono (by omega), HI.out.rv, by have := HI.out.len1; omega, by have := HI.out.len2; omega, HI.out.bel⟩
        clear hcL hrg hop hx HI
        go_wp2_with fail
        exact ⟨⟨q + 1, _, _, _, _, _, by go_num, hl1, hl2, HN4⟩, by simp only [intOf]; omega⟩
    · have HRE := hid (read_ok w.heap.size gd gv gl gn (q * 200) v 12 (fun _ => z512) O1 (-1) i wr HI.out.dv HJ.out)
      unfold ReaPost at HRE
      have HBK : Hid (Blk (holdF (fun _ => z512) O1 i)) := holdF_blk HI.out.dv.okL (fun x hx => (HI.out.dv.okO x hx).1) i
      have HEND : Hid (∀ {P : Prop}, (∀ (hy : (q : Int) < (m : Int) ∧ ¬ (q : Int) < 60), P) → (∀ (hy : ¬ (q : Int) < (m : Int)), P) → P) := fun h1 h2 => by
        by_cases h9 : (q : Int) < (m : Int)
        · exact h1 ⟨h9, by omega⟩
        · exact h2 h9
      refine HEND.out (fun hy => ?_) (fun hy => ?_)
      · obtain ⟨hy1, hy2⟩ := hy
        clear HEND hl
        go_wp2_with fail
        refine HRE.out.mono ?_
        rintro _ w3 ⟨g, rfl, hg, _, hb3⟩
        have HD3 := hid (HI.out.dv.below hb3)
        have HSY := hid (sync_ok w.heap.size gd gv gl gn (q * 200) v 12 (fun _ => z512) O1 (-1) w3 HD3.out (by have := HI.out.len1; omega))
        unfold SynPost at HSY
        rw [show burnE (-1) = 0 from rfl, show burnF (-1) = -1 from rfl, show syL (-1) (fun _ => z512) O1 = holdF (fun _ => z512) O1 from rfl, show syO (-1) O1 = [] from rfl] at HSY
        have HR3 := hid (HI.out.rv.below hb3)
        have HB3 := hid (Bn HI.out.bel hb3)
        have HG3 := hid hg
        have HLN := hid HI.out.len1
        have HLN2 := hid HI.out.len2
        clear hg hb3 HRE HI
        go_wp2_with fail
        refine HSY.out.mono ?_
        rintro _ w4 ⟨rfl, ⟨v4, hd4⟩, hf4⟩
        have HI4 : Hid (SyI w w4 gd gv gl gn gr 61 v4 vL vW (holdF (fun _ => z512) O1) [] (fun _ => z512) O2 (-1)) := ⟨hd4.mono (by have := HLN.out; omega), HR3.out.code hf4, Nat.zero_le _, by have := HLN2.out; omega, HB3.out.trans hf4.bel⟩
        have HG4 : Hid (w4.heap[g]? = some (.cells (bytesV (holdF (fun _ => z512) O1 i)).toArray 73 (0, 0))) := hf4.typ g _ 73 _ (by decide) (by decide) HG3.out
        have HEQ : Hid (holdF (fun _ => z512) O1 i = holdF (fun _ => z512) O1 i) := rfl
        generalize hLL : holdF (fun _ => z512) O1 = LL at *
        obtain ⟨BB, hBB⟩ : ∃ B, B = LL i := ⟨_, rfl⟩
        have HE1 : Hid (LL i = BB) := hBB.symm
        rw [← hBB] at HG4 HBK
        clear hBB hLL hd4 hf4 HSY HD3 HR3 HB3 HG3 HEQ
        generalize (syN (-1) O1 : Int) = sn at *
        go_wp2_with fail
        go_loopw [7, 9, 16] (fun d r k wr => ∃ (q gd gv gl gn gr : Nat) (v vL vW : Value) (L1 : Int → List Int) (O1 : List (Int × List Int)) (L2 : Int → List Int) (O2 : List (Int × List Int)) (f : Int), d = .pointer (some ⟨gd, 0, none⟩) ∧ r = .pointer (some ⟨gr, 0, none⟩) ∧ k = .int .i64 (q : Int) ∧ q ≤ m2 ∧ q ≤ 60 ∧ Hid (SyI w wr gd gv gl gn gr (61 + q) v vL vW L1 O1 L2 O2 f) ∧ Hid (wr.heap[g]? = some (.cells (bytesV BB).toArray 73 (0, 0))) ∧ Hid (L1 i = BB ∧ ∀ y ∈ O1, y.1 ≠ i)) (fun _ _ k _ => 60 - (intOf k).toNat)
        case atStart => exact ⟨0, gd, gv, gl, gn, gr, _, _, _, _, _, _, _, _, rfl, rfl, rfl, Nat.zero_le _, Nat.zero_le _, HI4, HG4, HE1.out, fun y hy => by cases hy⟩
        case round =>
          clear HI4 HG4 HE1 HLN HLN2
          try clear hy
          obtain ⟨q, gd, gv, gl, gn, gr, v, vL, vW, L1, O1, L2, O2, f, rfl, rfl, rfl, hq, hq2, HI, HG, HE⟩ := hrel
          by_cases hl1 : q < m2
          · by_cases hl2 : q < 60
            · have hy1 : (q : Int) < (m2 : Int) := by omega
              have hy2 : (q : Int) < 60 := by omega
              have hy3 : (0 : Int) ≤ (q : Int) := by omega
              obtain ⟨bL, oL, rfl, hbL, hcL⟩ := HQ.out.cells (by rw [← HM2.out]; omega)
              obtain ⟨ab, cb, ak, ck, hrg, hop⟩ := hcL q (by rw [← HM2.out]; exact hl1)
              have y0 := (HI.out.bel.cell (p := ⟨bL, oL + q * 7, none⟩) hbL).trans (hrg 0 _ rfl)
              have y1 := (HI.out.bel.cell (p := ⟨bL, oL + q * 7 + 1, none⟩) hbL).trans (hrg 1 _ rfl)
              have y2 := (HI.out.bel.cell (p := ⟨bL, oL + q * 7 + 2, none⟩) hbL).trans (hrg 2 _ rfl)
              have y3 := (HI.out.bel.cell (p := ⟨bL, oL + q * 7 + 3, none⟩) hbL).trans (hrg 3 _ rfl)
              have y4 := (HI.out.bel.cell (p := ⟨bL, oL + q * 7 + 4, none⟩) hbL).trans (hrg 4 _ rfl)
              have y5 := (HI.out.bel.cell (p := ⟨bL, oL + q * 7 + 5, none⟩) hbL).trans (hrg 5 _ rfl)
              have y6 := (HI.out.bel.cell (p := ⟨bL, oL + q * 7 + 6, none⟩) hbL).trans (hrg 6 _ rfl)
              have HOP := hid hop
              clear hcL hrg hop
              generalize ms.getD q default = x at *
              by_cases k1 : x.kind = 1
              · by_cases ki : x.i = i
                · go_wp2_with fail
                  refine ⟨⟨q + 1, gd, gv, gl, gn, gr, v, vL, vW, L1, O1, L2, O2, f, rfl, rfl, by go_num, hl1, hl2, ?_, ?_, HE⟩, by simp only [intOf]; omega⟩
                  · exact ⟨(HI.out.dv.below (bel_alloc _ _)).mono (by omega), HI.out.rv.below (bel_alloc _ _), by have := HI.out.len1; omega, by have := HI.out.len2; omega, Bn HI.out.bel (bel_alloc _ _)⟩
                  · exact ((bel_alloc _ _).block g (Array.getElem?_eq_some_iff.1 HG.out).1).trans HG.out
                · have HLE1 := hid (stO_len x 12 f O1)
                  have HLE2 := hid (stO_len x 12 f O2)
                  have HLO1 := hid HI.out.len1
                  have HLO2 := hid HI.out.len2
                  have HST := hid (stays x 12 f L1 O1 i (fun h => ki h.2) (by omega) HE.out.2)
                  have HAC : Hid (∀ W, Below wr.heap.size wr W → Calls Try.prog 11 #[.pointer (some ⟨gd, 0, none⟩), .pointer (some ⟨gr, 0, none⟩), .agg (opV x ab cb ak ck).toArray] W (AcPost w.heap.size ((61 + q) * 200) 12 L1 O1 L2 O2 f x W)) := fun W hW => act_ok w W w.heap.size gd gv gl gn ((61 + q) * 200) v 12 L1 O1 f gr vL vW L2 O2 x ab cb ak ck rfl (Bn HI.out.bel hW) HOP.out (HI.out.dv.below hW) (HI.out.rv.below hW) (by have := HLO1.out; omega) (by have := HLO1.out; omega) (by have := HLO2.out; omega)
                  unfold AcPost at HAC
                  unfold opV at HAC
                  rw [k1] at HAC
                  go_wp2_with fail
                  refine (HAC.out _ (bel_alloc _ _)).mono ?_
                  rintro _ w5 ⟨gd5, gv5, gl5, gn5, v5, gr5, vL5, vW5, b5, rfl, hd5, hr5, _, hf5⟩
                  have HN5 : Hid (SyI w w5 gd5 gv5 gl5 gn5 gr5 (61 + (q + 1)) v5 vL5 vW5 (stL x 12 f L1 O1) (stO x 12 f O1) (stL x 12 f L2 O2) (stO x 12 f O2) (stF x 12 f)) := ⟨hd5.mono (by have := HLO1.out; omega), hr5, by have := HLE1.out; have := HLO1.out; omega, by have := HLE2.out; have := HLO2.out; omega, (Bn HI.out.bel (bel_alloc _ _)).trans hf5.bel⟩
                  have HG5 : Hid (w5.heap[g]? = some (.cells (bytesV BB).toArray 73 (0, 0))) := hf5.typ g _ 73 _ (by decide) (by decide) (by decide) (by decide) (by decide) (((bel_alloc _ _).block g (Array.getElem?_eq_some_iff.1 HG.out).1).trans HG.out)
                  have HE5 : Hid (stL x 12 f L1 O1 i = BB ∧ ∀ y ∈ stO x 12 f O1, y.1 ≠ i) := ⟨HST.out.1.trans HE.out.1, HST.out.2⟩
                  clear hd5 hr5 hf5 HAC HI HG HE HST y0 y1 y2 y3 y4 y5 y6
                  go_wp2_with fail
                  exact ⟨⟨q + 1, gd5, gv5, gl5, gn5, gr5, _, _, _, _, _, _, _, _, rfl, rfl, by go_num, hl1, hl2, HN5, HG5, HE5⟩, by simp only [intOf]; omega⟩
              · by_cases k5 : x.kind = 5
                · go_wp2_with fail
                  refine ⟨⟨q + 1, gd, gv, gl, gn, gr, v, vL, vW, L1, O1, L2, O2, f, rfl, rfl, by go_num, hl1, hl2, ?_, ?_, HE⟩, by simp only [intOf]; omega⟩
                  · exact ⟨(HI.out.dv.below (bel_alloc _ _)).mono (by omega), HI.out.rv.below (bel_alloc _ _), by have := HI.out.len1; omega, by have := HI.out.len2; omega, Bn HI.out.bel (bel_alloc _ _)⟩
                  · exact ((bel_alloc _ _).block g (Array.getElem?_eq_some_iff.1 HG.out).1).trans HG.out
                · have HLE1 := hid (stO_len x 12 f O1)
                  have HLE2 := hid (stO_len x 12 f O2)
                  have HLO1 := hid HI.out.len1
                  have HLO2 := hid HI.out.len2
                  have HST := hid (stays x 12 f L1 O1 i (fun h => k1 h.1) k5 HE.out.2)
                  have HAC : Hid (∀ W, Below wr.heap.size wr W → Calls Try.prog 11 #[.pointer (some ⟨gd, 0, none⟩), .pointer (some ⟨gr, 0, none⟩), .agg (opV x ab cb ak ck).toArray] W (AcPost w.heap.size ((61 + q) * 200) 12 L1 O1 L2 O2 f x W)) := fun W hW => act_ok w W w.heap.size gd gv gl gn ((61 + q) * 200) v 12 L1 O1 f gr vL vW L2 O2 x ab cb ak ck rfl (Bn HI.out.bel hW) HOP.out (HI.out.dv.below hW) (HI.out.rv.below hW) (by have := HLO1.out; omega) (by have := HLO1.out; omega) (by have := HLO2.out; omega)
                  unfold AcPost at HAC
                  unfold opV at HAC
                  go_wp2_with fail
                  refine (HAC.out _ (bel_alloc _ _)).mono ?_
                  rintro _ w5 ⟨gd5, gv5, gl5, gn5, v5, gr5, vL5, vW5, b5, rfl, hd5, hr5, _, hf5⟩
                  have HN5 : Hid (SyI w w5 gd5 gv5 gl5 gn5 gr5 (61 + (q + 1)) v5 vL5 vW5 (stL x 12 f L1 O1) (stO x 12 f O1) (stL x 12 f L2 O2) (stO x 12 f O2) (stF x 12 f)) := ⟨hd5.mono (by have := HLO1.out; omega), hr5, by have := HLE1.out; have := HLO1.out; omega, by have := HLE2.out; have := HLO2.out; omega, (Bn HI.out.bel (bel_alloc _ _)).trans hf5.bel⟩
                  have HG5 : Hid (w5.heap[g]? = some (.cells (bytesV BB).toArray 73 (0, 0))) := hf5.typ g _ 73 _ (by decide) (by decide) (by decide) (by decide) (by decide) (((bel_alloc _ _).block g (Array.getElem?_eq_some_iff.1 HG.out).1).trans HG.out)
                  have HE5 : Hid (stL x 12 f L1 O1 i = BB ∧ ∀ y ∈ stO x 12 f O1, y.1 ≠ i) := ⟨HST.out.1.trans HE.out.1, HST.out.2⟩
                  clear hd5 hr5 hf5 HAC HI HG HE HST y0 y1 y2 y3 y4 y5 y6
                  go_wp2_with fail
                  exact ⟨⟨q + 1, gd5, gv5, gl5, gn5, gr5, _, _, _, _, _, _, _, _, rfl, rfl, by go_num, hl1, hl2, HN5, HG5, HE5⟩, by simp only [intOf]; omega⟩
            · have hy1 : (q : Int) < (m2 : Int) := by omega
              have hy2 : ¬ (q : Int) < 60 := by omega
              have HRE := hid (read_ok w.heap.size gd gv gl gn _ v 12 L1 O1 f i wr HI.out.dv HJ.out)
              rw [holdF_none _ _ _ HE.out.2, HE.out.1] at HRE
              unfold ReaPost at HRE
              go_wp2_with fail
              refine HRE.out.mono ?_
              rintro _ w5 ⟨g5, rfl, hg5, _, hb5⟩
              have hs1 := (ri_arr hg5 HBK.out).str
              have hs2 := (ri_arr (W := w5) ((hb5.block g (Array.getElem?_eq_some_iff.1 HG.out).1).trans HG.out) HBK.out).str
              rw [HBK.out.len] at hs1 hs2
              have HB5 := hid (Bn HI.out.bel hb5)
              clear hg5 hb5 HRE HI HG HE
              generalize strOfNums BB = t1 at *
              go_wp2_with fail
              refine (alive_any w5).mono ?_
              rintro _ w6 ⟨rfl, hb6⟩
              have HB6 := hid (Bn HB5.out hb6)
              clear hb6
              go_wp2_with fail
              go_ret
              exact ⟨rfl, HB6.out⟩
          · have hy1 : ¬ (q : Int) < (m2 : Int) := by omega
            have HRE := hid (read_ok w.heap.size gd gv gl gn _ v 12 L1 O1 f i wr HI.out.dv HJ.out)
            rw [holdF_none _ _ _ HE.out.2, HE.out.1] at HRE
            unfold ReaPost at HRE
            go_wp2_with fail
            refine HRE.out.mono ?_
            rintro _ w5 ⟨g5, rfl, hg5, _, hb5⟩
            have hs1 := (ri_arr hg5 HBK.out).str
            have hs2 := (ri_arr (W := w5) ((hb5.block g (Array.getElem?_eq_some_iff.1 HG.out).1).trans HG.out) HBK.out).str
            rw [HBK.out.len] at hs1 hs2
            have HB5 := hid (Bn HI.out.bel hb5)
            clear hg5 hb5 HRE HI HG HE
            generalize strOfNums BB = t1 at *
            go_wp2_with fail
            refine (alive_any w5).mono ?_
            rintro _ w6 ⟨rfl, hb6⟩
            have HB6 := hid (Bn HB5.out hb6)
            clear hb6
            go_wp2_with fail
            go_ret
            exact ⟨rfl, HB6.out⟩
      · clear HEND hl
        go_wp2_with fail
        refine HRE.out.mono ?_
        rintro _ w3 ⟨g, rfl, hg, _, hb3⟩
        have HD3 := hid (HI.out.dv.below hb3)
        have HSY := hid (sync_ok w.heap.size gd gv gl gn (q * 200) v 12 (fun _ => z512) O1 (-1) w3 HD3.out (by have := HI.out.len1; omega))
        unfold SynPost at HSY
        rw [show burnE (-1) = 0 from rfl, show burnF (-1) = -1 from rfl, show syL (-1) (fun _ => z512) O1 = holdF (fun _ => z512) O1 from rfl, show syO (-1) O1 = [] from rfl] at HSY
        have HR3 := hid (HI.out.rv.below hb3)
        have HB3 := hid (Bn HI.out.bel hb3)
        have HG3 := hid hg
        have HLN := hid HI.out.len1
        have HLN2 := hid HI.out.len2
        clear hg hb3 HRE HI
        go_wp2_with fail
        refine HSY.out.mono ?_
        rintro _ w4 ⟨rfl, ⟨v4, hd4⟩, hf4⟩
        have HI4 : Hid (SyI w w4 gd gv gl gn gr 61 v4 vL vW (holdF (fun _ => z512) O1) [] (fun _ => z512) O2 (-1)) := ⟨hd4.mono (by have := HLN.out; omega), HR3.out.code hf4, Nat.zero_le _, by have := HLN2.out; omega, HB3.out.trans hf4.bel⟩
        have HG4 : Hid (w4.heap[g]? = some (.cells (bytesV (holdF (fun _ => z512) O1 i)).toArray 73 (0, 0))) := hf4.typ g _ 73 _ (by decide) (by decide) HG3.out
        have HEQ : Hid (holdF (fun _ => z512) O1 i = holdF (fun _ => z512) O1 i) := rfl
        generalize hLL : holdF (fun _ => z512) O1 = LL at *
        obtain ⟨BB, hBB⟩ : ∃ B, B = LL i := ⟨_, rfl⟩
        have HE1 : Hid (LL i = BB) := hBB.symm
        rw [← hBB] at HG4 HBK
        clear hBB hLL hd4 hf4 HSY HD3 HR3 HB3 HG3 HEQ
        generalize (syN (-1) O1 : Int) = sn at *
        go_wp2_with fail
        go_loopw [7, 9, 16] (fun d r k wr => ∃ (q gd gv gl gn gr : Nat) (v vL vW : Value) (L1 : Int → List Int) (O1 : List (Int × List Int)) (L2 : Int → List Int) (O2 : List (Int × List Int)) (f : Int), d = .pointer (some ⟨gd, 0, none⟩) ∧ r = .pointer (some ⟨gr, 0, none⟩) ∧ k = .int .i64 (q : Int) ∧ q ≤ m2 ∧ q ≤ 60 ∧ Hid (SyI w wr gd gv gl gn gr (61 + q) v vL vW L1 O1 L2 O2 f) ∧ Hid (wr.heap[g]? = some (.cells (bytesV BB).toArray 73 (0, 0))) ∧ Hid (L1 i = BB ∧ ∀ y ∈ O1, y.1 ≠ i)) (fun _ _ k _ => 60 - (intOf k).toNat)
        case atStart => exact ⟨0, gd, gv, gl, gn, gr, _, _, _, _, _, _, _, _, rfl, rfl, rfl, Nat.zero_le _, Nat.zero_le _, HI4, HG4, HE1.out, fun y hy => by cases hy⟩
        case round =>
          clear HI4 HG4 HE1 HLN HLN2
          try clear hy
          obtain ⟨q, gd, gv, gl, gn, gr, v, vL, vW, L1, O1, L2, O2, f, rfl, rfl, rfl, hq, hq2, HI, HG, HE⟩ := hrel
          by_cases hl1 : q < m2
          · by_cases hl2 : q < 60
            · have hy1 : (q : Int) < (m2 : Int) := by omega
              have hy2 : (q : Int) < 60 := by omega
              have hy3 : (0 : Int) ≤ (q : Int) := by omega
              obtain ⟨bL, oL, rfl, hbL, hcL⟩ := HQ.out.cells (by rw [← HM2.out]; omega)
              obtain ⟨ab, cb, ak, ck, hrg, hop⟩ := hcL q (by rw [← HM2.out]; exact hl1)
              have y0 := (HI.out.bel.cell (p := ⟨bL, oL + q * 7, none⟩) hbL).trans (hrg 0 _ rfl)
              have y1 := (HI.out.bel.cell (p := ⟨bL, oL + q * 7 + 1, none⟩) hbL).trans (hrg 1 _ rfl)
              have y2 := (HI.out.bel.cell (p := ⟨bL, oL + q * 7 + 2, none⟩) hbL).trans (hrg 2 _ rfl)
              have y3 := (HI.out.bel.cell (p := ⟨bL, oL + q * 7 + 3, none⟩) hbL).trans (hrg 3 _ rfl)
              have y4 := (HI.out.bel.cell (p := ⟨bL, oL + q * 7 + 4, none⟩) hbL).trans (hrg 4 _ rfl)
              have y5 := (HI.out.bel.cell (p := ⟨bL, oL + q * 7 + 5, none⟩) hbL).trans (hrg 5 _ rfl)
              have y6 := (HI.out.bel.cell (p := ⟨bL, oL + q * 7 + 6, none⟩) hbL).trans (hrg 6 _ rfl)
              have HOP := hid hop
              clear hcL hrg hop
              generalize ms.getD q default = x at *
              by_cases k1 : x.kind = 1
              · by_cases ki : x.i = i
                · go_wp2_with fail
                  refine ⟨⟨q + 1, gd, gv, gl, gn, gr, v, vL, vW, L1, O1, L2, O2, f, rfl, rfl, by go_num, hl1, hl2, ?_, ?_, HE⟩, by simp only [intOf]; omega⟩
                  · exact ⟨(HI.out.dv.below (bel_alloc _ _)).mono (by omega), HI.out.rv.below (bel_alloc _ _), by have := HI.out.len1; omega, by have := HI.out.len2; omega, Bn HI.out.bel (bel_alloc _ _)⟩
                  · exact ((bel_alloc _ _).block g (Array.getElem?_eq_some_iff.1 HG.out).1).trans HG.out
                · have HLE1 := hid (stO_len x 12 f O1)
                  have HLE2 := hid (stO_len x 12 f O2)
                  have HLO1 := hid HI.out.len1
                  have HLO2 := hid HI.out.len2
                  have HST := hid (stays x 12 f L1 O1 i (fun h => ki h.2) (by omega) HE.out.2)
                  have HAC : Hid (∀ W, Below wr.heap.size wr W → Calls Try.prog 11 #[.pointer (some ⟨gd, 0, none⟩), .pointer (some ⟨gr, 0, none⟩), .agg (opV x ab cb ak ck).toArray] W (AcPost w.heap.size ((61 + q) * 200) 12 L1 O1 L2 O2 f x W)) := fun W hW => act_ok w W w.heap.size gd gv gl gn ((61 + q) * 200) v 12 L1 O1 f gr vL vW L2 O2 x ab cb ak ck rfl (Bn HI.out.bel hW) HOP.out (HI.out.dv.below hW) (HI.out.rv.below hW) (by have := HLO1.out; omega) (by have := HLO1.out; omega) (by have := HLO2.out; omega)
                  unfold AcPost at HAC
                  unfold opV at HAC
                  rw [k1] at HAC
                  go_wp2_with fail
                  refine (HAC.out _ (bel_alloc _ _)).mono ?_
                  rintro _ w5 ⟨gd5, gv5, gl5, gn5, v5, gr5, vL5, vW5, b5, rfl, hd5, hr5, _, hf5⟩
                  have HN5 : Hid (SyI w w5 gd5 gv5 gl5 gn5 gr5 (61 + (q + 1)) v5 vL5 vW5 (stL x 12 f L1 O1) (stO x 12 f O1) (stL x 12 f L2 O2) (stO x 12 f O2) (stF x 12 f)) := ⟨hd5.mono (by have := HLO1.out; omega), hr5, by have := HLE1.out; have := HLO1.out; omega, by have := HLE2.out; have := HLO2.out; omega, (Bn HI.out.bel (bel_alloc _ _)).trans hf5.bel⟩
                  have HG5 : Hid (w5.heap[g]? = some (.cells (bytesV BB).toArray 73 (0, 0))) := hf5.typ g _ 73 _ (by decide) (by decide) (by decide) (by decide) (by decide) (((bel_alloc _ _).block g (Array.getElem?_eq_some_iff.1 HG.out).1).trans HG.out)
                  have HE5 : Hid (stL x 12 f L1 O1 i = BB ∧ ∀ y ∈ stO x 12 f O1, y.1 ≠ i) := ⟨HST.out.1.trans HE.out.1, HST.out.2⟩
                  clear hd5 hr5 hf5 HAC HI HG HE HST y0 y1 y2 y3 y4 y5 y6
                  go_wp2_with fail
                  exact ⟨⟨q + 1, gd5, gv5, gl5, gn5, gr5, _, _, _, _, _, _, _, _, rfl, rfl, by go_num, hl1, hl2, HN5, HG5, HE5⟩, by simp only [intOf]; omega⟩
              · by_cases k5 : x.kind = 5
                · go_wp2_with fail
                  refine ⟨⟨q + 1, gd, gv, gl, gn, gr, v, vL, vW, L1, O1, L2, O2, f, rfl, rfl, by go_num, hl1, hl2, ?_, ?_, HE⟩, by simp only [intOf]; omega⟩
                  · exact ⟨(HI.out.dv.below (bel_alloc _ _)).mono (by omega), HI.out.rv.below (bel_alloc _ _), by have := HI.out.len1; omega, by have := HI.out.len2; omega, Bn HI.out.bel (bel_alloc _ _)⟩
                  · exact ((bel_alloc _ _).block g (Array.getElem?_eq_some_iff.1 HG.out).1).trans HG.out
                · have HLE1 := hid (stO_len x 12 f O1)
                  have HLE2 := hid (stO_len x 12 f O2)
                  have HLO1 := hid HI.out.len1
                  have HLO2 := hid HI.out.len2
                  have HST := hid (stays x 12 f L1 O1 i (fun h => k1 h.1) k5 HE.out.2)
                  have HAC : Hid (∀ W, Below wr.heap.size wr W → Calls Try.prog 11 #[.pointer (some ⟨gd, 0, none⟩), .pointer (some ⟨gr, 0, none⟩), .agg (opV x ab cb ak ck).toArray] W (AcPost w.heap.size ((61 + q) * 200) 12 L1 O1 L2 O2 f x W)) := fun W hW => act_ok w W w.heap.size gd gv gl gn ((61 + q) * 200) v 12 L1 O1 f gr vL vW L2 O2 x ab cb ak ck rfl (Bn HI.out.bel hW) HOP.out (HI.out.dv.below hW) (HI.out.rv.below hW) (by have := HLO1.out; omega) (by have := HLO1.out; omega) (by have := HLO2.out; omega)
                  unfold AcPost at HAC
                  unfold opV at HAC
                  go_wp2_with fail
                  refine (HAC.out _ (bel_alloc _ _)).mono ?_
                  rintro _ w5 ⟨gd5, gv5, gl5, gn5, v5, gr5, vL5, vW5, b5, rfl, hd5, hr5, _, hf5⟩
                  have HN5 : Hid (SyI w w5 gd5 gv5 gl5 gn5 gr5 (61 + (q + 1)) v5 vL5 vW5 (stL x 12 f L1 O1) (stO x 12 f O1) (stL x 12 f L2 O2) (stO x 12 f O2) (stF x 12 f)) := ⟨hd5.mono (by have := HLO1.out; omega), hr5, by have := HLE1.out; have := HLO1.out; omega, by have := HLE2.out; have := HLO2.out; omega, (Bn HI.out.bel (bel_alloc _ _)).trans hf5.bel⟩
                  have HG5 : Hid (w5.heap[g]? = some (.cells (bytesV BB).toArray 73 (0, 0))) := hf5.typ g _ 73 _ (by decide) (by decide) (by decide) (by decide) (by decide) (((bel_alloc _ _).block g (Array.getElem?_eq_some_iff.1 HG.out).1).trans HG.out)
                  have HE5 : Hid (stL x 12 f L1 O1 i = BB ∧ ∀ y ∈ stO x 12 f O1, y.1 ≠ i) := ⟨HST.out.1.trans HE.out.1, HST.out.2⟩
                  clear hd5 hr5 hf5 HAC HI HG HE HST y0 y1 y2 y3 y4 y5 y6
                  go_wp2_with fail
                  exact ⟨⟨q + 1, gd5, gv5, gl5, gn5, gr5, _, _, _, _, _, _, _, _, rfl, rfl, by go_num, hl1, hl2, HN5, HG5, HE5⟩, by simp only [intOf]; omega⟩
            · have hy1 : (q : Int) < (m2 : Int) := by omega
              have hy2 : ¬ (q : Int) < 60 := by omega
              have HRE := hid (read_ok w.heap.size gd gv gl gn _ v 12 L1 O1 f i wr HI.out.dv HJ.out)
              rw [holdF_none _ _ _ HE.out.2, HE.out.1] at HRE
              unfold ReaPost at HRE
              go_wp2_with fail
              refine HRE.out.mono ?_
              rintro _ w5 ⟨g5, rfl, hg5, _, hb5⟩
              have hs1 := (ri_arr hg5 HBK.out).str
              have hs2 := (ri_arr (W := w5) ((hb5.block g (Array.getElem?_eq_some_iff.1 HG.out).1).trans HG.out) HBK.out).str
              rw [HBK.out.len] at hs1 hs2
              have HB5 := hid (Bn HI.out.bel hb5)
              clear hg5 hb5 HRE HI HG HE
              generalize strOfNums BB = t1 at *
              go_wp2_with fail
              refine (alive_any w5).mono ?_
              rintro _ w6 ⟨rfl, hb6⟩
              have HB6 := hid (Bn HB5.out hb6)
              clear hb6
              go_wp2_with fail
              go_ret
              exact ⟨rfl, HB6.out⟩
          · have hy1 : ¬ (q : Int) < (m2 : Int) := by omega
            have HRE := hid (read_ok w.heap.size gd gv gl gn _ v 12 L1 O1 f i wr HI.out.dv HJ.out)
            rw [holdF_none _ _ _ HE.out.2, HE.out.1] at HRE
            unfold ReaPost at HRE
            go_wp2_with fail
            refine HRE.out.mono ?_
            rintro _ w5 ⟨g5, rfl, hg5, _, hb5⟩
            have hs1 := (ri_arr hg5 HBK.out).str
            have hs2 := (ri_arr (W := w5) ((hb5.block g (Array.getElem?_eq_some_iff.1 HG.out).1).trans HG.out) HBK.out).str
            rw [HBK.out.len] at hs1 hs2
            have HB5 := hid (Bn HI.out.bel hb5)
            clear hg5 hb5 HRE HI HG HE
            generalize strOfNums BB = t1 at *
            go_wp2_with fail
            refine (alive_any w5).mono ?_
            rintro _ w6 ⟨rfl, hb6⟩
            have HB6 := hid (Bn HB5.out hb6)
            clear hb6
            go_wp2_with fail
            go_ret
            exact ⟨rfl, HB6.out⟩

set_option maxRecDepth 100000 in
theorem lifted (os : Os) (started : os.Started) (H : Type) (enc : TypeId × Value → H) :
    ReturnsInHanded {} Try.checked os 4 .any (Rows.diskSyncsSpec.pre6 enc Try.prog Try.f4 Rows.diskSyncsRow.domain false) (Rows.diskSyncsSpec.post enc Try.prog Try.f4 false true false false) := by
  refine returnsInHanded_of_change (C := Try.checked) own started (by kernel_rfl) Try.func4
    (ChangeSpec.witness6 (enc := enc) (C := Try.checked) false ⟨#[], #[.slice none 0 0, .slice none 0 0, .int .i64 0], []⟩ 8 (by kernel_rfl) (by kernel_rfl) (by kernel_rfl) (by kernel_rfl)) ?_
  intro W base args ds gs before hval0 hW _ _
  have hval : ∀ (j : Nat) t v, Try.f4.params[j]? = some t → args[j]? = some v → Value.okWide Try.prog W .any base t v := hval0
  have hW' := hW
  obtain ⟨p, q, hA0, hV, rfl, _, _⟩ := hW
  have hA : DataW.TrodAll enc Try.prog W 0 (fun _ => true) true Try.f4.params.toList args.toList ds p := hA0
  rw [Try.params4] at hA hval
  obtain ⟨v0, vs0, d0, ds0, p0, q0, hargs, rfl, rfl, h0, r0⟩ := trodAll_cons hA
  obtain ⟨v1, vs1, d1, ds1, p1, q1, rfl, rfl, rfl, h1, r1⟩ := trodAll_cons r0
  obtain ⟨v2, vs2, d2, ds2, p2, q2, rfl, rfl, rfl, h2, r2⟩ := trodAll_cons r1
  obtain ⟨rfl, rfl, rfl⟩ := trodAll_nil r2
  obtain rfl : args = #[v0, v1, v2] := by cases args; simp_all
  obtain ⟨rfl, rfl⟩ := trodVars_none hV
  obtain ⟨a2, rfl, rfl, rfl, w2⟩ := open_int Try.underlying3 (hval 2 3 v2 rfl rfl) h2
  clear hA0
  simp only [List.append_nil] at hW'
  have hlt0 : ∀ x ∈ p0, x.block < W.heap.size := fun x hx => hW'.lt x (by simp [hx])
  have hk0 := h0
  obtain ⟨a0, cap0, zs0, rfl, hr0⟩ := open_ro (hval 0 22 v0 rfl rfl) h0 hlt0
  have hlt1 : ∀ x ∈ p1, x.block < W.heap.size := fun x hx => hW'.lt x (by simp [hx])
  have hk1 := h1
  obtain ⟨a1, cap1, zs1, rfl, hr1⟩ := open_ro (hval 1 22 v1 rfl rfl) h1 hlt1
  clear hval0
  refine (walk a0 cap0 zs0 a1 cap1 zs1 a2 w2 W hr0 hr1).mono fun e W' ⟨he, hb⟩ => ?_
  subst he
  exact ⟨_, rfl, _, _, _, [] ++ [], _, [], hW', trodAll_cons_mk (shut_bool Try.underlying4 _) trodAll_mk0, (trodAll_cons_mk (Below.trod Try.laidOut (by kernel_rfl) (of_decide_eq_true (by kernel_rfl)) hk0 hb hlt0) (trodAll_cons_mk (Below.trod Try.laidOut (by kernel_rfl) (of_decide_eq_true (by kernel_rfl)) hk1 hb hlt1) (trodAll_cons_mk (shut_int Try.underlying3 w2) trodAll_mk0))), rfl, hb.frame _, fun h => by cases h⟩

theorem over : Rows.diskSyncsRow.holds Try.pinned (OpenSpec.ofChange Rows.diskSyncsSpec) :=
  OpenClaim.holds_of_wide 4 Try.f4 rfl rfl rfl rfl rfl rfl rfl ⟨rfl, rfl, rfl, rfl, rfl⟩ rfl rfl rfl rfl rfl (by kernel_rfl) Try.func4 (by kernel_rfl)
    (of_decide_eq_true (by kernel_rfl)) (by unfold Func.isWrapper; first | (rw [if_pos (by decide +kernel)]; kernel_rfl) | (rw [if_neg (by decide +kernel)]; exact ⟨rfl, rfl⟩))
    (fun os started H enc _ => lifted os started H enc)

end Go.Proofs.Ytldgiimkkgmgaaa.diskSyncs
namespace Go.Proofs.Ytldgiimkkgmgaaa
theorem diskSyncs_holds : Rows.DiskSyncsSaid := diskSyncs.over
#print axioms diskSyncs_holds
end Go.Proofs.Ytldgiimkkgmgaaa
