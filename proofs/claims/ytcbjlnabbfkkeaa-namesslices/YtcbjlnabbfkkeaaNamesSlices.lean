/-
  NamesSlices is proved for every input: the parts that Seek tells for some bytes of a file are, one behind the other, just these bytes; no condition.
-/
import Derived.Test.YtcbjlnabbfkkeaaNmO
import Derived.Test.YtcbjlnabbfkkeaaRcQa
namespace Go.Proofs.Ytcbjlnabbfkkeaa.namesSlices
open Go.ChangeShapes Go.WideShapes Go.ChangeAt Go.RowKit Go.Deep Go.Lib

theorem own : ownKnob Try.prog.godebug = none := by kernel_rfl
set_option maxHeartbeats 12800000 in
set_option maxRecDepth 100000 in
theorem walk (a0 : Option Addr) (cap0 : Nat) (zs : List Int) (a1 : Option Addr) (cap1 : Nat) (l1 : List Int) (f : Int) (wf : (Lit.int .i64 f).wf = true) (t : Int) (wt : (Lit.int .i64 t).wf = true) (w : World) (hr0 : Ri w .u16 a0 cap0 zs) (hr1 : Ri w .u8 a1 cap1 l1) :
    Calls Try.prog 6 #[.slice a0 zs.length cap0, .slice a1 l1.length cap1, .int .i64 f, .int .i64 t] w fun e w' => e = .returned (.bool true) ∧ Below w.heap.size w w' := by
  obtain ⟨i0, hi, hz0, hz1, hz2⟩ := info_parts Try.info59
  have HR0 := hid hr0
  have HR1 := hid hr1
  have hf := wf_i64 wf
  have ht := wf_i64 wt
  have HWF := hid wf
  have HWT := hid wt
  have hro := hr0.room
  have hmo := hr0.most
  have hro1 := hr1.room
  have hmo1 := hr1.most
  unfold maxLen at hmo hmo1
  have HAL := hid (fun V => alive_word V)
  obtain ⟨L0, hL0⟩ : ∃ n, n = zs.length := ⟨_, rfl⟩
  have HL0 := hid hL0
  rw [← hL0] at hro ⊢
  clear hr0 hr1 wf wt hL0
  go_enter Try.func6, Try.ntmps6
  go_wp2
  refine Code.wp_mono (Q := Aft1 w a0 L0 cap0 a1 l1 cap1 f t zs) ?_ ?_
  · intro ex a V hq
    obtain ⟨rfl, n, v9, hn, hown, hbel, u, rfl⟩ := hq
    have HO := hid hown
    have HB := hid hbel
    clear hown hbel
    have hpl := psK_len zs n
    have hps := psK_sum zs n
    obtain ⟨ps, hpe⟩ : ∃ ps, ps = psK zs n := ⟨_, rfl⟩
    have HPE := hid hpe
    rw [← hpe] at HO hpl hps ⊢
    have HPOK : Hid (∀ x ∈ ps, PcOk x) := by rw [hpe]; exact psK_ok zs n hn
    have HPNK : Hid (ps.all nOk = true) := by rw [hpe]; exact psK_nok zs n
    have HO' : V.ownsRow w.heap.size 59 33 v9 ps.length (ps.flatMap pcC) := by rw [hpl]; exact HO.out
    obtain ⟨a9, cap9, hv9, hrp, hfar⟩ := Rp.own HO' HPOK.out
    subst hv9
    have HRP := hid hrp
    obtain ⟨m, hm⟩ : ∃ m : Nat, sumP ps = (m : Int) := ⟨(sumP ps).toNat, by omega⟩
    have hm480 : m ≤ 480 := by omega
    have HM := hid hm
    rw [HM.out]
    have HPL := hid hpl
    have hmk := run_make_row' (P := Try.prog) 56 5 (.int .u8 0) 1 Try.underlying56 Try.info5Z rfl .i64 .i64 m (by omega) (by omega)
    have HMC : Hid (madeCells #[Value.int .u8 0] m = ((List.replicate m (0 : Int)).map (Value.int .u8)).toArray) := by
      show _ = _
      apply Array.toList_inj.1
      rw [toList_madeCells_one]
      simp
    obtain ⟨Z0, hZ0⟩ : ∃ Z, Z = ((List.replicate m (0 : Int)).map (Value.int .u8)).toArray := ⟨_, rfl⟩
    rw [HMC.out, ← hZ0] at hmk
    have HZ0 := hid hZ0
    obtain ⟨V1, hV1⟩ : ∃ V1, V1 = V.alloc (.cells Z0 5) := ⟨_, rfl⟩
    have HV1 := hid hV1
    have HB1 : Hid (Below w.heap.size w V1) := by show Below _ _ _; rw [hV1]; exact HB.out.trans ((bel_alc V _).mono HB.out.size)
    have HRP1 : Hid (Rp V1 a9 cap9 ps) := by rw [hV1]; exact HRP.out.later (bel_alc V _)
    have HF1 : Hid (V1.heap[V.heap.size]? = some (.cells ((List.replicate m (0 : Int)).map (Value.int .u8)).toArray 5)) := by show _ = _; rw [hV1, ← hZ0]; exact heap_alc V _
    have HVL : Hid (w.heap.size ≤ V.heap.size) := HB.out.size
    have HFNE : Hid (∀ b off, a9 = some ⟨b, off, none⟩ → 0 < ps.length → b < V.heap.size) := fun b off e h0 => by
      obtain ⟨b', off', e', hb', _⟩ := HRP.out.cells h0
      rw [e] at e'
      injection e' with e'
      injection e' with e'
      omega
    clear hZ0 hpe HO HO' hrp hfar hV1 hps hpl hm HRP HB
    go_wp2
    rw [← HV1.out]
    refine Code.wp_mono (Q := Aft2 V1 a0 L0 cap0 a1 l1 cap1 f t m (.slice a9 ps.length cap9) V.heap.size) ?_ ?_
    · intro ex a V2 hq
      obtain ⟨rfl, F, hfl, hfu, hfb, hg2, u, rfl⟩ := hq
      have HF := hid hfb
      have HFL := hid hfl
      have HFU := hid hfu
      have HG2 := hid hg2
      have hB2 := HB1.out.trans (bel_grown hg2 HVL.out HB1.out.size)
      have HB2 := hid hB2
      have HRP2 : Hid (Rp V2 a9 cap9 ps) := HRP1.out.grown hg2 (fun h0 b off e => by have := HFNE.out b off e h0; omega)
      have HFLT : Hid (V.heap.size < V2.heap.size) := blk_lt hfb
      obtain ⟨i6, hi6, hy0, hy1, hy2⟩ := info_parts Try.info36
      have HREC : Hid (Rv V2 (rec6 a9 cap9 ps)) := ⟨rfl, z32_u8, rfl, rfl, rfl, rfl, (by show sF.size ≤ _; unfold maxLen; decide), HRP2.out⟩
      have HMAY : Hid (mayB (rec6 a9 cap9 ps) = true) := may6 a9 cap9 ps (by rw [HPL.out]; omega) HPNK.out (by rw [HM.out]; omega)
      have HB36 := hid (built36f a9 ps.length cap9 ps rfl)
      have HBX := hid (Bx.mk' V2 (rec6 a9 cap9 ps) rfl)
      have HBA := hid (bel_alc V2 (.cells (rec6 a9 cap9 ps).cs.toArray 36))
      have HRR : Hid (Rr (V2.alloc (.cells (rec6 a9 cap9 ps).cs.toArray 36)) (some ⟨V2.heap.size, 0, none⟩) 1 [rec6 a9 cap9 ps]) := by
        refine ⟨Nat.le_refl _, by unfold maxLen; decide, (fun h => by cases h), fun _ => ⟨V2.heap.size, 0, rfl, HBX.out.lt, fun j hj => ?_⟩, fun r hr => ?_⟩
        · have hj0 : j = 0 := by simp at hj; omega
          subst hj0
          exact HBX.out.range
        · simp only [List.mem_singleton] at hr
          subst hr
          exact HREC.out.later HBA.out
      have HOF := hid (of_word 0 _ _ _ _ HRR.out (Nat.zero_le _))
      clear hfl hfu hfb hg2 hB2
      go_wp2_with (first | refine wpList_buildTo rfl 36 _ rfl (some 83) rfl (rec6 a9 cap9 ps).cs.toArray (Eq.trans (congrArg (Try.prog.built 36) (by simp only [List.map_toArray, List.map_cons, List.map_nil]; rfl)) HB36.out) ?_ | refine wpList_buildOne rfl 22 36 _ rfl (some 84) rfl (rec6 a9 cap9 ps).cs.toArray i6 _ Try.underlying22 hi6 hy0 (by rw [hy1]; rfl) (by rw [Rec.cs_size rfl]; decide) (by rw [Rec.cs_size rfl]; decide) rfl ?_ | fail)
      refine HOF.out.mono ?_
      intro e W3 hof
      rcases hof with ⟨M, ha, rfl, hnm, hb3⟩ | ⟨k, M, hk, ha, hne, _⟩
      · obtain ⟨fl, hfp, hfs, hff⟩ := of6 ha
        have HFF := hid hff
        have HFS : Hid (fl.ps = ps ∧ fl.size = (m : Int)) := ⟨hfp, by rw [hfs, HM.out]⟩
        have HB3 := hid (Bn HB2.out (Bn HBA.out hb3))
        have HY3 := hid (Bn HBA.out hb3)
        have HRP3 := hid (HRP2.out.later (Bn HBA.out hb3))
        have HF3 := hid (blk_later HF.out (Bn HBA.out hb3))
        have HN := hid hnm
        obtain ⟨N, hN⟩ : ∃ N, N = (V2.alloc (.cells (rec6 a9 cap9 ps).cs.toArray 36)).heap.size := ⟨_, rfl⟩
        rw [← hN] at HN
        rw [← hN]
        have HSK := hid (seek_word W3 (N + 1) N M 0 HN.out sF (by unfold maxLen; decide) f t HWF.out HWT.out)
        have hse : sekO M sF f t = sekF fl f t := by unfold sekO; rw [HFF.out]
        rw [hse] at HSK
        clear ha hfp hfs hff hnm hb3 hN HOF HRR HBX HREC hse
        go_wp2_with fail
        refine HSK.out.mono ?_
        rintro _ W4 ⟨a4, c4, rfl, hrw, hfar4, hb4⟩
        have HB4 := hid (Bn HB3.out hb4)
        have HRP4 := hid (HRP3.out.later hb4)
        have HF4 := hid (blk_later HF3.out hb4)
        have HRW4 := hid hrw
        clear hrw hfar4 hb4 HSK
        have HQ : Hid (sekF fl f t = if f < 0 ∨ t < 0 ∨ (m : Int) - t < f then (5, []) else (0, partL 0 f (f + t) ps)) := by show _ = _; unfold sekF; rw [HFS.out.1, HFS.out.2]
        by_cases hbad : f < 0 ∨ t < 0 ∨ (m : Int) - t < f
        · have HE : Hid (sekF fl f t = (5, [])) := HQ.out.trans (if_pos hbad)
          rw [HE.out]
          clear HQ
          by_cases h1 : f < 0
          · go_wp2_with fail
            refine (HAL.out W4).mono ?_
            rintro _ W5 ⟨rfl, hb5⟩
            have HB5 := hid (Bn HB4.out hb5)
            clear hb5
            go_wp2
            go_ret
            exact ⟨rfl, HB5.out⟩
          · by_cases h2 : t < 0
            · go_wp2_with fail
              refine (HAL.out W4).mono ?_
              rintro _ W5 ⟨rfl, hb5⟩
              have HB5 := hid (Bn HB4.out hb5)
              clear hb5
              go_wp2
              go_ret
              exact ⟨rfl, HB5.out⟩
            · by_cases h3 : (m : Int) < f
              · go_wp2_with fail
                refine (HAL.out W4).mono ?_
                rintro _ W5 ⟨rfl, hb5⟩
                have HB5 := hid (Bn HB4.out hb5)
                clear hb5
                go_wp2
                go_ret
                exact ⟨rfl, HB5.out⟩
              · have h4 : (m : Int) - f < t := by omega
                have h5 : 0 ≤ f := by omega
                go_wp2_with fail
                refine (HAL.out W4).mono ?_
                rintro _ W5 ⟨rfl, hb5⟩
                have HB5 := hid (Bn HB4.out hb5)
                clear hb5
                go_wp2
                go_ret
                exact ⟨rfl, HB5.out⟩
        · have HE : Hid (sekF fl f t = (0, partL 0 f (f + t) ps)) := HQ.out.trans (if_neg hbad)
          rw [HE.out] at HRW4 ⊢
          have hg0 : 0 ≤ f := by omega
          have hg1 : 0 ≤ t := by omega
          have hg2 : ¬ (m : Int) < f := by omega
          have hg3 : ¬ (m : Int) - f < t := by omega
          clear HQ hbad
          obtain ⟨i5, hi5', hv0, hv1, hv2⟩ := info_parts Try.info5Z
          obtain ⟨fN, rfl⟩ : ∃ k : Nat, f = (k : Int) := ⟨f.toNat, by omega⟩
          obtain ⟨tN, rfl⟩ : ∃ k : Nat, t = (k : Int) := ⟨t.toNat, by omega⟩
          have hft : fN + tN ≤ m := by omega
          obtain ⟨QL, hQL⟩ : ∃ QL, QL = partQ 0 0 (fN : Int) ((fN : Int) + (tN : Int)) ps := ⟨_, rfl⟩
          have hpq : partL 0 (fN : Int) ((fN : Int) + (tN : Int)) ps = QL.map (ptQ ps) := by rw [hQL]; exact part_q ps _ _ ps 0 rfl (by omega)
          have hch : chainTo (fN : Int) QL ((fN : Int) + (tN : Int)) := by
            have := chain_q ps 0 0 (fN : Int) ((fN : Int) + (tN : Int)) HPNK.out (by omega) (by rw [HM.out]; omega)
            rw [show max (fN : Int) 0 = (fN : Int) from by omega] at this
            rw [hQL]
            exact this
          have HCH := hid hch
          have HQI : Hid (∀ y ∈ QL, y.1 < ps.length ∧ sumP (ps.take y.1) ≤ y.2.1 ∧ y.2.1 < y.2.2 ∧ y.2.2 ≤ sumP (ps.take y.1) + (ps.getD y.1 pc0).2 ∧ (fN : Int) ≤ y.2.1 ∧ y.2.2 ≤ (fN : Int) + (tN : Int)) := by
            rw [hQL]
            exact q_in ps _ _ ps 0 rfl (by omega)
          obtain ⟨L, hL⟩ : ∃ L, L = partL 0 (fN : Int) ((fN : Int) + (tN : Int)) ps := ⟨_, rfl⟩
          rw [← hL] at hpq
          have HLQ := hid hpq
          rw [← hL] at HRW4 HE ⊢
          have HLN : Hid (L.length = QL.length) := by show _ = _; rw [hpq, List.length_map]
          obtain ⟨nL, hnL⟩ : ∃ n, n = L.length := ⟨_, rfl⟩
          have HNL := hid hnL
          have hnl5 : nL ≤ 100000 := by
            have hpl : ∀ (l : List Pc) (s : Int) (q : Nat), (partQ s q (fN : Int) ((fN : Int) + (tN : Int)) l).length ≤ l.length := by
              intro l
              induction l with
              | nil => intro s q; simp [partQ]
              | cons x l ih =>
                intro s q
                have := ih (s + x.2) (q + 1)
                rw [partQ, List.length_append, List.length_cons]
                split <;> simp <;> omega
            have h1 := hpl ps 0 0
            rw [← hQL, ← HLN.out, ← hnL] at h1
            have := HPL.out
            omega
          have hro4 := HRW4.out.room
          have hmo4 := HRW4.out.most
          unfold maxLen at hmo4
          rw [← hnL] at hro4
          have HRI9 := HRP4.out.room
          have HMI9 := HRP4.out.most
          unfold maxLen at HMI9
          have hpln := HPL.out
          obtain ⟨np, hnp⟩ : ∃ k, k = ps.length := ⟨_, rfl⟩
          have HNP := hid hnp
          have hnp12 : np ≤ 12 := by omega
          rw [← hnp] at HRI9
          rw [← hnp, ← hnL]
          have HFM := HFL
          clear hQL hpq hch hL hnL hnp hpln
          go_wp2
          have hdec : decide (m < fN) = false := decide_eq_false (by omega)
          simp only [hdec, Bool.or_false]
          clear hdec
          go_loopw [20, 21] (fun x20 x21 wr => ∃ i : Nat, i ≤ nL ∧ x21 = .int .i64 (i : Int) ∧ Hid (wr.ownsRow W4.heap.size 5 1 x20 ((F.drop fN).take ((midQ (fN : Int) QL i).toNat - fN)).length (((F.drop fN).take ((midQ (fN : Int) QL i).toNat - fN)).map (Value.int .u8))) ∧ Hid (Below W4.heap.size W4 wr)) (fun _ x21 _ => nL - (intOf x21).toNat)
          case atStart =>
            refine ⟨0, by omega, rfl, ?_, Below.refl _ _⟩
            rw [mid_zero, show ((fN : Int)).toNat - fN = 0 from by omega, List.take_zero]
            exact World.ownsRow_nil _ _ _ _
          case round =>
            obtain ⟨i, hi5, rfl, HO, HB⟩ := hrel
            by_cases hlt : i < nL
            · have hiz : (i : Int) < (nL : Int) := by omega
              have hil : i < QL.length := by rw [← HLN.out, ← HNL.out]; exact hlt
              have hmid := mid_at QL _ _ i HCH.out hil
              obtain ⟨y, hy⟩ : ∃ y, y = QL.getD i (0, 0, 0) := ⟨_, rfl⟩
              have hyin : y ∈ QL := by rw [hy]; simp [List.getD, List.getElem?_eq_getElem hil]
              have hyq := HQI.out y hyin
              have hpl : L.getD i ptZ = ptQ ps y := by rw [HLQ.out, hy]; simp [List.getD, List.getElem?_eq_getElem hil]
              rw [← hy] at hmid
              obtain ⟨q, lo, hi6⟩ := y
              obtain ⟨hq1, hq2, hq3, hq4, hq5, hq6⟩ := hyq
              simp only at hq1 hq2 hq3 hq4 hq5 hq6 hmid
              have hpk : ps.getD q pc0 = (dgI (q : Int), 1 + zs.getD q 0 % 40) := by rw [HPE.out]; exact psK_get zs n q (by have := HPL.out; omega)
              obtain ⟨x, hx⟩ : ∃ x, x = ps.getD q pc0 := ⟨_, rfl⟩
              have hpl2 : L.getD i ptZ = ⟨x, lo - sumP (ps.take q), hi6 - sumP (ps.take q)⟩ := by rw [hpl, hx]; rfl
              have hxd : x.1 = dgI (q : Int) := by rw [hx, hpk]
              rw [← hx] at hq4
              obtain ⟨sq, hsq⟩ : ∃ s, s = sumP (ps.take q) := ⟨_, rfl⟩
              have HSQ := hid hsq
              rw [← hsq] at hq2 hq4 hpl2
              obtain ⟨la, hla⟩ : ∃ k : Nat, lo = (k : Int) := ⟨lo.toNat, by omega⟩
              obtain ⟨ha, hha⟩ : ∃ k : Nat, hi6 = (k : Int) := ⟨hi6.toNat, by omega⟩
              obtain ⟨fr, hfr⟩ : ∃ r, r = lo - sq := ⟨_, rfl⟩
              obtain ⟨tt, htt⟩ : ∃ r, r = hi6 - sq := ⟨_, rfl⟩
              rw [← hfr, ← htt] at hpl2
              have HA1 : Hid (sq + fr = (la : Int)) := by show _ = _; omega
              have HA2 : Hid (sq + tt = (ha : Int)) := by show _ = _; omega
              have HMI : Hid ((midQ (fN : Int) QL i).toNat = la ∧ (midQ (fN : Int) QL (i + 1)).toNat = ha) := by show _ ∧ _; rw [hmid.1, hmid.2]; omega
              have hsb := sumP_bound (ps.take q) (all_take ps HPNK.out q)
              have hsq0 : 0 ≤ sq := by rw [hsq]; exact hsb.1
              have h1 : 0 ≤ fr := by omega
              have h2 : fr < tt := by omega
              have h3 : tt ≤ x.2 := by omega
              have h4 : la < ha := by omega
              have h5 : ha ≤ m := by omega
              have h6 : fN ≤ la := by omega
              have hqz : (q : Int) < (np : Int) := by rw [HNP.out]; omega
              have hqn : q < np := by rw [HNP.out]; exact hq1
              have hx5 : x.2 ≤ 40 := by rw [hx, hpk]; show 1 + _ % 40 ≤ (40 : Int); omega
              obtain ⟨bp, op, rfl, hbp, hcp⟩ := HRW4.out.cells (by rw [← HNL.out]; omega)
              have hci := hcp i (by rw [← HNL.out]; exact hlt)
              rw [hpl2] at hci
              have hxl : x.1.length = 32 := by rw [hxd]; rfl
              have HC0 : Hid (∀ X, Below W4.heap.size W4 X → X.cell? ⟨bp, op + i * 35, none⟩ = some (.int .u8 (q : Int))) := fun X hX => (hX.cell (p := ⟨bp, op + i * 35, none⟩) hbp).trans (by have := hci 0 (.int .u8 (q : Int)) (by unfold ptC pcC; rw [hxd]; rfl); simpa using this)
              have HC32 : Hid (∀ X, Below W4.heap.size W4 X → X.cell? ⟨bp, op + i * 35 + 32, none⟩ = some (.int .i64 x.2)) := fun X hX => (hX.cell (p := ⟨bp, op + i * 35 + 32, none⟩) hbp).trans (hci 32 _ (by unfold ptC; rw [List.getElem?_append_left (by rw [pcC_len hxl]; omega)]; exact pcC_n hxl))
              have HC33 : Hid (∀ X, Below W4.heap.size W4 X → X.cell? ⟨bp, op + i * 35 + 33, none⟩ = some (.int .i64 fr)) := fun X hX => (hX.cell (p := ⟨bp, op + i * 35 + 33, none⟩) hbp).trans (hci 33 _ (by unfold ptC; rw [List.getElem?_append_right (by rw [pcC_len hxl]; omega), pcC_len hxl]; rfl))
              have HC34 : Hid (∀ X, Below W4.heap.size W4 X → X.cell? ⟨bp, op + i * 35 + 34, none⟩ = some (.int .i64 tt)) := fun X hX => (hX.cell (p := ⟨bp, op + i * 35 + 34, none⟩) hbp).trans (hci 34 _ (by unfold ptC; rw [List.getElem?_append_right (by rw [pcC_len hxl]; omega), pcC_len hxl]; rfl))
              obtain ⟨b9, o9, h9, hb9, hc9⟩ := HRP4.out.cells (by rw [← HNP.out]; omega)
              have HP9 : Hid (∀ X j, Below W4.heap.size W4 X → j < np → X.cell? ⟨b9, o9 + j * 33 + 32, none⟩ = some (.int .i64 (ps.getD j pc0).2)) := fun X j hX hj => (hX.cell (p := ⟨b9, o9 + j * 33 + 32, none⟩) hb9).trans (hc9 j (by rw [← HNP.out]; exact hj) 32 _ (pcC_n (HRP4.out.get (by rw [← HNP.out]; exact hj)).len))
              have HXQ := hid hx
              have HF4' := HF4
              have HFBL := hid (blk_lt HF4.out)
              have HQB : Hid (∀ j, j < np → 1 ≤ (ps.getD j pc0).2 ∧ (ps.getD j pc0).2 ≤ 4096) := fun j hj => of_decide_eq_true (List.all_eq_true.1 HPNK.out _ (by simp [List.getD, List.getElem?_eq_getElem (show j < ps.length by rw [← HNP.out]; exact hj)]))
              have c0 := HC0.out _ HB.out
              clear hmid hy hyin hpl hpl2 hq2 hq3 hq4 hq5 hq6 hq1 hpk hx hsq hla hha hfr htt hsb hcp hci hc9 hb9 hbp hil hxd hxl
              subst h9
              go_wp2
              go_loop [23, 24] (fun x23 x24 => ∃ j : Nat, j ≤ q ∧ x23 = .int .i64 (sumP (ps.take j)) ∧ x24 = .int .i64 (j : Int)) (fun _ x24 => q - (intOf x24).toNat)
              case atStart => exact ⟨0, by omega, rfl, rfl⟩
              case round =>
                obtain ⟨j, hj, rfl, rfl⟩ := hrel
                have hsbj := sumP_bound (ps.take j) (all_take ps HPNK.out j)
                have hjl : (ps.take j).length ≤ 12 := by simp; rw [← HNP.out]; omega
                have hj0 := hsbj.1
                have hj1 : sumP (ps.take j) ≤ 49152 := by omega
                by_cases hjq : j < q
                · have hjz : (j : Int) < (q : Int) := by omega
                  have hjnz : (j : Int) < (np : Int) := by omega
                  have c9 := HP9.out _ j HB.out (by omega)
                  have hb := HQB.out j (by omega)
                  have hb1 := hb.1
                  have hb2 := hb.2
                  have HST := hid (sumP_take ps j (by rw [← HNP.out]; omega))
                  generalize (ps.getD j pc0).2 = Nj at *
                  generalize sumP (ps.take j) = Sj at *
                  clear hb hsbj
                  go_wp2
                  go_round
                  case rel => exact ⟨j + 1, by omega, by rw [HST.out], by go_num⟩
                  case measure => simp [intOf]; omega
                · have hjq2 : j = q := by omega
                  subst hjq2
                  rw [← HSQ.out]
                  have hjz : ¬ (j : Int) < (j : Int) := by omega
                  clear hj0 hj1 hsbj
                  go_wp2_with fail
                  refine wp_region_held_drew (S := fun X => Below W4.heap.size W4 X) (by kernel_rfl) (bel_drew HB.out) (fun hS0 => ?_)
                  have hB0 : Below wr.heap.size wr wr.drew := (Below.refl _ _).drew
                  generalize wr.drew = v0 at *
                  simp only [List.size_toArray, List.length_cons, List.length_nil, Nat.reduceAdd]
                  refine Ord.take (i := 0) (d := 161) (v := ?vC0) rfl rfl (by as_aux_lemma => kernel_rfl) (by as_aux_lemma => kernel_rfl) (by as_aux_lemma => kernel_rfl) (fun _ _ _ h => h) (by rfl) ?hC0 (by assumption) ?_
                  case hC0 => intro w hSw; go_simp; try with_reducible rfl
                  simp only [List.setIfInBounds_toArray, List.set_cons_zero, List.set_cons_succ]
                  refine Ord.take (i := 1) (d := 162) (v := ?vC1) rfl rfl (by as_aux_lemma => kernel_rfl) (by as_aux_lemma => kernel_rfl) (by as_aux_lemma => kernel_rfl) (fun _ _ _ h => h) (by rfl) ?hC1 (by assumption) ?_
                  case hC1 => intro w hSw; go_simp; try with_reducible rfl
                  simp only [List.setIfInBounds_toArray, List.set_cons_zero, List.set_cons_succ]
                  refine Ord.take (i := 2) (d := 163) (v := ?vC2) rfl rfl (by as_aux_lemma => kernel_rfl) (by as_aux_lemma => kernel_rfl) (by as_aux_lemma => kernel_rfl) (fun _ _ _ h => h) (by rfl) ?hC2 (by assumption) ?_
                  case hC2 => intro w hSw; go_simp; try with_reducible rfl
                  simp only [List.setIfInBounds_toArray, List.set_cons_zero, List.set_cons_succ]
                  refine Ord.take (i := 3) (d := 164) (v := .bool false) rfl rfl (by as_aux_lemma => kernel_rfl) (by as_aux_lemma => kernel_rfl) (by as_aux_lemma => kernel_rfl) (fun _ _ _ h => h) (by rfl) ?hC3 (by assumption) ?_
                  case hC3 => intro w hSw; go_simp; try with_reducible rfl
                  simp only [List.setIfInBounds_toArray, List.set_cons_zero, List.set_cons_succ]
                  refine Ord.take (i := 4) (d := 165) (v := ?vC4) rfl rfl (by as_aux_lemma => kernel_rfl) (by as_aux_lemma => kernel_rfl) (by as_aux_lemma => kernel_rfl) (fun _ _ _ h => h) (by rfl) ?hC4 (by assumption) ?_
                  case hC4 => intro w hSw; go_simp; try with_reducible rfl
                  simp only [List.setIfInBounds_toArray, List.set_cons_zero, List.set_cons_succ]
                  refine Ord.take (i := 5) (d := 166) (v := ?vC5) rfl rfl (by as_aux_lemma => kernel_rfl) (by as_aux_lemma => kernel_rfl) (by as_aux_lemma => kernel_rfl) (fun _ _ _ h => h) (by rfl) ?hC5 (by assumption) ?_
                  case hC5 => intro w hSw; go_simp; try with_reducible rfl
                  simp only [List.setIfInBounds_toArray, List.set_cons_zero, List.set_cons_succ]
                  refine Ord.take (i := 6) (d := 167) (v := ?vC6) rfl rfl (by as_aux_lemma => kernel_rfl) (by as_aux_lemma => kernel_rfl) (by as_aux_lemma => kernel_rfl) (fun _ _ _ h => h) (by rfl) ?hC6 (by assumption) ?_
                  case hC6 => intro w hSw; go_simp; try with_reducible rfl
                  simp only [List.setIfInBounds_toArray, List.set_cons_zero, List.set_cons_succ]
                  refine Ord.take (i := 7) (d := 168) (v := .pointer (some ⟨bp, op + i * 35, none⟩)) rfl rfl (by as_aux_lemma => kernel_rfl) (by as_aux_lemma => kernel_rfl) (by as_aux_lemma => kernel_rfl) (fun _ _ _ h => h) (by rfl) ?hC7 (by assumption) ?_
                  case hC7 => intro w hSw; go_simp; try with_reducible rfl
                  simp only [List.setIfInBounds_toArray, List.set_cons_zero, List.set_cons_succ]
                  refine Ord.take (i := 8) (d := 169) (v := .pointer (some ⟨bp, op + i * 35 + 32, none⟩)) rfl rfl (by as_aux_lemma => kernel_rfl) (by as_aux_lemma => kernel_rfl) (by as_aux_lemma => kernel_rfl) (fun _ _ _ h => h) (by rfl) ?hC8 (by assumption) ?_
                  case hC8 => intro w hSw; go_simp; try with_reducible rfl
                  simp only [List.setIfInBounds_toArray, List.set_cons_zero, List.set_cons_succ]
                  refine Ord.take (i := 9) (d := 170) (v := .int .i64 x.2) rfl rfl (by as_aux_lemma => kernel_rfl) (by as_aux_lemma => kernel_rfl) (by as_aux_lemma => kernel_rfl) (fun _ _ _ h => h) (by rfl) ?hC9 (by assumption) ?_
                  case hC9 => intro w hSw; have hc := HC32.out _ hSw; go_simp; try with_reducible rfl
                  simp only [List.setIfInBounds_toArray, List.set_cons_zero, List.set_cons_succ]
                  refine Ord.take (i := 10) (d := 171) (v := ?vC10) rfl rfl (by as_aux_lemma => kernel_rfl) (by as_aux_lemma => kernel_rfl) (by as_aux_lemma => kernel_rfl) (fun _ _ _ h => h) (by rfl) ?hC10 (by assumption) ?_
                  case hC10 => intro w hSw; go_simp; try with_reducible rfl
                  simp only [List.setIfInBounds_toArray, List.set_cons_zero, List.set_cons_succ]
                  refine Ord.take (i := 11) (d := 172) (v := ?vC11) rfl rfl (by as_aux_lemma => kernel_rfl) (by as_aux_lemma => kernel_rfl) (by as_aux_lemma => kernel_rfl) (fun _ _ _ h => h) (by rfl) ?hC11 (by assumption) ?_
                  case hC11 => intro w hSw; go_simp; try with_reducible rfl
                  simp only [List.setIfInBounds_toArray, List.set_cons_zero, List.set_cons_succ]
                  refine Ord.take (i := 12) (d := 173) (v := .pointer (some ⟨b9, o9 + j * 33, none⟩)) rfl rfl (by as_aux_lemma => kernel_rfl) (by as_aux_lemma => kernel_rfl) (by as_aux_lemma => kernel_rfl) (fun _ _ _ h => h) (by rfl) ?hC12 (by assumption) ?_
                  case hC12 => intro w hSw; go_simp; try with_reducible rfl
                  simp only [List.setIfInBounds_toArray, List.set_cons_zero, List.set_cons_succ]
                  refine Ord.take (i := 13) (d := 174) (v := .pointer (some ⟨b9, o9 + j * 33 + 32, none⟩)) rfl rfl (by as_aux_lemma => kernel_rfl) (by as_aux_lemma => kernel_rfl) (by as_aux_lemma => kernel_rfl) (fun _ _ _ h => h) (by rfl) ?hC13 (by assumption) ?_
                  case hC13 => intro w hSw; go_simp; try with_reducible rfl
                  simp only [List.setIfInBounds_toArray, List.set_cons_zero, List.set_cons_succ]
                  refine Ord.take (i := 14) (d := 175) (v := .int .i64 x.2) rfl rfl (by as_aux_lemma => kernel_rfl) (by as_aux_lemma => kernel_rfl) (by as_aux_lemma => kernel_rfl) (fun _ _ _ h => h) (by rfl) ?hC14 (by assumption) ?_
                  case hC14 => intro w hSw; have hc := HP9.out _ j hSw hqn; rw [← HXQ.out] at hc; go_simp; try with_reducible rfl
                  simp only [List.setIfInBounds_toArray, List.set_cons_zero, List.set_cons_succ]
                  refine Ord.take (i := 15) (d := 176) (v := .bool false) rfl rfl (by as_aux_lemma => kernel_rfl) (by as_aux_lemma => kernel_rfl) (by as_aux_lemma => kernel_rfl) (fun _ _ _ h => h) (by rfl) ?hC15 (by assumption) ?_
                  case hC15 => intro w hSw; go_simp; try with_reducible rfl
                  simp only [List.setIfInBounds_toArray, List.set_cons_zero, List.set_cons_succ]
                  refine Ord.take (i := 16) (d := 177) (v := ?vC16) rfl rfl (by as_aux_lemma => kernel_rfl) (by as_aux_lemma => kernel_rfl) (by as_aux_lemma => kernel_rfl) (fun _ _ _ h => h) (by rfl) ?hC16 (by assumption) ?_
                  case hC16 => intro w hSw; go_simp; try with_reducible rfl
                  simp only [List.setIfInBounds_toArray, List.set_cons_zero, List.set_cons_succ]
                  refine Ord.take (i := 17) (d := 178) (v := ?vC17) rfl rfl (by as_aux_lemma => kernel_rfl) (by as_aux_lemma => kernel_rfl) (by as_aux_lemma => kernel_rfl) (fun _ _ _ h => h) (by rfl) ?hC17 (by assumption) ?_
                  case hC17 => intro w hSw; go_simp; try with_reducible rfl
                  simp only [List.setIfInBounds_toArray, List.set_cons_zero, List.set_cons_succ]
                  refine Ord.take (i := 18) (d := 179) (v := ?vC18) rfl rfl (by as_aux_lemma => kernel_rfl) (by as_aux_lemma => kernel_rfl) (by as_aux_lemma => kernel_rfl) (fun _ _ _ h => h) (by rfl) ?hC18 (by assumption) ?_
                  case hC18 => intro w hSw; go_simp; try with_reducible rfl
                  simp only [List.setIfInBounds_toArray, List.set_cons_zero, List.set_cons_succ]
                  refine Ord.take (i := 19) (d := 180) (v := ?vC19) rfl rfl (by as_aux_lemma => kernel_rfl) (by as_aux_lemma => kernel_rfl) (by as_aux_lemma => kernel_rfl) (fun _ _ _ h => h) (by rfl) ?hC19 (by assumption) ?_
                  case hC19 => intro w hSw; go_simp; try with_reducible rfl
                  simp only [List.setIfInBounds_toArray, List.set_cons_zero, List.set_cons_succ]
                  refine Ord.take (i := 20) (d := 181) (v := .pointer (some ⟨bp, op + i * 35, none⟩)) rfl rfl (by as_aux_lemma => kernel_rfl) (by as_aux_lemma => kernel_rfl) (by as_aux_lemma => kernel_rfl) (fun _ _ _ h => h) (by rfl) ?hC20 (by assumption) ?_
                  case hC20 => intro w hSw; go_simp; try with_reducible rfl
                  simp only [List.setIfInBounds_toArray, List.set_cons_zero, List.set_cons_succ]
                  refine Ord.take (i := 21) (d := 182) (v := .pointer (some ⟨bp, op + i * 35 + 33, none⟩)) rfl rfl (by as_aux_lemma => kernel_rfl) (by as_aux_lemma => kernel_rfl) (by as_aux_lemma => kernel_rfl) (fun _ _ _ h => h) (by rfl) ?hC21 (by assumption) ?_
                  case hC21 => intro w hSw; go_simp; try with_reducible rfl
                  simp only [List.setIfInBounds_toArray, List.set_cons_zero, List.set_cons_succ]
                  refine Ord.take (i := 22) (d := 183) (v := .int .i64 fr) rfl rfl (by as_aux_lemma => kernel_rfl) (by as_aux_lemma => kernel_rfl) (by as_aux_lemma => kernel_rfl) (fun _ _ _ h => h) (by rfl) ?hC22 (by assumption) ?_
                  case hC22 => intro w hSw; have hc := HC33.out _ hSw; go_simp; try with_reducible rfl
                  simp only [List.setIfInBounds_toArray, List.set_cons_zero, List.set_cons_succ]
                  refine Ord.take (i := 23) (d := 184) (v := .bool false) rfl rfl (by as_aux_lemma => kernel_rfl) (by as_aux_lemma => kernel_rfl) (by as_aux_lemma => kernel_rfl) (fun _ _ _ h => h) (by rfl) ?hC23 (by assumption) ?_
                  case hC23 => intro w hSw; go_simp; try with_reducible rfl
                  simp only [List.setIfInBounds_toArray, List.set_cons_zero, List.set_cons_succ]
                  refine Ord.take (i := 24) (d := 185) (v := ?vC24) rfl rfl (by as_aux_lemma => kernel_rfl) (by as_aux_lemma => kernel_rfl) (by as_aux_lemma => kernel_rfl) (fun _ _ _ h => h) (by rfl) ?hC24 (by assumption) ?_
                  case hC24 => intro w hSw; go_simp; try with_reducible rfl
                  simp only [List.setIfInBounds_toArray, List.set_cons_zero, List.set_cons_succ]
                  refine Ord.take (i := 25) (d := 186) (v := ?vC25) rfl rfl (by as_aux_lemma => kernel_rfl) (by as_aux_lemma => kernel_rfl) (by as_aux_lemma => kernel_rfl) (fun _ _ _ h => h) (by rfl) ?hC25 (by assumption) ?_
                  case hC25 => intro w hSw; go_simp; try with_reducible rfl
                  simp only [List.setIfInBounds_toArray, List.set_cons_zero, List.set_cons_succ]
                  refine Ord.take (i := 26) (d := 187) (v := ?vC26) rfl rfl (by as_aux_lemma => kernel_rfl) (by as_aux_lemma => kernel_rfl) (by as_aux_lemma => kernel_rfl) (fun _ _ _ h => h) (by rfl) ?hC26 (by assumption) ?_
                  case hC26 => intro w hSw; go_simp; try with_reducible rfl
                  simp only [List.setIfInBounds_toArray, List.set_cons_zero, List.set_cons_succ]
                  refine Ord.take (i := 27) (d := 188) (v := ?vC27) rfl rfl (by as_aux_lemma => kernel_rfl) (by as_aux_lemma => kernel_rfl) (by as_aux_lemma => kernel_rfl) (fun _ _ _ h => h) (by rfl) ?hC27 (by assumption) ?_
                  case hC27 => intro w hSw; go_simp; try with_reducible rfl
                  simp only [List.setIfInBounds_toArray, List.set_cons_zero, List.set_cons_succ]
                  refine Ord.take (i := 28) (d := 189) (v := .pointer (some ⟨bp, op + i * 35, none⟩)) rfl rfl (by as_aux_lemma => kernel_rfl) (by as_aux_lemma => kernel_rfl) (by as_aux_lemma => kernel_rfl) (fun _ _ _ h => h) (by rfl) ?hC28 (by assumption) ?_
                  case hC28 => intro w hSw; go_simp; try with_reducible rfl
                  simp only [List.setIfInBounds_toArray, List.set_cons_zero, List.set_cons_succ]
                  refine Ord.take (i := 29) (d := 190) (v := .pointer (some ⟨bp, op + i * 35 + 34, none⟩)) rfl rfl (by as_aux_lemma => kernel_rfl) (by as_aux_lemma => kernel_rfl) (by as_aux_lemma => kernel_rfl) (fun _ _ _ h => h) (by rfl) ?hC29 (by assumption) ?_
                  case hC29 => intro w hSw; go_simp; try with_reducible rfl
                  simp only [List.setIfInBounds_toArray, List.set_cons_zero, List.set_cons_succ]
                  refine Ord.take (i := 30) (d := 191) (v := .int .i64 tt) rfl rfl (by as_aux_lemma => kernel_rfl) (by as_aux_lemma => kernel_rfl) (by as_aux_lemma => kernel_rfl) (fun _ _ _ h => h) (by rfl) ?hC30 (by assumption) ?_
                  case hC30 => intro w hSw; have hc := HC34.out _ hSw; go_simp; try with_reducible rfl
                  simp only [List.setIfInBounds_toArray, List.set_cons_zero, List.set_cons_succ]
                  refine Ord.take (i := 31) (d := 192) (v := ?vC31) rfl rfl (by as_aux_lemma => kernel_rfl) (by as_aux_lemma => kernel_rfl) (by as_aux_lemma => kernel_rfl) (fun _ _ _ h => h) (by rfl) ?hC31 (by assumption) ?_
                  case hC31 => intro w hSw; go_simp; try with_reducible rfl
                  simp only [List.setIfInBounds_toArray, List.set_cons_zero, List.set_cons_succ]
                  refine Ord.take (i := 32) (d := 193) (v := ?vC32) rfl rfl (by as_aux_lemma => kernel_rfl) (by as_aux_lemma => kernel_rfl) (by as_aux_lemma => kernel_rfl) (fun _ _ _ h => h) (by rfl) ?hC32 (by assumption) ?_
                  case hC32 => intro w hSw; go_simp; try with_reducible rfl
                  simp only [List.setIfInBounds_toArray, List.set_cons_zero, List.set_cons_succ]
                  refine Ord.take (i := 33) (d := 194) (v := .pointer (some ⟨bp, op + i * 35, none⟩)) rfl rfl (by as_aux_lemma => kernel_rfl) (by as_aux_lemma => kernel_rfl) (by as_aux_lemma => kernel_rfl) (fun _ _ _ h => h) (by rfl) ?hC33 (by assumption) ?_
                  case hC33 => intro w hSw; go_simp; try with_reducible rfl
                  simp only [List.setIfInBounds_toArray, List.set_cons_zero, List.set_cons_succ]
                  refine Ord.take (i := 34) (d := 195) (v := .pointer (some ⟨bp, op + i * 35 + 33, none⟩)) rfl rfl (by as_aux_lemma => kernel_rfl) (by as_aux_lemma => kernel_rfl) (by as_aux_lemma => kernel_rfl) (fun _ _ _ h => h) (by rfl) ?hC34 (by assumption) ?_
                  case hC34 => intro w hSw; go_simp; try with_reducible rfl
                  simp only [List.setIfInBounds_toArray, List.set_cons_zero, List.set_cons_succ]
                  refine Ord.take (i := 35) (d := 196) (v := .int .i64 fr) rfl rfl (by as_aux_lemma => kernel_rfl) (by as_aux_lemma => kernel_rfl) (by as_aux_lemma => kernel_rfl) (fun _ _ _ h => h) (by rfl) ?hC35 (by assumption) ?_
                  case hC35 => intro w hSw; have hc := HC33.out _ hSw; go_simp; try with_reducible rfl
                  simp only [List.setIfInBounds_toArray, List.set_cons_zero, List.set_cons_succ]
                  refine Ord.take (i := 36) (d := 197) (v := .bool false) rfl rfl (by as_aux_lemma => kernel_rfl) (by as_aux_lemma => kernel_rfl) (by as_aux_lemma => kernel_rfl) (fun _ _ _ h => h) (by rfl) ?hC36 (by assumption) ?_
                  case hC36 => intro w hSw; go_simp; try with_reducible rfl
                  simp only [List.setIfInBounds_toArray, List.set_cons_zero, List.set_cons_succ]
                  refine Ord.take (i := 37) (d := 198) (v := ?vC37) rfl rfl (by as_aux_lemma => kernel_rfl) (by as_aux_lemma => kernel_rfl) (by as_aux_lemma => kernel_rfl) (fun _ _ _ h => h) (by rfl) ?hC37 (by assumption) ?_
                  case hC37 => intro w hSw; go_simp; try with_reducible rfl
                  simp only [List.setIfInBounds_toArray, List.set_cons_zero, List.set_cons_succ]
                  refine Ord.take (i := 38) (d := 199) (v := ?vC38) rfl rfl (by as_aux_lemma => kernel_rfl) (by as_aux_lemma => kernel_rfl) (by as_aux_lemma => kernel_rfl) (fun _ _ _ h => h) (by rfl) ?hC38 (by assumption) ?_
                  case hC38 => intro w hSw; go_simp; try with_reducible rfl
                  simp only [List.setIfInBounds_toArray, List.set_cons_zero, List.set_cons_succ]
                  refine Ord.take (i := 39) (d := 200) (v := ?vC39) rfl rfl (by as_aux_lemma => kernel_rfl) (by as_aux_lemma => kernel_rfl) (by as_aux_lemma => kernel_rfl) (fun _ _ _ h => h) (by rfl) ?hC39 (by assumption) ?_
                  case hC39 => intro w hSw; go_simp; try with_reducible rfl
                  simp only [List.setIfInBounds_toArray, List.set_cons_zero, List.set_cons_succ]
                  refine Ord.take (i := 40) (d := 201) (v := ?vC40) rfl rfl (by as_aux_lemma => kernel_rfl) (by as_aux_lemma => kernel_rfl) (by as_aux_lemma => kernel_rfl) (fun _ _ _ h => h) (by rfl) ?hC40 (by assumption) ?_
                  case hC40 => intro w hSw; go_simp; try with_reducible rfl
                  simp only [List.setIfInBounds_toArray, List.set_cons_zero, List.set_cons_succ]
                  refine Ord.take (i := 41) (d := 202) (v := .pointer (some ⟨bp, op + i * 35, none⟩)) rfl rfl (by as_aux_lemma => kernel_rfl) (by as_aux_lemma => kernel_rfl) (by as_aux_lemma => kernel_rfl) (fun _ _ _ h => h) (by rfl) ?hC41 (by assumption) ?_
                  case hC41 => intro w hSw; go_simp; try with_reducible rfl
                  simp only [List.setIfInBounds_toArray, List.set_cons_zero, List.set_cons_succ]
                  refine Ord.take (i := 42) (d := 203) (v := .pointer (some ⟨bp, op + i * 35 + 34, none⟩)) rfl rfl (by as_aux_lemma => kernel_rfl) (by as_aux_lemma => kernel_rfl) (by as_aux_lemma => kernel_rfl) (fun _ _ _ h => h) (by rfl) ?hC42 (by assumption) ?_
                  case hC42 => intro w hSw; go_simp; try with_reducible rfl
                  simp only [List.setIfInBounds_toArray, List.set_cons_zero, List.set_cons_succ]
                  refine Ord.take (i := 43) (d := 204) (v := .int .i64 tt) rfl rfl (by as_aux_lemma => kernel_rfl) (by as_aux_lemma => kernel_rfl) (by as_aux_lemma => kernel_rfl) (fun _ _ _ h => h) (by rfl) ?hC43 (by assumption) ?_
                  case hC43 => intro w hSw; have hc := HC34.out _ hSw; go_simp; try with_reducible rfl
                  simp only [List.setIfInBounds_toArray, List.set_cons_zero, List.set_cons_succ]
                  refine Ord.take (i := 44) (d := 205) (v := ?vC44) rfl rfl (by as_aux_lemma => kernel_rfl) (by as_aux_lemma => kernel_rfl) (by as_aux_lemma => kernel_rfl) (fun _ _ _ h => h) (by rfl) ?hC44 (by assumption) ?_
                  case hC44 => intro w hSw; go_simp; try with_reducible rfl
                  simp only [List.setIfInBounds_toArray, List.set_cons_zero, List.set_cons_succ]
                  refine Ord.take (i := 45) (d := 206) (v := ?vC45) rfl rfl (by as_aux_lemma => kernel_rfl) (by as_aux_lemma => kernel_rfl) (by as_aux_lemma => kernel_rfl) (fun _ _ _ h => h) (by rfl) ?hC45 (by assumption) ?_
                  case hC45 => intro w hSw; go_simp; try with_reducible rfl
                  simp only [List.setIfInBounds_toArray, List.set_cons_zero, List.set_cons_succ]
                  refine Ord.take (i := 46) (d := 207) (v := .pointer (some ⟨bp, op + i * 35, none⟩)) rfl rfl (by as_aux_lemma => kernel_rfl) (by as_aux_lemma => kernel_rfl) (by as_aux_lemma => kernel_rfl) (fun _ _ _ h => h) (by rfl) ?hC46 (by assumption) ?_
                  case hC46 => intro w hSw; go_simp; try with_reducible rfl
                  simp only [List.setIfInBounds_toArray, List.set_cons_zero, List.set_cons_succ]
                  refine Ord.take (i := 47) (d := 208) (v := .pointer (some ⟨bp, op + i * 35 + 32, none⟩)) rfl rfl (by as_aux_lemma => kernel_rfl) (by as_aux_lemma => kernel_rfl) (by as_aux_lemma => kernel_rfl) (fun _ _ _ h => h) (by rfl) ?hC47 (by assumption) ?_
                  case hC47 => intro w hSw; go_simp; try with_reducible rfl
                  simp only [List.setIfInBounds_toArray, List.set_cons_zero, List.set_cons_succ]
                  refine Ord.take (i := 48) (d := 209) (v := .int .i64 x.2) rfl rfl (by as_aux_lemma => kernel_rfl) (by as_aux_lemma => kernel_rfl) (by as_aux_lemma => kernel_rfl) (fun _ _ _ h => h) (by rfl) ?hC48 (by assumption) ?_
                  case hC48 => intro w hSw; have hc := HC32.out _ hSw; go_simp; try with_reducible rfl
                  simp only [List.setIfInBounds_toArray, List.set_cons_zero, List.set_cons_succ]
                  refine Ord.take (i := 49) (d := 210) (v := .bool false) rfl rfl (by as_aux_lemma => kernel_rfl) (by as_aux_lemma => kernel_rfl) (by as_aux_lemma => kernel_rfl) (fun _ _ _ h => h) (by rfl) ?hC49 (by assumption) ?_
                  case hC49 => intro w hSw; go_simp; try with_reducible rfl
                  simp only [List.setIfInBounds_toArray, List.set_cons_zero, List.set_cons_succ]
                  refine Ord.take (i := 50) (d := 211) (v := ?vC50) rfl rfl (by as_aux_lemma => kernel_rfl) (by as_aux_lemma => kernel_rfl) (by as_aux_lemma => kernel_rfl) (fun _ _ _ h => h) (by rfl) ?hC50 (by assumption) ?_
                  case hC50 => intro w hSw; go_simp; try with_reducible rfl
                  simp only [List.setIfInBounds_toArray, List.set_cons_zero, List.set_cons_succ]
                  refine wpAnyH_done (by as_aux_lemma => kernel_rfl) ?_ _
                  go_wp2_with fail
                  refine wp_region_held_drew (S := fun X => Below W4.heap.size W4 X) (by kernel_rfl) (bel_drew hS0) (fun hS1 => ?_)
                  have hB1 : Below v0.heap.size v0 v0.drew := (Below.refl _ _).drew
                  generalize v0.drew = v1 at *
                  simp only [List.size_toArray, List.length_cons, List.length_nil, Nat.reduceAdd]
                  refine Ord.take (i := 0) (d := 212) (v := ?vD0) rfl rfl (by as_aux_lemma => kernel_rfl) (by as_aux_lemma => kernel_rfl) (by as_aux_lemma => kernel_rfl) (fun _ _ _ h => h) (by rfl) ?hD0 (by assumption) ?_
                  case hD0 => intro w hSw; go_simp; try with_reducible rfl
                  simp only [List.setIfInBounds_toArray, List.set_cons_zero, List.set_cons_succ]
                  refine Ord.take (i := 1) (d := 213) (v := ?vD1) rfl rfl (by as_aux_lemma => kernel_rfl) (by as_aux_lemma => kernel_rfl) (by as_aux_lemma => kernel_rfl) (fun _ _ _ h => h) (by rfl) ?hD1 (by assumption) ?_
                  case hD1 => intro w hSw; go_simp; try with_reducible rfl
                  simp only [List.setIfInBounds_toArray, List.set_cons_zero, List.set_cons_succ]
                  refine Ord.take (i := 2) (d := 214) (v := ?vD2) rfl rfl (by as_aux_lemma => kernel_rfl) (by as_aux_lemma => kernel_rfl) (by as_aux_lemma => kernel_rfl) (fun _ _ _ h => h) (by rfl) ?hD2 (by assumption) ?_
                  case hD2 => intro w hSw; go_simp; try with_reducible rfl
                  simp only [List.setIfInBounds_toArray, List.set_cons_zero, List.set_cons_succ]
                  refine Ord.take (i := 3) (d := 215) (v := ?vD3) rfl rfl (by as_aux_lemma => kernel_rfl) (by as_aux_lemma => kernel_rfl) (by as_aux_lemma => kernel_rfl) (fun _ _ _ h => h) (by rfl) ?hD3 (by assumption) ?_
                  case hD3 => intro w hSw; go_simp; try with_reducible rfl
                  simp only [List.setIfInBounds_toArray, List.set_cons_zero, List.set_cons_succ]
                  refine Ord.take (i := 4) (d := 216) (v := ?vD4) rfl rfl (by as_aux_lemma => kernel_rfl) (by as_aux_lemma => kernel_rfl) (by as_aux_lemma => kernel_rfl) (fun _ _ _ h => h) (by rfl) ?hD4 (by assumption) ?_
                  case hD4 => intro w hSw; go_simp; try with_reducible rfl
                  simp only [List.setIfInBounds_toArray, List.set_cons_zero, List.set_cons_succ]
                  refine Ord.take (i := 5) (d := 217) (v := .pointer (some ⟨bp, op + i * 35, none⟩)) rfl rfl (by as_aux_lemma => kernel_rfl) (by as_aux_lemma => kernel_rfl) (by as_aux_lemma => kernel_rfl) (fun _ _ _ h => h) (by rfl) ?hD5 (by assumption) ?_
                  case hD5 => intro w hSw; go_simp; try with_reducible rfl
                  simp only [List.setIfInBounds_toArray, List.set_cons_zero, List.set_cons_succ]
                  refine Ord.take (i := 6) (d := 218) (v := .pointer (some ⟨bp, op + i * 35 + 33, none⟩)) rfl rfl (by as_aux_lemma => kernel_rfl) (by as_aux_lemma => kernel_rfl) (by as_aux_lemma => kernel_rfl) (fun _ _ _ h => h) (by rfl) ?hD6 (by assumption) ?_
                  case hD6 => intro w hSw; go_simp; try with_reducible rfl
                  simp only [List.setIfInBounds_toArray, List.set_cons_zero, List.set_cons_succ]
                  refine Ord.take (i := 7) (d := 219) (v := .int .i64 fr) rfl rfl (by as_aux_lemma => kernel_rfl) (by as_aux_lemma => kernel_rfl) (by as_aux_lemma => kernel_rfl) (fun _ _ _ h => h) (by rfl) ?hD7 (by assumption) ?_
                  case hD7 => intro w hSw; have hc := HC33.out _ hSw; go_simp; try with_reducible rfl
                  simp only [List.setIfInBounds_toArray, List.set_cons_zero, List.set_cons_succ]
                  refine Ord.take (i := 8) (d := 220) (v := .int .i64 (la : Int)) rfl rfl (by as_aux_lemma => kernel_rfl) (by as_aux_lemma => kernel_rfl) (by as_aux_lemma => kernel_rfl) (fun _ _ _ h => h) (by rfl) ?hD8 (by assumption) ?_
                  case hD8 => intro w hSw; have e1 := HA1.out; go_simp; try first | with_reducible rfl | exact IntWalk.i64_in _ (by omega)
                  simp only [List.setIfInBounds_toArray, List.set_cons_zero, List.set_cons_succ]
                  refine Ord.take (i := 9) (d := 221) (v := ?vD9) rfl rfl (by as_aux_lemma => kernel_rfl) (by as_aux_lemma => kernel_rfl) (by as_aux_lemma => kernel_rfl) (fun _ _ _ h => h) (by rfl) ?hD9 (by assumption) ?_
                  case hD9 => intro w hSw; go_simp; try with_reducible rfl
                  simp only [List.setIfInBounds_toArray, List.set_cons_zero, List.set_cons_succ]
                  refine Ord.take (i := 10) (d := 222) (v := ?vD10) rfl rfl (by as_aux_lemma => kernel_rfl) (by as_aux_lemma => kernel_rfl) (by as_aux_lemma => kernel_rfl) (fun _ _ _ h => h) (by rfl) ?hD10 (by assumption) ?_
                  case hD10 => intro w hSw; go_simp; try with_reducible rfl
                  simp only [List.setIfInBounds_toArray, List.set_cons_zero, List.set_cons_succ]
                  refine Ord.take (i := 11) (d := 223) (v := ?vD11) rfl rfl (by as_aux_lemma => kernel_rfl) (by as_aux_lemma => kernel_rfl) (by as_aux_lemma => kernel_rfl) (fun _ _ _ h => h) (by rfl) ?hD11 (by assumption) ?_
                  case hD11 => intro w hSw; go_simp; try with_reducible rfl
                  simp only [List.setIfInBounds_toArray, List.set_cons_zero, List.set_cons_succ]
                  refine Ord.take (i := 12) (d := 224) (v := .pointer (some ⟨bp, op + i * 35, none⟩)) rfl rfl (by as_aux_lemma => kernel_rfl) (by as_aux_lemma => kernel_rfl) (by as_aux_lemma => kernel_rfl) (fun _ _ _ h => h) (by rfl) ?hD12 (by assumption) ?_
                  case hD12 => intro w hSw; go_simp; try with_reducible rfl
                  simp only [List.setIfInBounds_toArray, List.set_cons_zero, List.set_cons_succ]
                  refine Ord.take (i := 13) (d := 225) (v := .pointer (some ⟨bp, op + i * 35 + 34, none⟩)) rfl rfl (by as_aux_lemma => kernel_rfl) (by as_aux_lemma => kernel_rfl) (by as_aux_lemma => kernel_rfl) (fun _ _ _ h => h) (by rfl) ?hD13 (by assumption) ?_
                  case hD13 => intro w hSw; go_simp; try with_reducible rfl
                  simp only [List.setIfInBounds_toArray, List.set_cons_zero, List.set_cons_succ]
                  refine Ord.take (i := 14) (d := 226) (v := .int .i64 tt) rfl rfl (by as_aux_lemma => kernel_rfl) (by as_aux_lemma => kernel_rfl) (by as_aux_lemma => kernel_rfl) (fun _ _ _ h => h) (by rfl) ?hD14 (by assumption) ?_
                  case hD14 => intro w hSw; have hc := HC34.out _ hSw; go_simp; try with_reducible rfl
                  simp only [List.setIfInBounds_toArray, List.set_cons_zero, List.set_cons_succ]
                  refine Ord.take (i := 15) (d := 227) (v := .int .i64 (ha : Int)) rfl rfl (by as_aux_lemma => kernel_rfl) (by as_aux_lemma => kernel_rfl) (by as_aux_lemma => kernel_rfl) (fun _ _ _ h => h) (by rfl) ?hD15 (by assumption) ?_
                  case hD15 => intro w hSw; have e1 := HA2.out; go_simp; try first | with_reducible rfl | exact IntWalk.i64_in _ (by omega)
                  simp only [List.setIfInBounds_toArray, List.set_cons_zero, List.set_cons_succ]
                  refine Ord.take (i := 16) (d := 228) (v := .slice (some ⟨V.heap.size, la, none⟩) (ha - la) (m - la)) rfl rfl (by as_aux_lemma => kernel_rfl) (by as_aux_lemma => kernel_rfl) (by as_aux_lemma => kernel_rfl) (fun _ _ _ h => h) (by rfl) ?hD16 (by assumption) ?_
                  case hD16 => intro w hSw; have hz4 : ¬ m = la := (by omega); have hz5 : la ≤ ha := (by omega); go_simp; try with_reducible rfl
                  simp only [List.setIfInBounds_toArray, List.set_cons_zero, List.set_cons_succ]
                  refine wpAnyH_ready (rs := [17]) (by as_aux_lemma => kernel_rfl) (by simp) (AllReadyH.cons rfl (fun K hK => ?_) (AllReadyH.nil))
                  rw [if_pos (by rfl)]
                  refine wp_append_own _ _ _ 56 rfl W4.heap.size 5 i5 _ 1 1 Try.underlying56 hi5' hv0 hv1 hv2 rfl (by decide) _ _ _ rfl (own_later HO.out (Bn hB0 hB1)) ⟨V.heap.size, la, none⟩ (ha - la) (m - la) (((F.drop la).take (ha - la)).map (Value.int .u8)) rfl (by simp; have := HFM.out; omega) (fun k u hu => ?_) (fun u hu => ?_) (by have := HFM.out; unfold maxLen; simp; omega) (by have := HFM.out; simp; omega) hS1.size (fun v' w' h2 h3 h4 => ?_)
                  · rw [add_plain]
                    refine (Joins.cell_of_block (blk_later HF4.out hS1) (la + k)).trans ?_
                    rw [List.getElem?_toArray]
                    exact cut_at F la (ha - la) k u hu
                  · simp only [List.mem_map] at hu
                    obtain ⟨z, _, rfl⟩ := hu
                    rfl
                  · have hSV : Below W4.heap.size W4 w' := hS1.trans ((Below.refl _ _).grown h3 hS1.size (fun k hk => (HO.out.lt k hk).1))
                    have HSV := hid hSV
                    have HO5 : Hid (w'.ownsRow W4.heap.size 5 1 v' ((F.drop fN).take (ha - fN)).length (((F.drop fN).take (ha - fN)).map (Value.int .u8))) := by
                      show World.ownsRow _ _ _ _ _ _ _
                      rw [← take_cut F fN la ha h6 (by omega), List.length_append, List.map_append]
                      have e : ((F.drop la).take (ha - la)).length = ha - la := by simp; have := HFM.out; omega
                      rw [e]
                      rw [HMI.out.1] at h2
                      exact h2
                    clear h2 h3 h4
                    refine hK.out _ _ hSV (fun _ => ?_)
                    clear hK K
                    try simp only [List.setIfInBounds_toArray, List.set_cons_zero, List.set_cons_succ]
                    refine Ord.take (i := 18) (d := 20) (v := ?vD18) rfl rfl (by as_aux_lemma => kernel_rfl) (by as_aux_lemma => kernel_rfl) (by as_aux_lemma => kernel_rfl) (fun _ _ _ h => h) (by rfl) ?hD18 (by assumption) ?_
                    case hD18 => intro w hSw; go_simp; try with_reducible rfl
                    simp only [List.setIfInBounds_toArray, List.set_cons_zero, List.set_cons_succ]
                    refine wpAnyH_done (by as_aux_lemma => kernel_rfl) ?_ _
                    go_wp2
                    go_roundw
                    case rel => exact ⟨i + 1, by omega, by go_num, by rw [HMI.out.2]; exact HO5.out, HSV.out⟩
                    case measure => simp [intOf]; omega
            · have hiz : ¬ (i : Int) < (nL : Int) := by omega
              have hin : i = QL.length := by rw [← HLN.out, ← HNL.out]; omega
              have HT : Hid ((midQ (fN : Int) QL i).toNat - fN = tN) := by
                show _ = _
                rw [hin, mid_end QL _ _ HCH.out]
                omega
              rw [HT.out] at HO
              have hri := cut_ri HF4.out HFM.out HFU.out fN tN hft hm480
              have hlen : ((F.drop fN).take tN).length = tN := by simp; have := HFM.out; omega
              obtain ⟨ga, gc, hgv, hgr⟩ := Ri.own HO.out hri.fits
              obtain ⟨G, hG⟩ : ∃ G, G = (F.drop fN).take tN := ⟨_, rfl⟩
              rw [← hG] at hri hlen hgr hgv
              subst hgv
              have HGT : Hid (∀ X, Below wr.heap.size wr X → (convert 56 9 (.slice ga tN gc)).run Try.prog X = .ok (.string (strOfNums G)) X) := fun X hX => by
                have := hgr.text X hX
                rwa [hlen] at this
              have hg12 := HB.out
              by_cases hfm : fN < m
              · obtain ⟨en, hen⟩ : ∃ k, k = fN + tN := ⟨_, rfl⟩
                have hen2 : en - fN = tN := by omega
                have HGF : Hid (∀ X, Below wr.heap.size wr X → (convert 56 9 (.slice (some ⟨V.heap.size, fN, none⟩) (en - fN) (m - fN))).run Try.prog X = .ok (.string (strOfNums G)) X) := fun X hX => by
                  have := hri.text X (Bn HB.out hX)
                  rw [hen2]
                  rwa [hlen] at this
                have HW9 : Hid (IntKind.i64.wrap ((fN : Int) + (tN : Int)) = (en : Int)) := by
                  show _ = _
                  rw [IntWalk.i64_in _ (by omega)]
                  omega
                have hz2 : en ≤ m := by omega
                have hz3 : fN ≤ en := by omega
                have hz4 : ¬ m = fN := by omega
                clear hen hen2
                have hfz : (fN : Int) < (m : Int) := by omega
                clear hri hgr hG hin HT hg12
                go_wp2_with fail
                refine wp_region_held_drew (S := fun X => Below wr.heap.size wr X) (by kernel_rfl) (Below.refl _ _).drew (fun hS0 => ?_)
                generalize wr.drew = v0 at *
                simp only [List.size_toArray, List.length_cons, List.length_nil, Nat.reduceAdd]
                refine Ord.take (i := 0) (d := 230) (v := ?vE0) rfl rfl (by as_aux_lemma => kernel_rfl) (by as_aux_lemma => kernel_rfl) (by as_aux_lemma => kernel_rfl) (fun _ _ _ h => h) (by rfl) ?hE0 (by assumption) ?_
                case hE0 => intro w hSw; go_simp; try with_reducible rfl
                simp only [List.setIfInBounds_toArray, List.set_cons_zero, List.set_cons_succ]
                refine Ord.take (i := 1) (d := 231) (v := ?vE1) rfl rfl (by as_aux_lemma => kernel_rfl) (by as_aux_lemma => kernel_rfl) (by as_aux_lemma => kernel_rfl) (fun _ _ _ h => h) (by rfl) ?hE1 (by assumption) ?_
                case hE1 => intro w hSw; go_simp; try with_reducible rfl
                simp only [List.setIfInBounds_toArray, List.set_cons_zero, List.set_cons_succ]
                refine Ord.take (i := 2) (d := 232) (v := ?vE2) rfl rfl (by as_aux_lemma => kernel_rfl) (by as_aux_lemma => kernel_rfl) (by as_aux_lemma => kernel_rfl) (fun _ _ _ h => h) (by rfl) ?hE2 (by assumption) ?_
                case hE2 => intro w hSw; go_simp; try with_reducible rfl
                simp only [List.setIfInBounds_toArray, List.set_cons_zero, List.set_cons_succ]
                refine Ord.take (i := 3) (d := 233) (v := ?vE3) rfl rfl (by as_aux_lemma => kernel_rfl) (by as_aux_lemma => kernel_rfl) (by as_aux_lemma => kernel_rfl) (fun _ _ _ h => h) (by rfl) ?hE3 (by assumption) ?_
                case hE3 => intro w hSw; go_simp; try with_reducible rfl
                simp only [List.setIfInBounds_toArray, List.set_cons_zero, List.set_cons_succ]
                refine Ord.take (i := 4) (d := 234) (v := .string (strOfNums G)) rfl rfl (by as_aux_lemma => kernel_rfl) (by as_aux_lemma => kernel_rfl) (by as_aux_lemma => kernel_rfl) (fun _ _ _ h => h) (by rfl) ?hE4 (by assumption) ?_
                case hE4 => intro w hSw; have hc := HGT.out _ hSw; go_simp; try with_reducible rfl
                simp only [List.setIfInBounds_toArray, List.set_cons_zero, List.set_cons_succ]
                refine Ord.take (i := 5) (d := 235) (v := ?vE5) rfl rfl (by as_aux_lemma => kernel_rfl) (by as_aux_lemma => kernel_rfl) (by as_aux_lemma => kernel_rfl) (fun _ _ _ h => h) (by rfl) ?hE5 (by assumption) ?_
                case hE5 => intro w hSw; go_simp; try with_reducible rfl
                simp only [List.setIfInBounds_toArray, List.set_cons_zero, List.set_cons_succ]
                refine Ord.take (i := 6) (d := 236) (v := ?vE6) rfl rfl (by as_aux_lemma => kernel_rfl) (by as_aux_lemma => kernel_rfl) (by as_aux_lemma => kernel_rfl) (fun _ _ _ h => h) (by rfl) ?hE6 (by assumption) ?_
                case hE6 => intro w hSw; go_simp; try with_reducible rfl
                simp only [List.setIfInBounds_toArray, List.set_cons_zero, List.set_cons_succ]
                refine Ord.take (i := 7) (d := 237) (v := ?vE7) rfl rfl (by as_aux_lemma => kernel_rfl) (by as_aux_lemma => kernel_rfl) (by as_aux_lemma => kernel_rfl) (fun _ _ _ h => h) (by rfl) ?hE7 (by assumption) ?_
                case hE7 => intro w hSw; go_simp; try with_reducible rfl
                simp only [List.setIfInBounds_toArray, List.set_cons_zero, List.set_cons_succ]
                refine Ord.take (i := 8) (d := 238) (v := ?vE8) rfl rfl (by as_aux_lemma => kernel_rfl) (by as_aux_lemma => kernel_rfl) (by as_aux_lemma => kernel_rfl) (fun _ _ _ h => h) (by rfl) ?hE8 (by assumption) ?_
                case hE8 => intro w hSw; go_simp; try with_reducible rfl
                simp only [List.setIfInBounds_toArray, List.set_cons_zero, List.set_cons_succ]
                refine Ord.take (i := 9) (d := 239) (v := ?vE9) rfl rfl (by as_aux_lemma => kernel_rfl) (by as_aux_lemma => kernel_rfl) (by as_aux_lemma => kernel_rfl) (fun _ _ _ h => h) (by rfl) ?hE9 (by assumption) ?_
                case hE9 => intro w hSw; go_simp; try with_reducible rfl
                simp only [List.setIfInBounds_toArray, List.set_cons_zero, List.set_cons_succ]
                refine Ord.take (i := 10) (d := 240) (v := .slice (some ⟨V.heap.size, fN, none⟩) (en - fN) (m - fN)) rfl rfl (by as_aux_lemma => kernel_rfl) (by as_aux_lemma => kernel_rfl) (by as_aux_lemma => kernel_rfl) (fun _ _ _ h => h) (by rfl) ?hE10 (by assumption) ?_
                case hE10 => intro w hSw; have hw9 := HW9.out; go_simp; try with_reducible rfl
                simp only [List.setIfInBounds_toArray, List.set_cons_zero, List.set_cons_succ]
                refine Ord.take (i := 11) (d := 241) (v := .string (strOfNums G)) rfl rfl (by as_aux_lemma => kernel_rfl) (by as_aux_lemma => kernel_rfl) (by as_aux_lemma => kernel_rfl) (fun _ _ _ h => h) (by rfl) ?hE11 (by assumption) ?_
                case hE11 => intro w hSw; have hc := HGF.out _ hSw; go_simp; try with_reducible rfl
                simp only [List.setIfInBounds_toArray, List.set_cons_zero, List.set_cons_succ]
                refine Ord.take (i := 12) (d := 242) (v := .bool true) rfl rfl (by as_aux_lemma => kernel_rfl) (by as_aux_lemma => kernel_rfl) (by as_aux_lemma => kernel_rfl) (fun _ _ _ h => h) (by rfl) ?hE12 (by assumption) ?_
                case hE12 => intro w hSw; go_simp; try with_reducible rfl
                simp only [List.setIfInBounds_toArray, List.set_cons_zero, List.set_cons_succ]
                refine Ord.take (i := 13) (d := 243) (v := ?vE13) rfl rfl (by as_aux_lemma => kernel_rfl) (by as_aux_lemma => kernel_rfl) (by as_aux_lemma => kernel_rfl) (fun _ _ _ h => h) (by rfl) ?hE13 (by assumption) ?_
                case hE13 => intro w hSw; go_simp; try with_reducible rfl
                simp only [List.setIfInBounds_toArray, List.set_cons_zero, List.set_cons_succ]
                refine Ord.take (i := 14) (d := 244) (v := ?vE14) rfl rfl (by as_aux_lemma => kernel_rfl) (by as_aux_lemma => kernel_rfl) (by as_aux_lemma => kernel_rfl) (fun _ _ _ h => h) (by rfl) ?hE14 (by assumption) ?_
                case hE14 => intro w hSw; go_simp; try with_reducible rfl
                simp only [List.setIfInBounds_toArray, List.set_cons_zero, List.set_cons_succ]
                refine wpAnyH_ready (rs := [15]) (by as_aux_lemma => kernel_rfl) (by simp) (AllReadyH.cons rfl (fun K hK => ?_) (AllReadyH.nil))
                go_simp
                refine (HAL.out v0).mono ?_
                rintro _ v1 ⟨rfl, hb1⟩
                have hS1 := Bn hS0 hb1
                refine hK.out _ _ hS1 (fun _ => ?_)
                clear hK K hb1
                try simp only [List.setIfInBounds_toArray, List.set_cons_zero, List.set_cons_succ]
                refine Ord.take (i := 16) (d := 246) (v := ?vE16) rfl rfl (by as_aux_lemma => kernel_rfl) (by as_aux_lemma => kernel_rfl) (by as_aux_lemma => kernel_rfl) (fun _ _ _ h => h) (by rfl) ?hE16 (by assumption) ?_
                case hE16 => intro w hSw; go_simp; try with_reducible rfl
                simp only [List.setIfInBounds_toArray, List.set_cons_zero, List.set_cons_succ]
                refine Ord.take (i := 17) (d := 8) (v := ?vE17) rfl rfl (by as_aux_lemma => kernel_rfl) (by as_aux_lemma => kernel_rfl) (by as_aux_lemma => kernel_rfl) (fun _ _ _ h => h) (by rfl) ?hE17 (by assumption) ?_
                case hE17 => intro w hSw; go_simp; try with_reducible rfl
                simp only [List.setIfInBounds_toArray, List.set_cons_zero, List.set_cons_succ]
                refine wpAnyH_done (by as_aux_lemma => kernel_rfl) ?_ _
                have HS1 := hid hS1
                clear hS0 hS1
                go_wp2
                go_ret
                exact ⟨rfl, Bn (Bn HB4.out HB.out) HS1.out⟩
              · have ht0 : tN = 0 := by omega
                have hfe : fN = m := by omega
                have HGF : Hid (∀ X, Below wr.heap.size wr X → (convert 56 9 (.slice (some ⟨V.heap.size, 0, none⟩) 0 0)).run Try.prog X = .ok (.string (strOfNums G)) X) := fun X hX => by
                  have e : G = [] := List.length_eq_zero_iff.1 (by omega)
                  rw [e]
                  exact (ri_none wr .u8 (some ⟨V.heap.size, 0, none⟩) 0 (by unfold maxLen; omega)).text X hX
                subst ht0
                have HW9 : Hid (IntKind.i64.wrap (m : Int) = (m : Int)) := IntWalk.i64_in _ (by omega)
                clear hri hgr hG hin HT hg12
                go_wp2_with fail
                refine wp_region_held_drew (S := fun X => Below wr.heap.size wr X) (by kernel_rfl) (Below.refl _ _).drew (fun hS0 => ?_)
                generalize wr.drew = v0 at *
                simp only [List.size_toArray, List.length_cons, List.length_nil, Nat.reduceAdd]
                refine Ord.take (i := 0) (d := 230) (v := ?vF0) rfl rfl (by as_aux_lemma => kernel_rfl) (by as_aux_lemma => kernel_rfl) (by as_aux_lemma => kernel_rfl) (fun _ _ _ h => h) (by rfl) ?hF0 (by assumption) ?_
                case hF0 => intro w hSw; go_simp; try with_reducible rfl
                simp only [List.setIfInBounds_toArray, List.set_cons_zero, List.set_cons_succ]
                refine Ord.take (i := 1) (d := 231) (v := ?vF1) rfl rfl (by as_aux_lemma => kernel_rfl) (by as_aux_lemma => kernel_rfl) (by as_aux_lemma => kernel_rfl) (fun _ _ _ h => h) (by rfl) ?hF1 (by assumption) ?_
                case hF1 => intro w hSw; go_simp; try with_reducible rfl
                simp only [List.setIfInBounds_toArray, List.set_cons_zero, List.set_cons_succ]
                refine Ord.take (i := 2) (d := 232) (v := ?vF2) rfl rfl (by as_aux_lemma => kernel_rfl) (by as_aux_lemma => kernel_rfl) (by as_aux_lemma => kernel_rfl) (fun _ _ _ h => h) (by rfl) ?hF2 (by assumption) ?_
                case hF2 => intro w hSw; go_simp; try with_reducible rfl
                simp only [List.setIfInBounds_toArray, List.set_cons_zero, List.set_cons_succ]
                refine Ord.take (i := 3) (d := 233) (v := ?vF3) rfl rfl (by as_aux_lemma => kernel_rfl) (by as_aux_lemma => kernel_rfl) (by as_aux_lemma => kernel_rfl) (fun _ _ _ h => h) (by rfl) ?hF3 (by assumption) ?_
                case hF3 => intro w hSw; go_simp; try with_reducible rfl
                simp only [List.setIfInBounds_toArray, List.set_cons_zero, List.set_cons_succ]
                refine Ord.take (i := 4) (d := 234) (v := .string (strOfNums G)) rfl rfl (by as_aux_lemma => kernel_rfl) (by as_aux_lemma => kernel_rfl) (by as_aux_lemma => kernel_rfl) (fun _ _ _ h => h) (by rfl) ?hF4 (by assumption) ?_
                case hF4 => intro w hSw; have hc := HGT.out _ hSw; go_simp; try with_reducible rfl
                simp only [List.setIfInBounds_toArray, List.set_cons_zero, List.set_cons_succ]
                refine Ord.take (i := 5) (d := 235) (v := ?vF5) rfl rfl (by as_aux_lemma => kernel_rfl) (by as_aux_lemma => kernel_rfl) (by as_aux_lemma => kernel_rfl) (fun _ _ _ h => h) (by rfl) ?hF5 (by assumption) ?_
                case hF5 => intro w hSw; go_simp; try with_reducible rfl
                simp only [List.setIfInBounds_toArray, List.set_cons_zero, List.set_cons_succ]
                refine Ord.take (i := 6) (d := 236) (v := ?vF6) rfl rfl (by as_aux_lemma => kernel_rfl) (by as_aux_lemma => kernel_rfl) (by as_aux_lemma => kernel_rfl) (fun _ _ _ h => h) (by rfl) ?hF6 (by assumption) ?_
                case hF6 => intro w hSw; go_simp; try with_reducible rfl
                simp only [List.setIfInBounds_toArray, List.set_cons_zero, List.set_cons_succ]
                refine Ord.take (i := 7) (d := 237) (v := ?vF7) rfl rfl (by as_aux_lemma => kernel_rfl) (by as_aux_lemma => kernel_rfl) (by as_aux_lemma => kernel_rfl) (fun _ _ _ h => h) (by rfl) ?hF7 (by assumption) ?_
                case hF7 => intro w hSw; go_simp; try with_reducible rfl
                simp only [List.setIfInBounds_toArray, List.set_cons_zero, List.set_cons_succ]
                refine Ord.take (i := 8) (d := 238) (v := ?vF8) rfl rfl (by as_aux_lemma => kernel_rfl) (by as_aux_lemma => kernel_rfl) (by as_aux_lemma => kernel_rfl) (fun _ _ _ h => h) (by rfl) ?hF8 (by assumption) ?_
                case hF8 => intro w hSw; go_simp; try with_reducible rfl
                simp only [List.setIfInBounds_toArray, List.set_cons_zero, List.set_cons_succ]
                refine Ord.take (i := 9) (d := 239) (v := ?vF9) rfl rfl (by as_aux_lemma => kernel_rfl) (by as_aux_lemma => kernel_rfl) (by as_aux_lemma => kernel_rfl) (fun _ _ _ h => h) (by rfl) ?hF9 (by assumption) ?_
                case hF9 => intro w hSw; go_simp; try with_reducible rfl
                simp only [List.setIfInBounds_toArray, List.set_cons_zero, List.set_cons_succ]
                refine Ord.take (i := 10) (d := 240) (v := .slice (some ⟨V.heap.size, 0, none⟩) 0 0) rfl rfl (by as_aux_lemma => kernel_rfl) (by as_aux_lemma => kernel_rfl) (by as_aux_lemma => kernel_rfl) (fun _ _ _ h => h) (by rfl) ?hF10 (by assumption) ?_
                case hF10 => intro w hSw; have hw9 := HW9.out; go_simp; try with_reducible rfl
                simp only [List.setIfInBounds_toArray, List.set_cons_zero, List.set_cons_succ]
                refine Ord.take (i := 11) (d := 241) (v := .string (strOfNums G)) rfl rfl (by as_aux_lemma => kernel_rfl) (by as_aux_lemma => kernel_rfl) (by as_aux_lemma => kernel_rfl) (fun _ _ _ h => h) (by rfl) ?hF11 (by assumption) ?_
                case hF11 => intro w hSw; have hc := HGF.out _ hSw; go_simp; try with_reducible rfl
                simp only [List.setIfInBounds_toArray, List.set_cons_zero, List.set_cons_succ]
                refine Ord.take (i := 12) (d := 242) (v := .bool true) rfl rfl (by as_aux_lemma => kernel_rfl) (by as_aux_lemma => kernel_rfl) (by as_aux_lemma => kernel_rfl) (fun _ _ _ h => h) (by rfl) ?hF12 (by assumption) ?_
                case hF12 => intro w hSw; go_simp; try with_reducible rfl
                simp only [List.setIfInBounds_toArray, List.set_cons_zero, List.set_cons_succ]
                refine Ord.take (i := 13) (d := 243) (v := ?vF13) rfl rfl (by as_aux_lemma => kernel_rfl) (by as_aux_lemma => kernel_rfl) (by as_aux_lemma => kernel_rfl) (fun _ _ _ h => h) (by rfl) ?hF13 (by assumption) ?_
                case hF13 => intro w hSw; go_simp; try with_reducible rfl
                simp only [List.setIfInBounds_toArray, List.set_cons_zero, List.set_cons_succ]
                refine Ord.take (i := 14) (d := 244) (v := ?vF14) rfl rfl (by as_aux_lemma => kernel_rfl) (by as_aux_lemma => kernel_rfl) (by as_aux_lemma => kernel_rfl) (fun _ _ _ h => h) (by rfl) ?hF14 (by assumption) ?_
                case hF14 => intro w hSw; go_simp; try with_reducible rfl
                simp only [List.setIfInBounds_toArray, List.set_cons_zero, List.set_cons_succ]
                refine wpAnyH_ready (rs := [15]) (by as_aux_lemma => kernel_rfl) (by simp) (AllReadyH.cons rfl (fun K hK => ?_) (AllReadyH.nil))
                go_simp
                refine (HAL.out v0).mono ?_
                rintro _ v1 ⟨rfl, hb1⟩
                have hS1 := Bn hS0 hb1
                refine hK.out _ _ hS1 (fun _ => ?_)
                clear hK K hb1
                try simp only [List.setIfInBounds_toArray, List.set_cons_zero, List.set_cons_succ]
                refine Ord.take (i := 16) (d := 246) (v := ?vF16) rfl rfl (by as_aux_lemma => kernel_rfl) (by as_aux_lemma => kernel_rfl) (by as_aux_lemma => kernel_rfl) (fun _ _ _ h => h) (by rfl) ?hF16 (by assumption) ?_
                case hF16 => intro w hSw; go_simp; try with_reducible rfl
                simp only [List.setIfInBounds_toArray, List.set_cons_zero, List.set_cons_succ]
                refine Ord.take (i := 17) (d := 8) (v := ?vF17) rfl rfl (by as_aux_lemma => kernel_rfl) (by as_aux_lemma => kernel_rfl) (by as_aux_lemma => kernel_rfl) (fun _ _ _ h => h) (by rfl) ?hF17 (by assumption) ?_
                case hF17 => intro w hSw; go_simp; try with_reducible rfl
                simp only [List.setIfInBounds_toArray, List.set_cons_zero, List.set_cons_succ]
                refine wpAnyH_done (by as_aux_lemma => kernel_rfl) ?_ _
                have HS1 := hid hS1
                clear hS0 hS1
                go_wp2
                go_ret
                exact ⟨rfl, Bn (Bn HB4.out HB.out) HS1.out⟩
      · have hk0 : k = 0 := by simp at hk; omega
        subst hk0
        have hM : M = [] := ha
        subst hM
        exact absurd (may_nil HMAY.out rfl) hne
    · clear hmk
      obtain ⟨L1, hL1⟩ : ∃ n, n = l1.length := ⟨_, rfl⟩
      have HL1 := hid hL1
      rw [← hL1]
      rw [← hL1] at hro1
      clear hL1
      go_loopw [14] (fun x14 wr => ∃ (i : Nat) (F : List Int), i ≤ m ∧ x14 = .int .i64 (i : Int) ∧ Hid (F.length = m) ∧ Hid (∀ z ∈ F, 0 ≤ z ∧ z ≤ 255) ∧ Hid (wr.heap[V.heap.size]? = some (.cells (F.map (Value.int .u8)).toArray 5)) ∧ Hid (V1.grownBy wr (some V.heap.size))) (fun x14 _ => m - (intOf x14).toNat)
      case atStart => exact ⟨0, List.replicate m 0, by omega, rfl, List.length_replicate .., (fun z hz => by rw [List.eq_of_mem_replicate hz]; omega), HF1.out, World.grownBy.refl _ _⟩
      case round =>
        obtain ⟨i, F, hi1, rfl, HFL, HFU, HFB, HG⟩ := hrel
        by_cases hlt : i < m
        · have hiz : (i : Int) < (m : Int) := by omega
          by_cases hl : 0 < L1
          · have hlz : (0 : Int) < (L1 : Int) := by omega
            obtain ⟨b, off, rfl, hbw, hc⟩ := HR1.out.cells (by rw [← HL1.out]; exact hl)
            obtain ⟨j, hj⟩ : ∃ j, j = i % L1 := ⟨_, rfl⟩
            have hjl : j < L1 := by rw [hj]; exact Nat.mod_lt _ hl
            have HJ : Hid ((i : Int).tmod (L1 : Int) = (j : Int)) := by show _ = _; rw [Int.tmod_eq_emod_of_nonneg (by omega), hj]; omega
            obtain ⟨d, hd⟩ : ∃ d, d = i / L1 := ⟨_, rfl⟩
            have hdm : d ≤ 480 := by rw [hd]; exact Nat.le_trans (Nat.div_le_self _ _) (by omega)
            have HD : Hid ((i : Int) / (L1 : Int) = (d : Int)) := by show _ = _; rw [hd]; omega
            have HD2 : Hid (IntKind.i64.wrap (d : Int) = (d : Int)) := by show _ = _; rw [IntKind.wrap_i64]; omega
            have hcj := (HB1.out.cell (p := ⟨b, off + j, none⟩) hbw).trans (hc j (by rw [← HL1.out]; exact hjl))
            have HCJ : Hid (∀ X, V1.grownBy X (some V.heap.size) → X.cell? ⟨b, off + j, none⟩ = some (.int .u8 (l1.getD j 0))) := fun X hX => by
              rw [World.cell?_of_block (w' := X) (w := V1) (hX.block _ (Nat.lt_of_lt_of_le hbw HB1.out.size) (fun e => by have e2 : b = V.heap.size := Option.some.inj e; have := HVL.out; omega))]
              exact hcj
            have hzb := wf_u8 (HR1.out.fits j)
            generalize l1.getD j 0 = z at *
            have hz5 := hzb.1
            have hz6 := hzb.2
            have hln : ¬ L1 = 0 := by omega
            clear hc hcj hj hd hzb
            go_wp2_with fail
            refine wp_region_held_drew (S := fun X => wr.grownBy X (some V.heap.size)) (by kernel_rfl) (grown_bel (Below.refl _ _).drew) (fun hS0 => ?_)
            have hB0 : Below wr.heap.size wr wr.drew := (Below.refl _ _).drew
            generalize wr.drew = v0 at *
            simp only [List.size_toArray, List.length_cons, List.length_nil, Nat.reduceAdd]
            refine Ord.take (i := 0) (d := 65) (v := ?vA0) rfl rfl (by as_aux_lemma => kernel_rfl) (by as_aux_lemma => kernel_rfl) (by as_aux_lemma => kernel_rfl) (fun _ _ _ h => (aft2_no h).elim) (by rfl) ?hA0 (by assumption) ?_
            case hA0 => intro w hSw; go_simp; try with_reducible rfl
            simp only [List.setIfInBounds_toArray, List.set_cons_zero, List.set_cons_succ]
            refine Ord.take (i := 1) (d := 66) (v := ?vA1) rfl rfl (by as_aux_lemma => kernel_rfl) (by as_aux_lemma => kernel_rfl) (by as_aux_lemma => kernel_rfl) (fun _ _ _ h => (aft2_no h).elim) (by rfl) ?hA1 (by assumption) ?_
            case hA1 => intro w hSw; go_simp; try with_reducible rfl
            simp only [List.setIfInBounds_toArray, List.set_cons_zero, List.set_cons_succ]
            refine Ord.take (i := 2) (d := 67) (v := ?vA2) rfl rfl (by as_aux_lemma => kernel_rfl) (by as_aux_lemma => kernel_rfl) (by as_aux_lemma => kernel_rfl) (fun _ _ _ h => (aft2_no h).elim) (by rfl) ?hA2 (by assumption) ?_
            case hA2 => intro w hSw; go_simp; try with_reducible rfl
            simp only [List.setIfInBounds_toArray, List.set_cons_zero, List.set_cons_succ]
            refine Ord.take (i := 3) (d := 68) (v := ?vA3) rfl rfl (by as_aux_lemma => kernel_rfl) (by as_aux_lemma => kernel_rfl) (by as_aux_lemma => kernel_rfl) (fun _ _ _ h => (aft2_no h).elim) (by rfl) ?hA3 (by assumption) ?_
            case hA3 => intro w hSw; go_simp; try with_reducible rfl
            simp only [List.setIfInBounds_toArray, List.set_cons_zero, List.set_cons_succ]
            refine Ord.take (i := 4) (d := 69) (v := ?vA4) rfl rfl (by as_aux_lemma => kernel_rfl) (by as_aux_lemma => kernel_rfl) (by as_aux_lemma => kernel_rfl) (fun _ _ _ h => (aft2_no h).elim) (by rfl) ?hA4 (by assumption) ?_
            case hA4 => intro w hSw; go_simp; try with_reducible rfl
            simp only [List.setIfInBounds_toArray, List.set_cons_zero, List.set_cons_succ]
            refine Ord.take (i := 5) (d := 70) (v := ?vA5) rfl rfl (by as_aux_lemma => kernel_rfl) (by as_aux_lemma => kernel_rfl) (by as_aux_lemma => kernel_rfl) (fun _ _ _ h => (aft2_no h).elim) (by rfl) ?hA5 (by assumption) ?_
            case hA5 => intro w hSw; go_simp; try with_reducible rfl
            simp only [List.setIfInBounds_toArray, List.set_cons_zero, List.set_cons_succ]
            refine Ord.take (i := 6) (d := 71) (v := .int .i64 (j : Int)) rfl rfl (by as_aux_lemma => kernel_rfl) (by as_aux_lemma => kernel_rfl) (by as_aux_lemma => kernel_rfl) (fun _ _ _ h => (aft2_no h).elim) (by rfl) ?hA6 (by assumption) ?_
            case hA6 => intro w hSw; have e1 := HJ.out; go_simp; try with_reducible rfl
            simp only [List.setIfInBounds_toArray, List.set_cons_zero, List.set_cons_succ]
            refine Ord.take (i := 7) (d := 72) (v := .pointer (some ⟨b, off + j, none⟩)) rfl rfl (by as_aux_lemma => kernel_rfl) (by as_aux_lemma => kernel_rfl) (by as_aux_lemma => kernel_rfl) (fun _ _ _ h => (aft2_no h).elim) (by rfl) ?hA7 (by assumption) ?_
            case hA7 => intro w hSw; go_simp; try with_reducible rfl
            simp only [List.setIfInBounds_toArray, List.set_cons_zero, List.set_cons_succ]
            refine Ord.take (i := 8) (d := 73) (v := .int .u8 z) rfl rfl (by as_aux_lemma => kernel_rfl) (by as_aux_lemma => kernel_rfl) (by as_aux_lemma => kernel_rfl) (fun _ _ _ h => (aft2_no h).elim) (by rfl) ?hA8 (by assumption) ?_
            case hA8 => intro w hSw; have hc := HCJ.out _ (HG.out.trans hSw); go_simp; try with_reducible rfl
            simp only [List.setIfInBounds_toArray, List.set_cons_zero, List.set_cons_succ]
            refine Ord.take (i := 9) (d := 74) (v := ?vA9) rfl rfl (by as_aux_lemma => kernel_rfl) (by as_aux_lemma => kernel_rfl) (by as_aux_lemma => kernel_rfl) (fun _ _ _ h => (aft2_no h).elim) (by rfl) ?hA9 (by assumption) ?_
            case hA9 => intro w hSw; go_simp; try with_reducible rfl
            simp only [List.setIfInBounds_toArray, List.set_cons_zero, List.set_cons_succ]
            refine Ord.take (i := 10) (d := 75) (v := ?vA10) rfl rfl (by as_aux_lemma => kernel_rfl) (by as_aux_lemma => kernel_rfl) (by as_aux_lemma => kernel_rfl) (fun _ _ _ h => (aft2_no h).elim) (by rfl) ?hA10 (by assumption) ?_
            case hA10 => intro w hSw; go_simp; try with_reducible rfl
            simp only [List.setIfInBounds_toArray, List.set_cons_zero, List.set_cons_succ]
            refine Ord.take (i := 11) (d := 76) (v := ?vA11) rfl rfl (by as_aux_lemma => kernel_rfl) (by as_aux_lemma => kernel_rfl) (by as_aux_lemma => kernel_rfl) (fun _ _ _ h => (aft2_no h).elim) (by rfl) ?hA11 (by assumption) ?_
            case hA11 => intro w hSw; go_simp; try with_reducible rfl
            simp only [List.setIfInBounds_toArray, List.set_cons_zero, List.set_cons_succ]
            refine Ord.take (i := 12) (d := 77) (v := .int .i64 (d : Int)) rfl rfl (by as_aux_lemma => kernel_rfl) (by as_aux_lemma => kernel_rfl) (by as_aux_lemma => kernel_rfl) (fun _ _ _ h => (aft2_no h).elim) (by rfl) ?hA12 (by assumption) ?_
            case hA12 => intro w hSw; have e1 := HD.out; have e2 := HD2.out; go_simp; try with_reducible rfl
            simp only [List.setIfInBounds_toArray, List.set_cons_zero, List.set_cons_succ]
            refine Ord.take (i := 13) (d := 78) (v := ?vA13) rfl rfl (by as_aux_lemma => kernel_rfl) (by as_aux_lemma => kernel_rfl) (by as_aux_lemma => kernel_rfl) (fun _ _ _ h => (aft2_no h).elim) (by rfl) ?hA13 (by assumption) ?_
            case hA13 => intro w hSw; go_simp; try with_reducible rfl
            simp only [List.setIfInBounds_toArray, List.set_cons_zero, List.set_cons_succ]
            refine Ord.take (i := 14) (d := 79) (v := ?vA14) rfl rfl (by as_aux_lemma => kernel_rfl) (by as_aux_lemma => kernel_rfl) (by as_aux_lemma => kernel_rfl) (fun _ _ _ h => (aft2_no h).elim) (by rfl) ?hA14 (by assumption) ?_
            case hA14 => intro w hSw; go_simp; try with_reducible rfl
            simp only [List.setIfInBounds_toArray, List.set_cons_zero, List.set_cons_succ]
            refine Ord.take (i := 15) (d := 80) (v := .pointer (some ⟨V.heap.size, i, none⟩)) rfl rfl (by as_aux_lemma => kernel_rfl) (by as_aux_lemma => kernel_rfl) (by as_aux_lemma => kernel_rfl) (fun _ _ _ h => (aft2_no h).elim) (by rfl) ?hA15 (by assumption) ?_
            case hA15 => intro w hSw; go_simp; try with_reducible rfl
            simp only [List.setIfInBounds_toArray, List.set_cons_zero, List.set_cons_succ]
            have hfb0 := (hB0.block _ (blk_lt HFB.out)).trans HFB.out
            have hlen : i < F.length := by rw [HFL.out]; exact hlt
            have hcv : v0.cell? ⟨V.heap.size, i, none⟩ = some (.int .u8 (F.getD i 0)) := (Joins.cell_of_block hfb0 i).trans (by simp [List.getD, List.getElem?_eq_getElem hlen])
            have hcu := Joins.unfrozen_of_block hfb0 i
            obtain ⟨X, hX⟩ : ∃ X, X = IntKind.u8.wrap (z + IntKind.u8.wrap (d : Int)) := ⟨_, rfl⟩
            have HXB : Hid (0 ≤ X ∧ X ≤ 255) := by show _ ∧ _; rw [hX]; simp [IntKind.wrap, IntKind.bits, IntKind.signed]; omega
            have HFB2 : Hid ((v0.setCell ⟨V.heap.size, i, none⟩ (.int .u8 X)).heap[V.heap.size]? = some (.cells ((F.set i X).map (Value.int .u8)).toArray 5)) := (Joins.block_setCell hfb0 _).trans (by rw [List.map_set, List.setIfInBounds_toArray])
            have hSV : wr.grownBy (v0.setCell ⟨V.heap.size, i, none⟩ (.int .u8 X)) (some V.heap.size) := hS0.trans (grown_setCell _ _ _ _)
            have HG2 := hid (HG.out.trans hSV)
            rw [← hX]
            clear hfb0 hlen hX
            refine wpAnyH_ready (rs := [16]) (by as_aux_lemma => kernel_rfl) (by simp) (AllReadyH.cons rfl (fun K hK => ?_) (AllReadyH.nil))
            go_simp
            refine hK.out _ _ hSV (fun _ => ?_)
            clear hK K hcv hcu
            try simp only [List.setIfInBounds_toArray, List.set_cons_zero, List.set_cons_succ]
            refine wpAnyH_done (by as_aux_lemma => kernel_rfl) ?_ _
            go_wp2
            go_round
            case rel => exact ⟨i + 1, F.set i X, by omega, by go_num, (by show _ = _; rw [List.length_set]; exact HFL.out), (fun y hy => by rcases List.mem_or_eq_of_mem_set hy with h | h; exact HFU.out y h; rw [h]; exact HXB.out), HFB2.out, HG2.out⟩
            case measure => simp [intOf]; omega
          · have hl0 : ¬ (0 : Int) < (l1.length : Int) := by rw [← HL1.out]; omega
            rw [HL1.out]
            go_wp2
            exact aft2_mk F _ HFL.out HFU.out HFB.out HG.out (by kernel_rfl)
        · have hiz : ¬ (i : Int) < (m : Int) := by omega
          rw [HL1.out]
          go_wp2
          exact aft2_mk F _ HFL.out HFU.out HFB.out HG.out (by kernel_rfl)
  · go_loopw [9, 10, 11] (fun x9 x10 x11 wr => ∃ k : Nat, k ≤ L0 ∧ k ≤ 12 ∧ x11 = .int .i64 (k : Int) ∧ x10 = .int .i64 (sumP (psK zs k)) ∧ Hid (wr.ownsRow w.heap.size 59 33 x9 k ((psK zs k).flatMap pcC)) ∧ Hid (Below w.heap.size w wr)) (fun _ _ x11 _ => 12 - (intOf x11).toNat)
    case atStart => exact ⟨0, by omega, by omega, rfl, rfl, World.ownsRow_nil _ _ _ _, Below.refl _ _⟩
    case round =>
      obtain ⟨k, hk, hk12, rfl, rfl, HO, HB⟩ := hrel
      have hsum := psK_sum zs k
      by_cases hlt : k < L0
      · have hkz : (k : Int) < (L0 : Int) := by omega
        by_cases h12 : k < 12
        · have hk12z : (k : Int) < 12 := by omega
          obtain ⟨b, off, rfl, hbw, hc⟩ := HR0.out.cells (by rw [← HL0.out]; omega)
          have hck := (HB.out.cell (p := ⟨b, off + k, none⟩) hbw).trans (hc k (by rw [← HL0.out]; exact hlt))
          have hzb := wf_u16 (HR0.out.fits k)
          have HPS : Hid (psK zs (k + 1) = psK zs k ++ [(dgI (k : Int), 1 + zs.getD k 0 % 40)]) := rfl
          generalize zs.getD k 0 = z at *
          have hzm : 0 ≤ z % 40 ∧ z % 40 ≤ 39 := by omega
          have hz3 := hzm.1
          have hz4 := hzm.2
          have hz5 := hzb.1
          have hz6 := hzb.2
          have HSM : Hid (sumP (psK zs (k + 1)) = sumP (psK zs k) + (1 + z % 40)) := by show _ = _; rw [HPS.out, sumP_app]; simp [sumP]
          have HPL : Hid ((pcC (dgI (k : Int), 1 + z % 40)).length = 33) := pcC_len rfl
          have HB32 := hid (built32 (k : Int))
          have HB59 := hid (built59b (k : Int) (1 + z % 40))
          have HPZ : Hid (pcZ.size = 33) := by show _ = _; rfl
          generalize sumP (psK zs k) = S at *
          clear hc hbw hzm hzb
          go_wp2_with (first | refine wpList_buildTo rfl 32 _ rfl (some 46) rfl ((dgI (k : Int)).map (Value.int .u8)).toArray (Eq.trans (congrArg (Try.prog.built 32) (by simp only [List.map_toArray, List.map_cons, List.map_nil]; rfl)) HB32.out) ?_ | refine wpList_buildTo rfl 59 _ rfl (some 47) rfl (pcC (dgI (k : Int), 1 + z % 40)).toArray (Eq.trans (congrArg (Try.prog.built 59) (by simp only [List.map_toArray, List.map_cons, List.map_nil]; rfl)) HB59.out) ?_ | refine wpList_buildOne rfl 34 59 _ rfl (some 48) rfl (pcC (dgI (k : Int), 1 + z % 40)).toArray i0 _ Try.underlying34 hi hz0 (by rw [hz1, List.size_toArray, HPL.out]) (by rw [List.size_toArray, HPL.out]; decide) (by rw [List.size_toArray, HPL.out]; decide) rfl ?_ | (at_builtin; refine wpList_append_own _ rfl _ _ 34 rfl w.heap.size 59 i0 _ 33 40 Try.underlying34 hi hz0 hz1 hz2 rfl (by decide) _ _ _ rfl (HO.out.alloc _) ⟨wr.heap.size, 0, none⟩ 1 1 (pcC (dgI (k : Int), 1 + z % 40)) rfl (by rw [HPL.out]) (fun j u hu => (by rw [add_plain, Nat.zero_add]; exact (Joins.cell_of_block (heap_alc wr _) j).trans (by rw [List.getElem?_toArray]; exact hu))) (pcC_one _) (by unfold maxLen; omega) (by omega) (by have := HB.out.size; simp; omega) ?_) | fail)
          intro v5 W5 ho5 hg5 _
          have HO5 : Hid (W5.ownsRow w.heap.size 59 33 v5 (k + 1) ((psK zs (k + 1)).flatMap pcC)) := by
            show World.ownsRow _ _ _ _ _ _ _
            rw [HPS.out, List.flatMap_append]
            simpa using ho5
          have HB5 : Hid (Below w.heap.size w W5) := (HB.out.trans ((bel_alc wr _).mono HB.out.size)).trans ((Below.refl _ _).grown hg5 (by have := HB.out.size; simp; omega) (fun j hj => (HO.out.lt j hj).1))
          clear ho5 hg5 HO
          go_wp2
          go_round
          case rel => exact ⟨k + 1, by omega, by omega, by go_num, by rw [HSM.out], HO5.out, HB5.out⟩
          case measure => simp [intOf]; omega
        · have hk12z : ¬ (k : Int) < 12 := by omega
          go_wp2
          exact aft1_mk k _ _ hk12 HO.out HB.out (by kernel_rfl)
      · have hkz : ¬ (k : Int) < (L0 : Int) := by omega
        go_wp2
        exact aft1_mk k _ _ hk12 HO.out HB.out (by kernel_rfl)
set_option maxRecDepth 100000 in
theorem lifted (os : Os) (started : os.Started) (H : Type) (enc : TypeId × Value → H) :
    ReturnsInHanded {} Try.checked os 6 .any (Rows.namesSlicesSpec.pre6 enc Try.prog Try.f6 Rows.namesSlicesRow.domain false) (Rows.namesSlicesSpec.post enc Try.prog Try.f6 false true false false) := by
  refine returnsInHanded_of_change (C := Try.checked) own started (by kernel_rfl) Try.func6
    (ChangeSpec.witness6 (enc := enc) (C := Try.checked) false ⟨#[], #[.slice none 0 0, .slice none 0 0, .int .i64 0, .int .i64 0], []⟩ 8 (by kernel_rfl) (by kernel_rfl) (by kernel_rfl) (by kernel_rfl)) ?_
  intro W base args ds gs before hval0 hW _ _
  have hval : ∀ (j : Nat) t v, Try.f6.params[j]? = some t → args[j]? = some v → Value.okWide Try.prog W .any base t v := hval0
  have hW' := hW
  obtain ⟨p, q, hA0, hV, rfl, _, _⟩ := hW
  have hA : DataW.TrodAll enc Try.prog W 0 (fun _ => true) true Try.f6.params.toList args.toList ds p := hA0
  rw [Try.params6] at hA hval
  obtain ⟨v0, vs0, d0, ds0, p0, q0, hargs, rfl, rfl, h0, r0⟩ := trodAll_cons hA
  obtain ⟨v1, vs1, d1, ds1, p1, q1, rfl, rfl, rfl, h1, r1⟩ := trodAll_cons r0
  obtain ⟨v2, vs2, d2, ds2, p2, q2, rfl, rfl, rfl, h2, r2⟩ := trodAll_cons r1
  obtain ⟨v3, vs3, d3, ds3, p3, q3, rfl, rfl, rfl, h3, r3⟩ := trodAll_cons r2
  obtain ⟨rfl, rfl, rfl⟩ := trodAll_nil r3
  obtain rfl : args = #[v0, v1, v2, v3] := by cases args; simp_all
  obtain ⟨rfl, rfl⟩ := trodVars_none hV
  obtain ⟨a2, rfl, rfl, rfl, w2⟩ := open_int Try.underlying3 (hval 2 3 v2 rfl rfl) h2
  obtain ⟨a3, rfl, rfl, rfl, w3⟩ := open_int Try.underlying3 (hval 3 3 v3 rfl rfl) h3
  clear hA0
  simp only [List.append_nil] at hW'
  have hlt0 : ∀ x ∈ p0, x.block < W.heap.size := fun x hx => hW'.lt x (by simp [hx])
  have hk0 := h0
  obtain ⟨a0, cap0, l0, rfl, hr0⟩ := open_ri Try.underlying55 Try.underlying57 Try.cells57 (hval 0 55 v0 rfl rfl) h0 hlt0
  have hlt1 : ∀ x ∈ p1, x.block < W.heap.size := fun x hx => hW'.lt x (by simp [hx])
  have hk1 := h1
  obtain ⟨a1, cap1, l1, rfl, hr1⟩ := open_ri Try.underlying56 Try.underlying5 Try.cells5 (hval 1 56 v1 rfl rfl) h1 hlt1
  clear hval0
  refine (walk a0 cap0 l0 a1 cap1 l1 a2 w2 a3 w3 W hr0 hr1).mono fun e W' ⟨he, hb⟩ => ?_
  subst he
  exact ⟨_, rfl, _, _, _, [] ++ [], _, [], hW', trodAll_cons_mk (shut_bool Try.underlying4 _) trodAll_mk0, (trodAll_cons_mk (Below.trod Try.laidOut (by kernel_rfl) (of_decide_eq_true (by kernel_rfl)) hk0 hb hlt0) (trodAll_cons_mk (Below.trod Try.laidOut (by kernel_rfl) (of_decide_eq_true (by kernel_rfl)) hk1 hb hlt1) (trodAll_cons_mk (shut_int Try.underlying3 w2) (trodAll_cons_mk (shut_int Try.underlying3 w3) trodAll_mk0)))), rfl, hb.frame _, fun h => by cases h⟩

theorem over : Rows.namesSlicesRow.holds Try.pinned (OpenSpec.ofChange Rows.namesSlicesSpec) :=
  OpenClaim.holds_of_wide 6 Try.f6 rfl rfl rfl rfl rfl rfl rfl ⟨rfl, rfl, rfl, rfl, rfl⟩ rfl rfl rfl rfl rfl (by kernel_rfl) Try.func6 (by kernel_rfl)
    (of_decide_eq_true (by kernel_rfl)) (by unfold Func.isWrapper; first | (rw [if_pos (by decide +kernel)]; kernel_rfl) | (rw [if_neg (by decide +kernel)]; exact ⟨rfl, rfl⟩))
    (fun os started H enc _ => lifted os started H enc)

end Go.Proofs.Ytcbjlnabbfkkeaa.namesSlices
namespace Go.Proofs.Ytcbjlnabbfkkeaa
theorem namesSlices_holds : Rows.NamesSlicesSaid := namesSlices.over
#print axioms namesSlices_holds
end Go.Proofs.Ytcbjlnabbfkkeaa
