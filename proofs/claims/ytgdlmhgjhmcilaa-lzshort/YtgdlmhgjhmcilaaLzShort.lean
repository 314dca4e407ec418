/-
  LzShort is proved for every input: there are no more tokens than bytes, and no copy can be longer; no condition.
-/
import Derived.Test.YtgdlmhgjhmcilaaAwake
import Derived.Test.YtgdlmhgjhmcilaaFit
namespace Go.Proofs.Ytgdlmhgjhmcilaa.lzShort
open Go.ChangeShapes Go.WideShapes Go.ChangeAt Go.RowKit Lz

theorem own : ownKnob Try.prog.godebug = none := by kernel_rfl

theorem drop_from {bs : List Int} {k q : Nat} {l : List Tok} (hl : k < l.length) (h : l.drop k = from_ bs q) : q < bs.length ∧ (l.map toZ).getD k tk0 = toZ (longT bs q) ∧ l.drop (k + 1) = from_ bs (q + (longT bs q).2.1) := by
  have hq : q < bs.length := by
    rcases Nat.lt_or_ge q bs.length with hq | hq
    · exact hq
    · rw [from_end (by omega), List.drop_eq_nil_iff] at h; omega
  rw [from_step hq, List.drop_eq_getElem_cons hl] at h
  simp only [List.cons.injEq] at h
  refine ⟨hq, ?_, h.2⟩
  simp [List.getD, hl, h.1]
theorem drop_done {bs : List Int} {q : Nat} {l : List Tok} (h : l.drop l.length = from_ bs q) (hq : q ≤ bs.length) : q = bs.length := by
  rcases Nat.lt_or_ge q bs.length with hlt | hge
  · rw [from_step hlt, List.drop_length] at h; cases h
  · omega
theorem chk_lit (x : Int) : chkZ (0, 1, x) = 0 := rfl
theorem chk_cpy (d n : Int) (h1 : 1 ≤ d) (h2 : d ≤ 4096) (h3 : 4 ≤ n) (h4 : n ≤ 258) : chkZ (d, n, 0) = 0 := by
  rw [chk_eq, if_pos (.inr ⟨h1, h2, h3, h4, rfl⟩)]

set_option maxHeartbeats 1600000 in
set_option maxRecDepth 100000 in
theorem walk (a : Option Addr) (cap : Nat) (zs : List Int) (w : World) (hr : Ri w .u8 a cap zs) :
    Calls Try.prog 8 #[.slice a zs.length cap] w fun e w' => e = .returned (.bool true) ∧ Below w.heap.size w w' := by
  have hnb : (zs.take 1500).length ≤ 1500 := List.length_take_le _ _
  have C1 : Hid (∀ W, Below w.heap.size w W → Calls Try.prog 15 #[.slice a zs.length cap] W fun e w' => e = .returned (.slice a (zs.take 1500).length cap) ∧ w' = W) := fun W hW => cut_any a cap zs W (hr.later hW)
  have r1 := hr.take 1500
  generalize zs.take 1500 = bs at *
  have h8 : Bytes8 bs := r1.fits
  have HFIT := hid (tks_fit bs h8)
  have HO : Hid (tksO bs = (toksL bs, 0)) := by show _ = _; unfold tksO; rw [if_neg (by omega)]
  have HLN : Hid ((toksL bs).length ≤ bs.length) := by
    show _ ≤ _
    rw [toksL_from]
    have := from_len (bs := bs) _ 0 (Nat.le_refl _)
    omega
  have HC : Hid (∀ W, Below w.heap.size w W → Calls Try.prog 18 #[.slice a bs.length cap] W (TksPost bs W)) := fun W hW => tokens_word a cap bs W (r1.later hW)
  unfold TksPost at HC
  rw [HO.out] at HC HFIT
  dsimp only at HC HFIT
  have HR := hid r1
  have HF0 : Hid ((toksL bs).drop 0 = from_ bs 0) := by show _ = _; rw [toksL_from]; rfl
  have hroom := r1.room
  have hmost := r1.most
  unfold maxLen at hmost
  clear hr r1 HO h8
  generalize toksL bs = l at *
  generalize zs.length = L0 at *
  obtain ⟨L, hL⟩ : ∃ L, L = bs.length := ⟨_, rfl⟩
  have HL := hid hL
  rw [← hL] at hnb C1 HC HLN hroom
  obtain ⟨n, hn⟩ : ∃ n, n = l.length := ⟨_, rfl⟩
  have HN := hid hn
  rw [← hn] at HC
  have hln := HLN.out
  rw [← hn] at hln
  clear hL hn HLN
  go_enter Try.func8, Try.ntmps8
  go_wp2_with fail
  refine (awake_any _).mono ?_
  rintro _ w0 ⟨rfl, hb0⟩
  have HB0 := hid hb0
  clear hb0
  go_wp2_with fail
  refine (C1.out w0 HB0.out).mono ?_
  rintro _ w0' ⟨rfl, hw⟩
  obtain rfl := hw.symm
  clear hw C1
  go_wp2_with fail
  refine (HC.out w0 HB0.out).mono ?_
  rintro _ w1 ⟨v1, rfl, hown1, hb1⟩
  obtain ⟨a1, c1, rfl, hr1⟩ := Rt.own (l := l) (by rw [← HN.out]; exact hown1) HFIT.out
  rw [← HN.out]
  have HR1 := hid hr1
  have HB1 := hid (Bn HB0.out hb1)
  have hc1 := hr1.most
  have hc2 := hr1.room
  rw [List.length_map, ← HN.out] at hc2
  unfold maxLen at hc1
  have hnz : ¬ (L : Int) < (n : Int) := by omega
  have hdz : decide ((L : Int) < (n : Int)) = false := by simpa using hln
  have hdn : decide (L < n) = false := by simpa using hln
  clear hown1 hb1 HC hr1 HFIT HB0
  go_wp2_with fail
  go_loopw [5, 6] (fun x5 x6 wr => ∃ q k : Nat, q ≤ L ∧ k ≤ n ∧ x5 = .int .i64 (q : Int) ∧ x6 = .int .i64 (k : Int) ∧ Below w1.heap.size w1 wr ∧ Hid (l.drop k = from_ bs q)) (fun _ x6 _ => n - (intOf x6).toNat)
  case atStart => exact ⟨0, 0, by omega, by omega, rfl, rfl, Below.refl _ _, HF0⟩
  case round =>
    clear HF0
    obtain ⟨q, k, hq, hk, rfl, rfl, hbel, HF⟩ := hrel
    by_cases hlt : k < n
    · have hkz : (k : Int) < (n : Int) := by omega
      obtain ⟨hqL, hget, hnext⟩ := drop_from (l := l) (by rw [← HN.out]; exact hlt) HF.out
      have hll := longT_len bs q hqL
      have hcase := longT_cases bs q hqL
      have HNX := hid hnext
      obtain ⟨g, off, rfl, hg, hc⟩ := HR1.out.cells (by rw [List.length_map, ← HN.out]; omega)
      obtain ⟨p0, p1, p2⟩ := hc k (by rw [List.length_map, ← HN.out]; exact hlt)
      rw [hget] at p0 p1 p2
      have d0 := (hbel.cell (p := ⟨g, off + k * 3, none⟩) hg).trans p0
      have d1 := (hbel.cell (p := ⟨g, off + k * 3 + 1, none⟩) hg).trans p1
      have d2 := (hbel.cell (p := ⟨g, off + k * 3 + 2, none⟩) hg).trans p2
      clear hc p0 p1 p2 hget hnext
      have HCR := hid (fun t => check_ref t wr)
      obtain ⟨⟨x0, x1, x2⟩, ht⟩ : ∃ t, longT bs q = t := ⟨_, rfl⟩
      rw [ht] at hll hcase HNX d0 d1 d2
      unfold toZ at d0 d1 d2
      dsimp only at hll d0 d1 d2 HNX
      have HQL := hid hqL
      rw [← HL.out] at hqL hll
      have HBL := hid hbel
      have hg0 := hbel.size
      clear ht
      rcases hcase with e | ⟨d, m, e, h1, h2, h3, h4, h5, h6, h7, h8⟩
      · injection e with e0 e
        injection e with e1 e2
        subst e0
        subst e1
        have HCC := hid (HCR.out (0, 1, x2))
        rw [chk_lit] at HCC
        unfold zC at HCC
        dsimp only at HCC
        clear e2 HCR hbel
        go_wp2_with fail
        refine HCC.out.mono ?_
        rintro _ w2 ⟨rfl, hb2⟩
        have HB2 := hid (Bn HBL.out hb2)
        have f0 := (HB2.out.cell (p := ⟨g, off + k * 3, none⟩) hg).trans ((HBL.out.cell (p := ⟨g, off + k * 3, none⟩) hg).symm.trans d0)
        have f1 := (HB2.out.cell (p := ⟨g, off + k * 3 + 1, none⟩) hg).trans ((HBL.out.cell (p := ⟨g, off + k * 3 + 1, none⟩) hg).symm.trans d1)
        have f2 := (HB2.out.cell (p := ⟨g, off + k * 3 + 2, none⟩) hg).trans ((HBL.out.cell (p := ⟨g, off + k * 3 + 2, none⟩) hg).symm.trans d2)
        clear d0 d1 d2 hb2 HCC HBL
        go_wp2_with fail
        go_big_quiet (fail)
        go_wp2
        exact ⟨⟨q + 1, k + 1, by omega, by omega, by go_num, by go_num, bel_drewN HB2.out _, HNX⟩, by simp [intOf]; omega⟩
      · injection e with e0 e
        injection e with e1 e2
        subst e0
        subst e1
        subst e2
        have HCC := hid (HCR.out ((x0 : Int), (x1 : Int), 0))
        rw [chk_cpy _ _ (by omega) (by omega) (by omega) (by omega)] at HCC
        unfold zC at HCC
        dsimp only at HCC
        have HH8 := hid h8
        clear HCR hbel h7 h8
        rw [← HL.out] at h6
        have hx0 : (0 : Int) < (x0 : Int) := by omega
        have hx0d : decide ((0 : Int) < (x0 : Int)) = true := by simpa using hx0
        have hx0n : decide (0 < x0) = true := by simp; omega
        go_wp2_with fail
        refine HCC.out.mono ?_
        rintro _ w2 ⟨rfl, hb2⟩
        have HB2 := hid (Bn HBL.out hb2)
        have f0 := (HB2.out.cell (p := ⟨g, off + k * 3, none⟩) hg).trans ((HBL.out.cell (p := ⟨g, off + k * 3, none⟩) hg).symm.trans d0)
        have f1 := (HB2.out.cell (p := ⟨g, off + k * 3 + 1, none⟩) hg).trans ((HBL.out.cell (p := ⟨g, off + k * 3 + 1, none⟩) hg).symm.trans d1)
        have f2 := (HB2.out.cell (p := ⟨g, off + k * 3 + 2, none⟩) hg).trans ((HBL.out.cell (p := ⟨g, off + k * 3 + 2, none⟩) hg).symm.trans d2)
        clear d0 d1 d2 hb2 HCC HBL
        obtain ⟨r, hr⟩ : ∃ r, r = q + x1 := ⟨_, rfl⟩
        have hrz : (q : Int) + (x1 : Int) = (r : Int) := by omega
        rw [← hr] at HNX HH8 h6
        by_cases h258 : x1 < 258
        · have hz1 : (x1 : Int) < 258 := by omega
          have hz1d : decide ((x1 : Int) < 258) = true := by simpa using hz1
          have hz1n : decide (x1 < 258) = true := by simpa using h258
          by_cases hrL : r < L
          · have hz2 : (r : Int) < (L : Int) := by omega
            have hz2d : decide ((r : Int) < (L : Int)) = true := by simpa using hrL
            have hz2n : decide (r < L) = true := by simpa using hrL
            have hz3 : ¬ (r : Int) < (x0 : Int) := by omega
            have hz3d : decide ((r : Int) < (x0 : Int)) = false := by simp; omega
            have hz3n : decide (r < x0) = false := by simp; omega
            obtain ⟨u, hu⟩ : ∃ u, u = r - x0 := ⟨_, rfl⟩
            have huz : (r : Int) - (x0 : Int) = (u : Int) := by omega
            have huL : u < L := by omega
            obtain ⟨gb, ob, rfl, hgb, hcb⟩ := (HR.out.later HB1.out).cells (by rw [← HL.out]; omega)
            have b1 := (HB2.out.cell (p := ⟨gb, ob + r, none⟩) hgb).trans (hcb r (by rw [← HL.out]; exact hrL))
            have b2 := (HB2.out.cell (p := ⟨gb, ob + u, none⟩) hgb).trans (hcb u (by rw [← HL.out]; exact huL))
            have hne := HH8.out h258 (by rw [← HL.out]; exact hrL)
            rw [show q - x0 + x1 = u from by omega] at hne
            have hneb : (bs.getD r 0 == bs.getD u 0) = false := by simpa using fun h => hne h.symm
            clear hcb hne hr hu
            generalize bs.getD r 0 = y1 at *
            generalize bs.getD u 0 = y2 at *
            go_wp2_with fail
            go_big_quiet (fail)
            go_wp2
            exact ⟨⟨r, k + 1, by omega, by omega, by go_num, by go_num, bel_drewN HB2.out _, HNX⟩, by simp [intOf]; omega⟩
          · have hz2 : ¬ (r : Int) < (L : Int) := by omega
            have hz2d : decide ((r : Int) < (L : Int)) = false := by simpa using hrL
            have hz2n : decide (r < L) = false := by simpa using hrL
            clear hr
            go_wp2_with fail
            go_big_quiet (fail)
            go_wp2
            exact ⟨⟨r, k + 1, by omega, by omega, by go_num, by go_num, bel_drewN HB2.out _, HNX⟩, by simp [intOf]; omega⟩
        · have hz1 : ¬ (x1 : Int) < 258 := by omega
          have hz1d : decide ((x1 : Int) < 258) = false := by simpa using hz1
          have hz1n : decide (x1 < 258) = false := by simpa using h258
          clear hr
          go_wp2_with fail
          go_big_quiet (fail)
          go_wp2
          exact ⟨⟨r, k + 1, by omega, by omega, by go_num, by go_num, bel_drewN HB2.out _, HNX⟩, by simp [intOf]; omega⟩
    · obtain rfl : k = n := by omega
      have hkz : ¬ (k : Int) < (k : Int) := by omega
      have hqe := drop_done (l := l) (bs := bs) (q := q) (by rw [← HN.out]; exact HF.out) (by rw [← HL.out]; exact hq)
      rw [← HL.out] at hqe
      subst hqe
      have e1 : ((q : Int) == (q : Int)) = true := by simp
      have HBE := hid (Bn HB1.out hbel)
      go_wp2
      go_ret
      exact ⟨rfl, HBE.out⟩

set_option maxRecDepth 100000 in
theorem lifted (os : Os) (started : os.Started) (H : Type) (enc : TypeId × Value → H) :
    ReturnsInHanded {} Try.checked os 8 .any (Rows.lzShortSpec.pre6 enc Try.prog Try.f8 Rows.lzShortRow.domain false) (Rows.lzShortSpec.post enc Try.prog Try.f8 false true false false) := by
  refine returnsInHanded_of_change (C := Try.checked) own started (by kernel_rfl) Try.func8
    (ChangeSpec.witness6 (enc := enc) (C := Try.checked) false ⟨#[], #[.slice none 0 0], []⟩ 8 (by kernel_rfl) (by kernel_rfl) (by kernel_rfl) (by kernel_rfl)) ?_
  intro W base args ds gs before hval0 hW _ _
  have hval : ∀ (j : Nat) t v, Try.f8.params[j]? = some t → args[j]? = some v → Value.okWide Try.prog W .any base t v := hval0
  have hW' := hW
  obtain ⟨p, q, hA0, hV, rfl, _, _⟩ := hW
  have hA : DataW.TrodAll enc Try.prog W 0 (fun _ => true) true Try.f8.params.toList args.toList ds p := hA0
  rw [Try.params8] at hA hval
  obtain ⟨v0, vs0, d0, ds0, p0, q0, hargs, rfl, rfl, h0, r0⟩ := trodAll_cons hA
  obtain ⟨rfl, rfl, rfl⟩ := trodAll_nil r0
  obtain rfl : args = #[v0] := by cases args; simp_all
  obtain ⟨rfl, rfl⟩ := trodVars_none hV
  clear hA0
  simp only [List.append_nil] at hW'
  have hlt0 : ∀ x ∈ p0, x.block < W.heap.size := fun x hx => hW'.lt x (by simp [hx])
  have hk0 := h0
  obtain ⟨a0, cap0, zs0, rfl, hr0⟩ := open_ri Try.underlying33 Try.underlying5 Try.cells5 (hval 0 33 v0 rfl rfl) h0 hlt0
  clear hval0
  refine (walk a0 cap0 zs0 W hr0).mono fun e W' ⟨he, hb⟩ => ?_
  subst he
  exact ⟨_, rfl, _, _, _, [] ++ [], _, [], hW', trodAll_cons_mk (shut_bool Try.underlying4 _) trodAll_mk0, (trodAll_cons_mk (Below.trod Try.laidOut (by kernel_rfl) (of_decide_eq_true (by kernel_rfl)) hk0 hb hlt0) trodAll_mk0), rfl, hb.frame _, fun h => by cases h⟩

theorem over : Rows.lzShortRow.holds Try.pinned (OpenSpec.ofChange Rows.lzShortSpec) :=
  OpenClaim.holds_of_wide 8 Try.f8 rfl rfl rfl rfl rfl rfl rfl ⟨rfl, rfl, rfl, rfl, rfl⟩ rfl rfl rfl rfl rfl (by kernel_rfl) Try.func8 (by kernel_rfl)
    (of_decide_eq_true (by kernel_rfl)) (by unfold Func.isWrapper; first | (rw [if_pos (by decide +kernel)]; kernel_rfl) | (rw [if_neg (by decide +kernel)]; exact ⟨rfl, rfl⟩))
    (fun os started H enc _ => lifted os started H enc)

end Go.Proofs.Ytgdlmhgjhmcilaa.lzShort
namespace Go.Proofs.Ytgdlmhgjhmcilaa
theorem lzShort_holds : Rows.LzShortSaid := lzShort.over
#print axioms lzShort_holds
end Go.Proofs.Ytgdlmhgjhmcilaa
