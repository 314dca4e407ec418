/-
  CheckSealed is proved for every input, as a tied card: what check.Make makes is sealed and may be, and with one byte of its MAC changed it is not; no condition.
-/
import Derived.Test.YtplinkmagnihmaaDoorCkM
namespace Go.Proofs.YtplinkmagnihmaaDoor.checkSealed
open Go.ChangeShapes Go.WideShapes Go.ChangeAt Go.RowKit Go.Deep Go.Lib

theorem guard45 : Tryd.prog.eqGuardType Tryd.prog.depth 45 = false := by kernel_rfl
theorem eq45_0 : ∀ V, (Op.equalIn 10000 45 (.agg (mkV mkZ).toArray) (.agg Tryd.zeroCells45)).run Tryd.prog V = .ok true V := fun V => by kernel_rfl
theorem take_300 (l : List Nat) : (l.take 300).length ≤ 100000 := by rw [List.length_take]; omega
theorem mod32 (n : Nat) : ((n : Int).tmod 32) = ((n % 32 : Nat) : Int) := by
  rw [Int.tmod_eq_emod_of_nonneg (by omega)]
  omega
theorem mac_set (s : Int) (x : Hd) (hx : x.2.2.length = 32) (D : List Int) (j : Nat) (z : Int) : (mkV (s, x, D)).set (35 + j) (.int .u8 z) = mkV (s, x, D.set j z) := by
  have hl : (Value.int .i64 s :: hdV x).length = 35 := by rw [List.length_cons, hdV_len hx]
  rw [mkV_apart, mkV_apart, List.append_nil, List.append_nil, List.set_append_right _ _ (by rw [hl]; omega), hl, show 35 + j - 35 = j from by omega, List.map_set]
set_option maxHeartbeats 12800000 in
set_option maxRecDepth 100000 in
theorem walk (ka : Option Addr) (kc : Nat) (key0 : List Nat) (s : Int) (ws : (Lit.int .i64 s).wf = true) (x : Hd) (n0 : Int) (wn : (Lit.int .u8 n0).wf = true) (y : Int) (wy : (Lit.int .u8 y).wf = true) (w : World) (hL : Sh.Laid w) (hk : Sh.Rd w (.slice ka key0.length kc) ka kc key0)
    (hx : x.2.2.length = 32 ∧ (∀ j, (Lit.int .u8 (x.2.2.getD j 0)).wf = true) ∧ (Lit.int .i64 x.1).wf = true ∧ (Lit.int .i64 x.2.1).wf = true) :
    Calls Tryd.prog 5 #[.slice ka key0.length kc, .int .i64 s, .agg (hdV x).toArray, .int .u8 n0, .int .u8 y] w fun e w' => e = .returned (.bool true) ∧ Below w.heap.size w w' := by
  obtain ⟨hx1, hx2, hx3, hx4⟩ := hx
  have hn0 := wf_u8 wn
  have hy0 := wf_u8 wy
  obtain ⟨n, rfl⟩ := Int.eq_ofNat_of_zero_le hn0.1
  have hn5 : n ≤ 255 := by omega
  have hy5 := hy0.1
  have hy6 := hy0.2
  obtain ⟨j, hj⟩ : ∃ j, j = n % 32 := ⟨_, rfl⟩
  have hj32 : j < 32 := by omega
  have hmod : ((n : Int).tmod 32) = (j : Int) := by rw [hj]; exact mod32 n
  have HMO : Hid (MOk (s, x, z32)) := ⟨ws, ⟨hx3, hx4, hx1, hx2⟩, rfl, z32_u8⟩
  have HB1 := hid (bel_alc w (.cells (hdV x).toArray 27))
  have hbx := heap_alc w (.cells (hdV x).toArray 27)
  obtain ⟨W1, hW1⟩ : ∃ W1, W1 = w.alloc (.cells (hdV x).toArray 27) := ⟨_, rfl⟩
  rw [← hW1] at HB1 hbx
  have HW1 := hid hW1
  have HHR := hid (fun X (hX : Below W1.heap.size W1 X) => blk_range (blk_later hbx hX))
  have HHL := hid (hdV_len hx1)
  have HAW := hid (awake_word W1 (hL.later HB1.out))
  have HCT := hid (fun V (hV : Below w.heap.size w V) => ccut_word ka kc key0 V (hk.later hV))
  obtain ⟨key, hkey⟩ : ∃ key, key = key0.take 300 := ⟨_, rfl⟩
  have HKF : Hid (key.length ≤ 100000) := by show _ ≤ _; rw [hkey]; exact take_300 key0
  have HKR : Hid (Sh.Rd w (.slice ka key.length kc) ka kc key) := by show Sh.Rd _ _ _ _ _; rw [hkey]; exact hk.take 300
  have HLA := hid hL
  rw [← hkey] at HCT
  obtain ⟨kn0, hkn0⟩ : ∃ k, k = key0.length := ⟨_, rfl⟩
  obtain ⟨kn, hkn⟩ : ∃ k, k = key.length := ⟨_, rfl⟩
  have HKN := hid hkn
  rw [← hkn0] at HCT ⊢
  rw [← hkn] at HCT
  have HMW := hid (fun V (hV : Below w.heap.size w V) => cmake_word ka kc key s x V (HLA.out.later hV) (HKR.out.later hV) HKF.out HMO.out)
  have HSW := hid (fun V (m : Mrk) (hm : MOk m) (hV : Below w.heap.size w V) => sealed_word ka kc key m V (HLA.out.later hV) (HKR.out.later hV) HKF.out hm)
  rw [← hkn] at HMW HSW
  have HZ := hid Tryd.zero45
  have HX1 := hid hx1
  clear hbx hW1 hL hk hkey hkn0 hkn hx1 hx2 hx3 hx4 ws wn wy hn0 hy0 hj
  go_enter Tryd.func5, Tryd.ntmps5
  go_wp2_with fail
  rw [← HW1.out]
  refine HAW.out.mono ?_
  rintro _ V1 ⟨rfl, hb1⟩
  have HBV1 := hid hb1
  have HR1 := hid (HHR.out V1 hb1)
  have HBW1 := hid (Bn HB1.out hb1)
  clear hb1 HAW
  go_wp2_with fail
  refine (HCT.out V1 HBW1.out).mono ?_
  rintro _ w0 ⟨rfl, hw⟩
  obtain rfl := hw.symm
  clear hw HCT
  go_wp2_with (first | refine wpList_load_P rfl 27 _ rfl w.heap.size 0 rfl (hdV x) _ HR1.out Tryd.underlying27 rfl (by rw [HHL.out]; exact Tryd.size27) ?_ | fail)
  refine (HMW.out V1 HBW1.out).mono ?_
  rintro _ V2 ⟨rfl, hb2⟩
  have HB2 := hid (Bn HBW1.out hb2)
  obtain ⟨g, hg⟩ : ∃ g, g = V2.heap.size := ⟨_, rfl⟩
  have HGQ := hid hg
  have HGW : Hid (w.heap.size ≤ g) := by show _ ≤ _; rw [hg]; exact HB2.out.size
  obtain ⟨D, hD⟩ : ∃ D, D = sealL key (s, x, z32) := ⟨_, rfl⟩
  have HD := hid hD
  have HDL : Hid (D.length = 32) := by show _ = _; rw [hD]; exact sealL_len _ _
  have hd8 : ∀ i, (Lit.int .u8 (D.getD i 0)).wf = true := fun i => by rw [hD]; exact sealL_u8 _ _ i
  have HD8 := hid hd8
  obtain ⟨M, hM⟩ : ∃ M, M = mkM key s x := ⟨_, rfl⟩
  obtain ⟨r, hr⟩ : ∃ r, r = mayM (s, x, z32) := ⟨_, rfl⟩
  have HRQ := hid hr
  have HMQ : Hid (M = if r = true then (s, x, D) else mkZ) := by show _ = _; rw [hM, hr, hD]; rfl
  have HMOK : Hid (MOk M) := by
    show MOk M
    rw [HMQ.out]
    split
    · exact ⟨HMO.out.site, HMO.out.hd, HDL.out, hd8⟩
    · exact mkZ_ok
  have HML := hid (mkV_len HMOK.out)
  have HLZ := hid (mkV_len mkZ_ok)
  rw [← hM, ← hr]
  clear hb2 HMW HBW1 HR1 HBV1 hg hD hd8 hM hr
  go_wp2_with (first | refine wpList_alloc_W rfl 45 rfl (some 11) rfl _ HZ.out g HGQ.out ?_ | fail)
  intro V3 HG3 HBl3 HS3
  go_wp2_with (first | refine wpList_store_W rfl 45 _ _ rfl rfl g (mkV M).toArray rfl rfl 45 _ HG3.out (by rw [List.size_toArray, HML.out]; exact Tryd.size45) (by rw [List.size_toArray, List.size_toArray, HML.out, HLZ.out]) (all_oneCell_toArray (mkV_one _)) ?_ | fail)
  intro V4 HG4 HGR4 HS4
  have HB4 : Hid (Below w.heap.size w V4) := by
    have h : Below V2.heap.size V2 V4 := by
      rw [← HGQ.out]
      exact HBl3.out.trans (bel_grown HGR4.out (Nat.le_refl _) (by rw [HGQ.out]; exact HBl3.out.size))
    exact Bn HB2.out h
  have HR4 := hid (blk_range HG4.out)
  clear HG3 HBl3 HS3 HGR4 HS4 HB2 HGQ
  cases r
  · have HMZ : Hid (M = mkZ) := by show _ = _; rw [HMQ.out, if_neg (by decide)]
    have hgd := guard45
    have heq : ∀ V, (Op.equalIn 10000 45 (.agg (mkV M).toArray) (.agg Tryd.zeroCells45)).run Tryd.prog V = .ok true V := fun V => by rw [HMZ.out]; exact eq45_0 V
    go_wp2_with (first | refine wpList_load_P rfl 45 _ rfl g 0 rfl (mkV M) _ HR4.out Tryd.underlying45 rfl (by rw [HML.out]; exact Tryd.size45) ?_ | fail)
    go_ret
    exact ⟨rfl, HB4.out⟩
  · have HME : Hid (M = (s, x, D)) := by show _ = _; rw [HMQ.out, if_pos rfl]
    have HMAY : Hid (mayM (s, x, z32) = true) := HRQ.out.symm
    have HSE1 : Hid (sealedB key M = true) := by show _ = _; rw [HME.out, HD.out]; exact sealed_made HMAY.out
    have HCK : Hid (mayM M = true) := by show _ = _; rw [HME.out]; exact (may_hd s x D z32).trans HMAY.out
    go_wp2_with (first | refine wpList_load_P rfl 45 _ rfl g 0 rfl (mkV M) _ HR4.out Tryd.underlying45 rfl (by rw [HML.out]; exact Tryd.size45) ?_ | fail)
    refine (HSW.out V4 M HMOK.out HB4.out).mono ?_
    rintro _ V5 ⟨rfl, hb5⟩
    rw [HSE1.out]
    have HB5 := hid (Bn HB4.out hb5)
    have HG5 := hid (blk_later HG4.out hb5)
    have HR5 := hid (blk_range HG5.out)
    clear hb5 HB4 HG4 HR4
    go_wp2_with (first | refine wpList_load_g rfl 45 _ rfl g 0 rfl (mkV M) _ HR5.out Tryd.underlying45 rfl (by rw [HML.out]; exact Tryd.size45) ?_ | fail)
    refine (ccheck_word M V5 HMOK.out).mono ?_
    rintro _ V6 ⟨rfl, hb6⟩
    rw [HCK.out]
    have HB6 := hid (Bn HB5.out hb6)
    have HG6 : Hid (V6.heap[g]? = some (.cells (mkV (s, x, D)).toArray 45)) := by show _ = _; rw [← HME.out]; exact blk_later HG5.out hb6
    obtain ⟨dj, hdj⟩ : ∃ z, z = D.getD j 0 := ⟨_, rfl⟩
    have hdw := wf_u8 (HD8.out j)
    rw [← hdj] at hdw
    have hd0 := hdw.1
    have hd1 := hdw.2
    have cj : V6.cell? ⟨g, 35 + j, none⟩ = some (.int .u8 dj) := by
      have h := mk_mac (o := 0) HX1.out (blk_range HG6.out) j (.int .u8 dj) (by rw [hdj, List.getElem?_map, List.getElem?_eq_getElem (by rw [HDL.out]; exact hj32)]; simp [List.getD, HDL.out, hj32])
      rw [Nat.zero_add] at h
      exact h
    have fj := Joins.unfrozen_of_block HG6.out (35 + j)
    have HXS := hid (xor_same ⟨hd0, hd1⟩ ⟨hy5, hy6⟩)
    obtain ⟨z, hz⟩ : ∃ z, z = bits .xor .u8 dj y := ⟨_, rfl⟩
    have hzz : bits .xor .u8 dj y = z := hz.symm
    have HZZ := hid hz
    have HDJ := hid hdj
    rw [← hz] at HXS
    clear hb6 HB5 HG5 HR5 hdw hz hdj
    obtain ⟨W7, hW7⟩ : ∃ W7, W7 = V6.setCell ⟨g, 35 + j, none⟩ (.int .u8 z) := ⟨_, rfl⟩
    have HW7 := hid hW7
    have HG7 : Hid (W7.heap[g]? = some (.cells (mkV (s, x, D.set j z)).toArray 45)) := by
      show _ = _
      rw [hW7, Joins.block_setCell HG6.out, List.setIfInBounds_toArray, mac_set s x HX1.out D j z]
    have HB7 : Hid (Below w.heap.size w W7) := by show Below _ _ _; rw [hW7]; exact HB6.out.setCell (p := ⟨g, 35 + j, none⟩) HGW.out _
    have HR7 := hid (blk_range HG7.out)
    have HSE2 : Hid (sealedB key (s, x, D.set j z) = decide (z = dj)) := by
      show _ = _
      rw [HDJ.out, HD.out]
      exact sealed_flip HMAY.out hj32 z
    have HOK7 : Hid (MOk (s, x, D.set j z)) := ⟨HMO.out.site, HMO.out.hd, by rw [List.length_set]; exact HDL.out, get_u8 (fun u hu => by
      rcases List.mem_or_eq_of_mem_set hu with hu | hu
      · exact mem_u8 HD8.out u hu
      · rw [hu]; exact HXS.out.2)⟩
    have HL7 := hid (mkV_len HOK7.out)
    clear hW7
    go_wp2_with (first | refine wpList_load_P rfl 45 _ rfl g 0 rfl (mkV (s, x, D.set j z)) _ (by rw [← HW7.out]; exact HR7.out) Tryd.underlying45 rfl (by rw [HL7.out]; exact Tryd.size45) ?_ | fail)
    rw [← HW7.out]
    refine (HSW.out W7 _ HOK7.out HB7.out).mono ?_
    rintro _ V8 ⟨rfl, hb8⟩
    rw [HSE2.out]
    have HB8 := hid (Bn HB7.out hb8)
    have HXY := hid HXS.out.1
    clear hb8 HSE2 HXS hzz HZZ cj fj hmod
    by_cases hy : y = 0
    · rw [decide_eq_true (HXY.out.2 hy)]
      subst hy
      go_wp2
      go_ret
      exact ⟨rfl, HB8.out⟩
    · rw [decide_eq_false (fun e => hy (HXY.out.1 e))]
      have hyb : (y == 0) = false := by simpa using hy
      go_wp2
      go_ret
      exact ⟨rfl, HB8.out⟩
set_option maxRecDepth 100000 in
theorem lifted (os : Os) (started : os.Started) (H : Type) (enc : TypeId × Value → H) :
    ReturnsInHanded {} Tryd.checked os 5 .any (fun w args => (Rows.checkSealedSpec.pre enc Tryd.prog Tryd.f5 [] false w args ∧ laidMetH Tryd.prog laidL w) ∧ sizedMet enc Tryd.prog Tryd.f5 (OpenSpec.ofChange Rows.checkSealedSpec) false w args)
      (Rows.checkSealedSpec.post enc Tryd.prog Tryd.f5 false true false false) := by
  refine returnsInHanded_of_change_and (C := Tryd.checked) (X := fun w _ => laidMetH Tryd.prog laidL w) (fun _ _ _ hh h => h.of_heap hh) own started (by kernel_rfl) Tryd.func5
    (ChangeSpec.witness_shaped (enc := enc) (C := Tryd.checked) (os := os) (X := fun w _ => laidMetH Tryd.prog laidL w) false (World.doorLaid Tryd.prog 400 os) #[.slice none 0 0, .int .i64 0, .agg #[.int .i64 0, .int .i64 0, .int .u8 0, .int .u8 0, .int .u8 0, .int .u8 0, .int .u8 0, .int .u8 0, .int .u8 0, .int .u8 0, .int .u8 0, .int .u8 0, .int .u8 0, .int .u8 0, .int .u8 0, .int .u8 0, .int .u8 0, .int .u8 0, .int .u8 0, .int .u8 0, .int .u8 0, .int .u8 0, .int .u8 0, .int .u8 0, .int .u8 0, .int .u8 0, .int .u8 0, .int .u8 0, .int .u8 0, .int .u8 0, .int .u8 0, .int .u8 0, .int .u8 0, .int .u8 0], .int .u8 0, .int .u8 0] 8 rfl (World.shaped_of_RefB (by kernel_rfl) (by kernel_rfl)) (by kernel_rfl) (by kernel_rfl) (by kernel_rfl) (door_met os _)) ?_
  intro W base args ds gs before hval0 hW _ _ hL _
  have hval : ∀ (j : Nat) t v, Tryd.f5.params[j]? = some t → args[j]? = some v → Value.okWide Tryd.prog W .any base t v := hval0
  have hW' := hW
  obtain ⟨p, q, hA0, hV, rfl, _, _⟩ := hW
  have hA : DataW.TrodAll enc Tryd.prog W 0 (fun _ => true) true Tryd.f5.params.toList args.toList ds p := hA0
  rw [Tryd.params5] at hA hval
  obtain ⟨v0, vs0, d0, ds0, p0, q0, hargs, rfl, rfl, h0, r0⟩ := trodAll_cons hA
  obtain ⟨v1, vs1, d1, ds1, p1, q1, rfl, rfl, rfl, h1, r1⟩ := trodAll_cons r0
  obtain ⟨v2, vs2, d2, ds2, p2, q2, rfl, rfl, rfl, h2, r2⟩ := trodAll_cons r1
  obtain ⟨v3, vs3, d3, ds3, p3, q3, rfl, rfl, rfl, h3, r3⟩ := trodAll_cons r2
  obtain ⟨v4, vs4, d4, ds4, p4, q4, rfl, rfl, rfl, h4, r4⟩ := trodAll_cons r3
  obtain ⟨rfl, rfl, rfl⟩ := trodAll_nil r4
  obtain rfl : args = #[v0, v1, v2, v3, v4] := by cases args; simp_all
  obtain ⟨rfl, rfl⟩ := trodVars_none hV
  have hlaid := of_laid hL
  obtain ⟨a1, rfl, rfl, rfl, w1⟩ := open_int Tryd.underlying3 (hval 1 3 v1 rfl rfl) h1
  obtain ⟨a3, rfl, rfl, rfl, w3⟩ := open_int Tryd.underlying5 (hval 3 5 v3 rfl rfl) h3
  obtain ⟨a4, rfl, rfl, rfl, w4⟩ := open_int Tryd.underlying5 (hval 4 5 v4 rfl rfl) h4
  clear hA0
  simp only [List.append_nil, List.nil_append] at hW'
  have hlt0 : ∀ x ∈ p0, x.block < W.heap.size := fun x hx => hW'.lt x (by simp [hx])
  have hk0 := h0
  obtain ⟨a0, cap0, l0, rfl, hr0⟩ := open_key (hval 0 22 v0 rfl rfl) h0 hlt0
  have hlt2 : ∀ x ∈ p2, x.block < W.heap.size := fun x hx => hW'.lt x (by simp [hx])
  have hk2 := h2
  obtain ⟨x2, rfl, hr2⟩ := open_head (hval 2 27 v2 rfl rfl) h2
  clear hval0
  refine (walk a0 cap0 l0 a1 w1 x2 a3 w3 a4 w4 W hlaid hr0 hr2).mono fun e W' ⟨he, hb⟩ => ?_
  subst he
  exact ⟨_, rfl, _, _, _, [] ++ [], _, [], hW', trodAll_cons_mk (shut_bool Tryd.underlying4 _) trodAll_mk0, (trodAll_cons_mk (Below.trod Tryd.laidOut (by kernel_rfl) (of_decide_eq_true (by kernel_rfl)) hk0 hb hlt0) (trodAll_cons_mk (shut_int Tryd.underlying3 w1) (trodAll_cons_mk (Below.trod Tryd.laidOut (by kernel_rfl) (of_decide_eq_true (by kernel_rfl)) hk2 hb hlt2) (trodAll_cons_mk (shut_int Tryd.underlying5 w3) (trodAll_cons_mk (shut_int Tryd.underlying5 w4) trodAll_mk0))))), rfl, hb.frame _, fun h => by cases h⟩

theorem over : Rows.checkSealedRow.holds Tryd.pinned (OpenSpec.ofChange Rows.checkSealedSpec) :=
  OpenClaim.holds_of_wide 5 Tryd.f5 rfl rfl rfl rfl rfl rfl rfl ⟨rfl, rfl, rfl, rfl, rfl⟩ rfl rfl rfl rfl rfl (by kernel_rfl) Tryd.func5 (by kernel_rfl)
    (of_decide_eq_true (by kernel_rfl)) (by unfold Func.isWrapper; first | (rw [if_pos (by decide +kernel)]; kernel_rfl) | (rw [if_neg (by decide +kernel)]; exact ⟨rfl, rfl⟩))
    (fun os started H enc _ => lifted os started H enc)

theorem card : Rows.CheckSealedCardSaid :=
  Claim7.holds_tied_plain_at .later [] [.data, .data] true (true, "6c4824eea2cfdc05c637caf113dadd9efee948d7ff46397d3b1084f8d6b5d258") false
    over (fun _ h => by cases h) (by kernel_rfl) (fun _ h => by cases h) checkSealed_row_tie rfl ⟨rfl, rfl⟩ (by kernel_rfl) rfl
    (fun f fn hf hfn => by
      obtain rfl : f = 5 := Option.some.inj ((show Tryd.prog.funcNamed "saltern/salternlaw16.CheckSealed" = some 5 by kernel_rfl).symm.trans hf) |>.symm
      obtain rfl : fn = Tryd.f5 := (Option.some.inj (Tryd.func5.symm.trans hfn)).symm
      exact ⟨by kernel_rfl, fun j t ht => by
        rw [Tryd.params5] at ht
        have hm : t ∈ [22, 3, 27, 5, 5] := by simpa using Array.mem_of_getElem? ht
        have hall : ([22, 3, 27, 5, 5].all fun u => !Tryd.prog.wantsStandIn u) = true := by kernel_rfl
        exact (show Tryd.prog.wantsStandIn t = false by simpa using List.all_eq_true.1 hall t hm)⟩)
    (by kernel_rfl)

end Go.Proofs.YtplinkmagnihmaaDoor.checkSealed
namespace Go.Proofs.YtplinkmagnihmaaDoor
theorem checkSealed_holds : Rows.CheckSealedCardSaid := checkSealed.card
#print axioms checkSealed_holds
end Go.Proofs.YtplinkmagnihmaaDoor
