/-
  RecordEpochs is proved for every input, as a tied card: along records that follow, epochs never fall, and rise just where a site begins to lead; no condition but that the tables of package sha start as the text lays them.
-/
import Derived.Test.YtpbaacplgohniaaDoorRcQ
namespace Go.Proofs.YtpbaacplgohniaaDoor.recordEpochs
open Go.ChangeShapes Go.WideShapes Go.ChangeAt Go.RowKit Go.Deep

theorem fol_epoch {h : Hd} {r : Rec} (q : fltH h r = 0) : (r.kind = 1 ∧ h.2.1 < r.epoch) ∨ (r.kind ≠ 1 ∧ r.epoch = h.2.1) := by
  have := (flt_may q).2
  unfold folB at this
  simp only [Bool.and_eq_true] at this
  have h2 := this.2
  by_cases hk : r.kind = 1
  · rw [if_pos hk] at h2
    exact .inl ⟨hk, of_decide_eq_true h2⟩
  · rw [if_neg hk] at h2
    exact .inr ⟨hk, of_decide_eq_true h2⟩
theorem nxt_epoch {h : Hd} {r : Rec} (q : fltH h r = 0) : (nxtH h r).2.1 = r.epoch := by
  unfold nxtH nxO
  rw [if_pos (show fltO h.1 h.2.1 h.2.2 r = 0 from q)]
theorem few_ps (l : List Rec) : ∀ r ∈ fewL l, r.ps.length ≤ 1000 := fun r hr => by
  obtain ⟨y, _, rfl⟩ := List.mem_map.1 hr
  show (y.ps.take 60).length ≤ 1000
  simp
  omega
set_option maxHeartbeats 3200000 in
set_option maxRecDepth 100000 in
theorem walk (h0 : Hd) (a : Option Addr) (cap : Nat) (l : List Rec) (w : World) (hL : Sh.Laid w) (hy : h0.2.2.length = 32 ∧ (∀ j, (Lit.int .u8 (h0.2.2.getD j 0)).wf = true) ∧ (Lit.int .i64 h0.1).wf = true ∧ (Lit.int .i64 h0.2.1).wf = true) (hr : Rr w a cap l) :
    Calls Tryd.prog 8 #[.agg (hdV h0).toArray, .slice a l.length cap] w fun e w' => e = .returned (.bool true) ∧ Below w.heap.size w w' := by
  have hcl := hy.1
  have b1 := bel_alc w (.cells (hdV h0).toArray 55)
  have HB1 := hid b1
  have HH1 := hid (heap_alc w (.cells (hdV h0).toArray 55))
  have HFW := hid (few_word a cap l _ (hr.later b1))
  have HLA := hid hL
  have HCL := hid hcl
  have HHV : Hid ((hdV h0).length = 34) := hdL_len _ _ _ hcl
  clear hy hL hr b1 hcl
  generalize l.length = L0 at *
  go_enter Tryd.func8, Tryd.ntmps8
  go_wp2_with fail
  refine HFW.out.mono ?_
  rintro _ W1 ⟨a1, cap1, rfl, hr1, hb1⟩
  have HR1 := hid hr1
  have HB2 := hid (Bn HB1.out hb1)
  have h2 := (hb1.block _ (Array.getElem?_eq_some_iff.1 HH1.out).1).trans HH1.out
  have HH2 := hid h2
  have HRG : Hid (W1.rangeAt w.heap.size 0 (hdV h0)) := fun j v hv => by
    rw [Nat.zero_add, Joins.cell_of_block HH2.out j, List.getElem?_toArray]
    exact hv
  have HWK := hid (walk_word h0 a1 cap1 (fewL l) W1 HCL.out hr1 (HLA.out.later HB2.out) (few_ps l))
  clear hr1 hb1 h2 HFW HH1 HB1
  go_wp2_with (first | refine wpList_load_g rfl 55 _ rfl w.heap.size 0 rfl (hdV h0) _ HRG.out Tryd.underlying55 rfl (by rw [HHV.out]; exact Tryd.size55) ?_ | fail)
  refine HWK.out.mono ?_
  rintro _ W2 ⟨rfl, hb2⟩
  obtain ⟨RR, hRR⟩ : ∃ RR, RR = wlk h0 (fewL l) 0 := ⟨_, rfl⟩
  rw [← hRR]
  have hrng := wlk_rng (fewL l) h0 0
  rw [← hRR, Nat.zero_add] at hrng
  have hnl : RR.1.2.2.length = 32 := by rw [hRR]; exact wlk_len _ _ _ HCL.out
  have HRR := hid hRR
  obtain ⟨hd, n, er⟩ := RR
  have hn2 : n ≤ (fewL l).length := hrng.2
  have hn3 := fewL_len l
  have hb3 := bel_alc W2 (.cells (hdV hd).toArray 55)
  have HB3 := hid (Bn (Bn HB2.out hb2) hb3)
  have h3 := (Bn hb2 hb3).block _ (Array.getElem?_eq_some_iff.1 HH2.out).1
  have HH3 := hid (h3.trans HH2.out)
  have HR3 := hid (HR1.out.later (Bn hb2 hb3))
  have HSN : Hid ((Tryd.prog.info? 55).map (·.size) = some (hdV hd).toArray.size) := size_hd hnl
  have HNV : Hid ((hdV hd).length = 34) := hdL_len _ _ _ hnl
  have HZS : Hid ((hdL 0 0 z32).toArray.size = (hdV hd).toArray.size) := by show _ = _; rw [List.size_toArray, List.size_toArray, HNV.out]; rfl
  have HON := hid (all_oneCell_toArray (show ∀ u ∈ hdV hd, u.oneCell' = true from hdL_one _ _ _))
  have c1 : (W2.alloc (.cells (hdV hd).toArray 55)).cell? ⟨w.heap.size, 1, none⟩ = some (.int .i64 h0.2.1) := (Joins.cell_of_block HH3.out 1).trans rfl
  have hroom := HR3.out.room
  have hmost := HR3.out.most
  unfold maxLen at hmost
  obtain ⟨len, hlen⟩ : ∃ n, n = (fewL l).length := ⟨_, rfl⟩
  rw [← hlen] at hn2 hn3 hroom ⊢
  have HLE := hid hlen
  have e1 : ¬ (n : Int) < 0 := by omega
  have e2 : ¬ (len : Int) < (n : Int) := by omega
  have e3 : decide ((n : Int) < 0) = false := decide_eq_false e1
  have e4 : decide ((len : Int) < (n : Int)) = false := decide_eq_false e2
  have e5 : decide (len < n) = false := decide_eq_false (by omega)
  clear hb2 hb3 h3 hRR hrng hnl HWK HRG HB2 HH2 HR1 hlen
  go_wp2_with (first | refine wpList_alloc_at rfl 55 rfl (some 5) rfl _ Tryd.zero55 W2.heap.size rfl ?_ | refine wpList_store_new rfl 55 _ _ rfl rfl W2 (hdL 0 0 z32).toArray (hdV hd).toArray rfl rfl rfl HSN.out HZS.out HON.out ?_ | fail)
  generalize hW3 : W2.alloc (.cells (hdV hd).toArray 55) = W3 at *
  clear hW3 c1
  go_loopw [8, 9] (fun x8 x9 wr => ∃ (k : Nat) (h : Hd), k ≤ n ∧ x9 = .int .i64 (k : Int) ∧ x8 = .int .i64 h.2.1 ∧ Hid (Below W3.heap.size W3 wr) ∧ Hid ((hd, n, er) = wlk h ((fewL l).drop k) k)) (fun _ x9 _ => n - (intOf x9).toNat)
  case atStart => exact ⟨0, h0, by omega, rfl, rfl, Below.refl _ _, HRR.out⟩
  case round =>
    obtain ⟨k, h, hk, rfl, rfl, HBW, HW⟩ := hrel
    by_cases hlt : k < n
    · have hkz : (k : Int) < (n : Int) := by omega
      have hkl : (k : Int) < (len : Int) := by omega
      obtain ⟨b, off, rfl, hbw, hc⟩ := HR3.out.cells (by rw [← HLE.out]; omega)
      have hrg := hc k (by rw [← HLE.out]; omega)
      have hst := HW.out.trans (wlk_step h (show k < (fewL l).length by rw [← HLE.out]; omega))
      have hlx := (HR3.out.get (j := k) (by rw [← HLE.out]; omega)).len
      generalize (fewL l).getD k recZ = x at *
      have hf : fltH h x = 0 := by
        by_cases q : fltH h x = 0
        · exact q
        · rw [if_neg q] at hst
          have : n = k := congrArg (fun z => z.2.1) hst
          omega
      rw [if_pos hf] at hst
      have d1 : wr.cell? ⟨b, off + k * 38 + 1, none⟩ = some (.int .i64 x.epoch) := (HBW.out.cell (p := ⟨b, off + k * 38 + 1, none⟩) hbw).trans (hrg 1 _ rfl)
      have d34 : wr.cell? ⟨b, off + k * 38 + 34, none⟩ = some (.int .i64 x.kind) := (HBW.out.cell (p := ⟨b, off + k * 38 + 34, none⟩) hbw).trans (hrg 34 _ (x.tail hlx 0))
      have HST := hid hst
      have HNE := hid (nxt_epoch hf)
      have hor := fol_epoch hf
      clear hrg hc hst hlx hf
      generalize nxtH h x = Nh at *
      rcases hor with ⟨q1, q2⟩ | ⟨q1, q2⟩
      · rw [q1] at d34
        have g1 : ¬ x.epoch < h.2.1 := by omega
        generalize x.epoch = ep at *
        generalize h.2.1 = eh at *
        have g2 : decide (ep < eh) = false := decide_eq_false g1
        have g3 : decide (eh < ep) = true := decide_eq_true q2
        go_wp2_with fail
        go_big_quiet (fail)
        go_wp2
        go_round
        case rel => exact ⟨k + 1, Nh, by omega, by go_num, by rw [HNE.out], bel_drewN HBW.out _, HST.out⟩
        case measure => simp [intOf]; omega
      · rw [q2] at d1 HNE
        generalize h.2.1 = eh at *
        generalize x.kind = ki at *
        have g2 : decide (eh < eh) = false := decide_eq_false (by omega)
        have g4 : (ki == 1) = false := by rw [beq_eq_false_iff_ne]; exact q1
        go_wp2_with fail
        go_big_quiet (fail)
        go_wp2
        go_round
        case rel => exact ⟨k + 1, Nh, by omega, by go_num, by rw [HNE.out], bel_drewN HBW.out _, HST.out⟩
        case measure => simp [intOf]; omega
    · have hkl : k = n := by omega
      have hkz : ¬ (k : Int) < (n : Int) := by omega
      have HAL := hid (alive_word wr)
      go_wp2_with fail
      refine HAL.out.mono ?_
      rintro _ W5 ⟨rfl, hb5⟩
      have HBF := hid (Bn (Bn HB3.out HBW.out) hb5)
      clear hb5 HAL
      go_wp2
      go_ret
      exact ⟨rfl, HBF.out⟩

set_option maxRecDepth 100000 in
theorem lifted (os : Os) (started : os.Started) (H : Type) (enc : TypeId × Value → H) :
    ReturnsInHanded {} Tryd.checked os 8 .any (fun w args => (Rows.recordEpochsSpec.pre enc Tryd.prog Tryd.f8 [] false w args ∧ laidMetH Tryd.prog laidL w) ∧ sizedMet enc Tryd.prog Tryd.f8 (OpenSpec.ofChange Rows.recordEpochsSpec) false w args)
      (Rows.recordEpochsSpec.post enc Tryd.prog Tryd.f8 false true false false) := by
  refine returnsInHanded_of_change_and (C := Tryd.checked) (X := fun w _ => laidMetH Tryd.prog laidL w) (fun _ _ _ hh h => h.of_heap hh) own started (by kernel_rfl) Tryd.func8
    (ChangeSpec.witness_shaped (enc := enc) (C := Tryd.checked) (os := os) (X := fun w _ => laidMetH Tryd.prog laidL w) false (World.doorLaid Tryd.prog 400 os) #[.agg #[.int .i64 0, .int .i64 0, .int .u8 0, .int .u8 0, .int .u8 0, .int .u8 0, .int .u8 0, .int .u8 0, .int .u8 0, .int .u8 0, .int .u8 0, .int .u8 0, .int .u8 0, .int .u8 0, .int .u8 0, .int .u8 0, .int .u8 0, .int .u8 0, .int .u8 0, .int .u8 0, .int .u8 0, .int .u8 0, .int .u8 0, .int .u8 0, .int .u8 0, .int .u8 0, .int .u8 0, .int .u8 0, .int .u8 0, .int .u8 0, .int .u8 0, .int .u8 0, .int .u8 0, .int .u8 0], .slice none 0 0] 8 rfl (World.shaped_of_RefB (by kernel_rfl) (by kernel_rfl)) (by kernel_rfl) (by kernel_rfl) (by kernel_rfl) (door_met os _)) ?_
  intro W base args ds gs before hval0 hW _ _ hL _
  have hval : ∀ (j : Nat) t v, Tryd.f8.params[j]? = some t → args[j]? = some v → Value.okWide Tryd.prog W .any base t v := hval0
  have hW' := hW
  obtain ⟨p, q, hA0, hV, rfl, _, _⟩ := hW
  have hA : DataW.TrodAll enc Tryd.prog W 0 (fun _ => true) true Tryd.f8.params.toList args.toList ds p := hA0
  rw [Tryd.params8] at hA hval
  obtain ⟨v0, vs0, d0, ds0, p0, q0, hargs, rfl, rfl, h0, r0⟩ := trodAll_cons hA
  obtain ⟨v1, vs1, d1, ds1, p1, q1, rfl, rfl, rfl, h1, r1⟩ := trodAll_cons r0
  obtain ⟨rfl, rfl, rfl⟩ := trodAll_nil r1
  obtain rfl : args = #[v0, v1] := by cases args; simp_all
  obtain ⟨rfl, rfl⟩ := trodVars_none hV
  have hlaid := of_laid hL
  clear hA0
  simp only [List.append_nil] at hW'
  have hlt0 : ∀ x ∈ p0, x.block < W.heap.size := fun x hx => hW'.lt x (by simp [hx])
  have hk0 := h0
  obtain ⟨x0, rfl, hr0⟩ := open_head (hval 0 55 v0 rfl rfl) h0
  have hlt1 : ∀ x ∈ p1, x.block < W.heap.size := fun x hx => hW'.lt x (by simp [hx])
  have hk1 := h1
  obtain ⟨a1, cap1, l1, rfl, hr1⟩ := open_recs (hval 1 56 v1 rfl rfl) h1 hlt1
  clear hval0
  refine (walk x0 a1 cap1 l1 W hlaid hr0 hr1).mono fun e W' ⟨he, hb⟩ => ?_
  subst he
  exact ⟨_, rfl, _, _, _, [] ++ [], _, [], hW', trodAll_cons_mk (shut_bool Tryd.underlying4 _) trodAll_mk0, (trodAll_cons_mk (Below.trod Tryd.laidOut (by kernel_rfl) (of_decide_eq_true (by kernel_rfl)) hk0 hb hlt0) (trodAll_cons_mk (Below.trod Tryd.laidOut (by kernel_rfl) (of_decide_eq_true (by kernel_rfl)) hk1 hb hlt1) trodAll_mk0)), rfl, hb.frame _, fun h => by cases h⟩

theorem over : Rows.recordEpochsRow.holds Tryd.pinned (OpenSpec.ofChange Rows.recordEpochsSpec) :=
  OpenClaim.holds_of_wide 8 Tryd.f8 rfl rfl rfl rfl rfl rfl rfl ⟨rfl, rfl, rfl, rfl, rfl⟩ rfl rfl rfl rfl rfl (by kernel_rfl) Tryd.func8 (by kernel_rfl)
    (of_decide_eq_true (by kernel_rfl)) (by unfold Func.isWrapper; first | (rw [if_pos (by decide +kernel)]; kernel_rfl) | (rw [if_neg (by decide +kernel)]; exact ⟨rfl, rfl⟩))
    (fun os started H enc _ => lifted os started H enc)

theorem card : Rows.RecordEpochsCardSaid :=
  Claim7.holds_tied_plain_at .later [] [.data, .data] true (true, "875b16e5fcb2ccc823f28e185639766048f68080d49968449cd66f96e9b9ab4d") true
    over (fun _ h => by cases h) (by kernel_rfl) (fun _ h => by cases h) recordEpochs_row_tie rfl ⟨rfl, rfl⟩ (by kernel_rfl) rfl
    (fun f fn hf hfn => by
      obtain rfl : f = 8 := Option.some.inj ((show Tryd.prog.funcNamed "saltern/salternlaw13.RecordEpochs" = some 8 by kernel_rfl).symm.trans hf) |>.symm
      obtain rfl : fn = Tryd.f8 := (Option.some.inj (Tryd.func8.symm.trans hfn)).symm
      exact ⟨by kernel_rfl, fun j t ht => by
        rw [Tryd.params8] at ht
        have hm : t ∈ [55, 56] := by simpa using Array.mem_of_getElem? ht
        have hall : ([55, 56].all fun u => !Tryd.prog.wantsStandIn u) = true := by kernel_rfl
        exact (show Tryd.prog.wantsStandIn t = false by simpa using List.all_eq_true.1 hall t hm)⟩)
    (by kernel_rfl)

end Go.Proofs.YtpbaacplgohniaaDoor.recordEpochs
namespace Go.Proofs.YtpbaacplgohniaaDoor
theorem recordEpochs_holds : Rows.RecordEpochsCardSaid := recordEpochs.card
#print axioms recordEpochs_holds
end Go.Proofs.YtpbaacplgohniaaDoor
