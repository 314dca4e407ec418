/-
 PackTrue is proved for every input, as a tied card: what is read has the digest that its head says; no condition but that the tables of package sha start as the text lays them.
-/
import Derived.Test.YtibjlbcnapoblaaGreatDoorPart35
namespace Go.Proofs.YtibjlbcnapoblaaGreatDoor.packTrue
open Go.ChangeShapes Go.WideShapes Go.ChangeAt Go.RowKit Hf Lz

set_option maxHeartbeats 3200000 in
set_option maxRecDepth 100000 in
theorem walk (a : Option Addr) (c0 : Nat) (l0 : List Int) (w : World) (hL : Sh.Laid w) (hr : Ri w .u8 a c0 l0) :
   Calls Tryz.prog 8 #[.slice a l0.length c0] w fun e w' => e = .returned (.bool true) ∧ Below w.heap.size w w' := by
 have C1 := hid (pcut_word a c0 2100 l0 w hr (by decide))
 have hn1 : (l0.take 2100).length ≤ 2100 := List.length_take_le _ _
 have r1 := hr.take 2100
 generalize l0.take 2100 = zs at *
 have HAW : Hid (∀ V, Below w.heap.size w V → Calls Tryz.prog 15 #[] V fun e w' => e = .returned (.bool true) ∧ Below V.heap.size V w') := fun V hV => alive_pk V (hL.later hV)
 have HRE := hid (read_pk a c0 zs w r1 (by omega) hL)
 have HHP : Hid (∀ V, Below w.heap.size w V → Calls Tryz.prog 16 #[.slice a zs.length c0] V fun e w' => e = .returned (.tuple #[.agg (u8A (hedO zs).1), .int .i64 ((hedO zs).2.1 : Int), .int .i64 (hedO zs).2.2]) ∧ Below V.heap.size V w') := fun V hV => head_pk a c0 zs V (r1.later hV)
 have HRH := hid (fun h => red_hed (zs := zs) h)
 unfold RedPost at HRE
 obtain ⟨R, hR⟩ : ∃ R, R = redO zs := ⟨_, rfl⟩
 rw [← hR] at HRE HRH
 generalize zs.length = L at *
 generalize l0.length = L0 at *
 clear hr r1 hR hL
 go_enter Tryz.func8, Tryz.ntmps8
 go_wp2_with fail
 refine C1.out.mono ?_
 rintro _ w0 ⟨rfl, hw⟩
 obtain rfl := hw.symm
 clear hw C1
 go_wp2_with fail
 refine HRE.out.mono ?_
 rintro _ W1 ⟨hb1, ⟨hne, rfl⟩ | ⟨h0, a1, c1, rfl, hr1⟩⟩
 · have HB1 := hid hb1
   have HA1 := hid (HAW.out W1 hb1)
   have hnb : (R.1 != 0) = true := by rw [bne_iff_ne]; exact hne
   clear hb1 HRE HAW HRH HHP
   generalize R.1 = x at *
   clear hne
   go_wp2_with fail
   refine HA1.out.mono ?_
   rintro _ W2 ⟨rfl, hb2⟩
   have HB2 := hid (Bn HB1.out hb2)
   clear hb2 HA1
   go_wp2_with fail
   go_ret
   exact ⟨rfl, HB2.out⟩
 · obtain ⟨hh, hc⟩ := HRH.out h0
   have hrg := isC_rng hc
   obtain ⟨bs, hbs⟩ : ∃ bs, bs = R.2.1 := ⟨_, rfl⟩
   obtain ⟨q, hq⟩ : ∃ q, q = R.2.2 := ⟨_, rfl⟩
   rw [← hbs] at hr1 hh hc hrg
   rw [← hbs, ← hq]
   rw [← hq] at hh
   obtain ⟨b1, o1, rfl, _, _⟩ := hr1.cells (by omega)
   have HB1 := hid hb1
   have HI1 := hid hr1
   have HH1 := hid (HHP.out W1 hb1)
   rw [hh] at HH1
   dsimp only at HH1
   have hdl := digL_len bs
   have HOD : Hid (∀ V, Below W1.heap.size W1 V → Calls Tryz.prog 22 #[.slice (some ⟨b1, o1, none⟩) bs.length c1] V fun e w' => e = .returned (.agg (u8A (digL bs))) ∧ Below V.heap.size V w') := fun V hV => of_doc b1 o1 c1 bs V (HI1.out.later hV) (by omega)
   have HIS : Hid (∀ V, Calls Tryz.prog 20 #[.slice (some ⟨b1, o1, none⟩) bs.length c1] V fun e w' => e = .returned (.bool true) ∧ w' = V) := fun V => by rw [← hc]; exact ischunk_ref _ c1 bs.length V (by omega)
   generalize digL bs = d at *
   generalize bs.length = LB at *
   have HDL := hid hdl
   have hlb := hrg.2
   clear hb1 hr1 HRE HRH HHP hh hc hrg hbs hq hdl h0
   go_wp2_with fail
   refine HH1.out.mono ?_
   rintro _ W5 ⟨rfl, hb5⟩
   have V5 := hid hb5
   have E5 := hid (heap_alc W5 (.cells (u8A z32) 37))
   have B5 := hid (bel_alc W5 (.cells (u8A z32) 37))
   have HZ37 : Hid ((u8A z32).size = 32) := rfl
   have E6 : Hid (((W5.alloc (.cells (u8A z32) 37)).setRow W5.heap.size (u8A d)).heap[W5.heap.size]? = some (.cells (u8A d) 37)) := setRow_heap _ _ _ _ _ _ E5.out
   have V6 : Hid (Below W5.heap.size W5 ((W5.alloc (.cells (u8A z32) 37)).setRow W5.heap.size (u8A d))) := below_setRow B5.out (Nat.le_refl _) _
   clear hb5 HH1
   go_wp2_with (first
     | (refine wpList_alloc_at rfl 37 rfl (some 6) rfl (u8A z32) Tryz.zero37p W5.heap.size rfl ?_)
     | (refine wpList_store_rowTo rfl 37 _ _ rfl rfl W5.heap.size (u8A d) rfl rfl 37 _ E5.out (by rw [u8A_size, HDL.out]; exact Tryz.size37p) (by rw [HZ37.out, u8A_size, HDL.out]) (u8A_one _) ?_))
   clear E5 B5 HZ37
   have V7 := hid (Bn V5.out V6.out)
   have HG : Hid (W5.heap.size < ((W5.alloc (.cells (u8A z32) 37)).setRow W5.heap.size (u8A d)).heap.size) := (Array.getElem?_eq_some_iff.1 E6.out).1
   generalize (W5.alloc (.cells (u8A z32) 37)).setRow W5.heap.size (u8A d) = W7 at *
   generalize W5.heap.size = g at *
   have HLD : Hid (∀ V, Below W7.heap.size W7 V → (loadVar 37 ⟨g, 0, none⟩).run Tryz.prog V = .ok (.agg (u8A d)) V) := fun V hV =>
     run_loadVar_row V g 37 37 (u8A d) (0, 0) _ ((hV.block _ HG.out).trans E6.out) Tryz.underlying37 rfl (by rw [u8A_size, HDL.out]; exact Tryz.size37p)
   have HEQ : Hid (∀ V, (Op.equalIn 10000 37 (.agg (u8A d)) (.agg (u8A d))).run Tryz.prog V = .ok true V) := fun V => by
     have := eq37 d d HDL.out HDL.out V
     rwa [decide_eq_true rfl] at this
   have HOF : Hid (∀ V, Below W7.heap.size W7 V → Calls Tryz.prog 22 #[.slice (some ⟨b1, o1, none⟩) LB c1] V fun e w' => e = .returned (.agg (u8A d)) ∧ Below V.heap.size V w') := fun V hV => HOD.out V (Bn V7.out hV)
   have HAL : Hid (∀ V, Below W7.heap.size W7 V → Calls Tryz.prog 15 #[] V fun e w' => e = .returned (.bool true) ∧ Below V.heap.size V w') := fun V hV => HAW.out V (Bn (Bn HB1.out V7.out) hV)
   clear HAW HOD V5 V6 E6 HG HI1
   refine wp_region_held_drew (S := fun V => Below W7.heap.size W7 V) (by kernel_rfl) (Below.refl _ _).drew (fun hS0 => ?_)
   generalize W7.drew = v0 at *
   simp only [List.size_toArray, List.length_cons, List.length_nil, Nat.reduceAdd]
   refine Ord.tk (i := 0) (d := 35) (v := ?vA0) rfl rfl ?hA0 (by assumption) ?_
   case hA0 => intro w hSw; go_simp; try with_reducible rfl
   simp only [Ord.s1, Ord.s2, Ord.s3]
   refine Ord.tk (i := 1) (d := 36) (v := ?vA1) rfl rfl ?hA1 (by assumption) ?_
   case hA1 => intro w hSw; go_simp; try with_reducible rfl
   simp only [Ord.s1, Ord.s2, Ord.s3]
   refine Ord.tk (i := 2) (d := 37) (v := ?vA2) rfl rfl ?hA2 (by assumption) ?_
   case hA2 => intro w hSw; go_simp; try with_reducible rfl
   simp only [Ord.s1, Ord.s2, Ord.s3]
   refine Ord.tk (i := 3) (d := 38) (v := ?vA3) rfl rfl ?hA3 (by assumption) ?_
   case hA3 => intro w hSw; go_simp; try with_reducible rfl
   simp only [Ord.s1, Ord.s2, Ord.s3]
   refine Ord.tk (i := 4) (d := 39) (v := ?vA4) rfl rfl ?hA4 (by assumption) ?_
   case hA4 => intro w hSw; go_simp; try with_reducible rfl
   simp only [Ord.s1, Ord.s2, Ord.s3]
   refine Ord.tk (i := 5) (d := 40) (v := .bool true) rfl rfl ?hA5 (by assumption) ?_
   case hA5 => intro w hSw; go_simp; try with_reducible rfl
   simp only [Ord.s1, Ord.s2, Ord.s3]
   refine Ord.tk (i := 6) (d := 41) (v := ?vA6) rfl rfl ?hA6 (by assumption) ?_
   case hA6 => intro w hSw; go_simp; try with_reducible rfl
   simp only [Ord.s1, Ord.s2, Ord.s3]
   refine Ord.tk (i := 7) (d := 42) (v := ?vA7) rfl rfl ?hA7 (by assumption) ?_
   case hA7 => intro w hSw; go_simp; try with_reducible rfl
   simp only [Ord.s1, Ord.s2, Ord.s3]
   refine Ord.tk (i := 8) (d := 43) (v := .agg (u8A d)) rfl rfl ?hA8 (by assumption) ?_
   case hA8 => intro w hSw; exact (exec_load 37 (.tmp 6) rfl g 0 rfl (HLD.out w hSw))
   simp only [Ord.s1, Ord.s2, Ord.s3]
   refine Ord.tk (i := 9) (d := 44) (v := ?vA9) rfl rfl ?hA9 (by assumption) ?_
   case hA9 => intro w hSw; go_simp; try with_reducible rfl
   simp only [Ord.s1, Ord.s2, Ord.s3]
   refine wpAnyH_ready (rs := [10]) (by as_aux_lemma => kernel_rfl) (by simp) (AllReadyH.cons rfl (fun K hK => ?_) AllReadyH.nil)
   go_simp
   refine (HOF.out v0 hS0).mono ?_
   rintro _ v1 ⟨rfl, hb1⟩
   have hS1 := Bn hS0 hb1
   refine hK.out _ _ hS1 (fun _ => ?_)
   clear hK K hb1
   try simp only [Ord.s1, Ord.s2, Ord.s3]
   refine Ord.tk (i := 11) (d := 46) (v := .bool true) rfl rfl ?hA11 (by assumption) ?_
   case hA11 => intro w hSw; exact (run_eql_op rfl rfl rfl guard37 (HEQ.out w))
   simp only [Ord.s1, Ord.s2, Ord.s3]
   refine Ord.tk (i := 12) (d := 47) (v := ?vA12) rfl rfl ?hA12 (by assumption) ?_
   case hA12 => intro w hSw; go_simp; try with_reducible rfl
   simp only [Ord.s1, Ord.s2, Ord.s3]
   refine Ord.tk (i := 13) (d := 48) (v := ?vA13) rfl rfl ?hA13 (by assumption) ?_
   case hA13 => intro w hSw; go_simp; try with_reducible rfl
   simp only [Ord.s1, Ord.s2, Ord.s3]
   refine Ord.tk (i := 14) (d := 49) (v := ?vA14) rfl rfl ?hA14 (by assumption) ?_
   case hA14 => intro w hSw; go_simp; try with_reducible rfl
   simp only [Ord.s1, Ord.s2, Ord.s3]
   refine wpAnyH_ready (rs := [15]) (by as_aux_lemma => kernel_rfl) (by simp) (AllReadyH.cons rfl (fun K hK => ?_) AllReadyH.nil)
   go_simp
   refine (HIS.out v1).mono ?_
   rintro _ v2 ⟨rfl, hw⟩
   obtain rfl := hw.symm
   refine hK.out _ _ hS1 (fun _ => ?_)
   clear hK K hw
   try simp only [Ord.s1, Ord.s2, Ord.s3]
   refine Ord.tk (i := 16) (d := 51) (v := ?vA16) rfl rfl ?hA16 (by assumption) ?_
   case hA16 => intro w hSw; go_simp; try with_reducible rfl
   simp only [Ord.s1, Ord.s2, Ord.s3]
   refine Ord.tk (i := 17) (d := 52) (v := ?vA17) rfl rfl ?hA17 (by assumption) ?_
   case hA17 => intro w hSw; go_simp; try with_reducible rfl
   simp only [Ord.s1, Ord.s2, Ord.s3]
   refine wpAnyH_ready (rs := [18]) (by as_aux_lemma => kernel_rfl) (by simp) (AllReadyH.cons rfl (fun K hK => ?_) AllReadyH.nil)
   go_simp
   refine (HAL.out v1 hS1).mono ?_
   rintro _ v3 ⟨rfl, hb3⟩
   have hS3 := Bn hS1 hb3
   refine hK.out _ _ hS3 (fun _ => ?_)
   clear hK K hb3
   try simp only [Ord.s1, Ord.s2, Ord.s3]
   refine Ord.tk (i := 19) (d := 54) (v := ?vA19) rfl rfl ?hA19 (by assumption) ?_
   case hA19 => intro w hSw; go_simp; try with_reducible rfl
   simp only [Ord.s1, Ord.s2, Ord.s3]
   refine Ord.tk (i := 20) (d := 2) (v := ?vA20) rfl rfl ?hA20 (by assumption) ?_
   case hA20 => intro w hSw; go_simp; try with_reducible rfl
   simp only [Ord.s1, Ord.s2, Ord.s3]
   refine wpAnyH_done (by as_aux_lemma => kernel_rfl) ?_ _
   have HB9 := hid (Bn (Bn HB1.out V7.out) hS3)
   go_wp2_with fail
   go_ret
   exact ⟨rfl, HB9.out⟩

set_option maxRecDepth 100000 in
theorem lifted (os : Os) (started : os.Started) (H : Type) (enc : TypeId × Value → H) :
   ReturnsInHanded {} Tryz.checked os 8 .any (fun w args => (Rows.packTrueSpec.pre enc Tryz.prog Tryz.f8 [] false w args ∧ laidMetH Tryz.prog laidL w) ∧ sizedMet enc Tryz.prog Tryz.f8 (OpenSpec.ofChange Rows.packTrueSpec) false w args)
     (Rows.packTrueSpec.post enc Tryz.prog Tryz.f8 false true false false) := by
 refine returnsInHanded_of_change_and (C := Tryz.checked) (X := fun w _ => laidMetH Tryz.prog laidL w) (fun _ _ _ hh h => h.of_heap hh) own started (by kernel_rfl) Tryz.func8
   (ChangeSpec.witness_shaped (enc := enc) (C := Tryz.checked) (os := os) (X := fun w _ => laidMetH Tryz.prog laidL w) false (World.doorLaid Tryz.prog 400 os) #[.slice none 0 0] 8 rfl (World.shaped_of_RefB (by kernel_rfl) (by kernel_rfl)) (by kernel_rfl) (by kernel_rfl) (by kernel_rfl) (door_met os _)) ?_
 intro W base args ds gs before hval0 hW _ _ hL _
 have hval : ∀ (j : Nat) t v, Tryz.f8.params[j]? = some t → args[j]? = some v → Value.okWide Tryz.prog W .any base t v := hval0
 have hW' := hW
 obtain ⟨p, q, hA0, hV, rfl, _, _⟩ := hW
 have hA : DataW.TrodAll enc Tryz.prog W 0 (fun _ => true) true Tryz.f8.params.toList args.toList ds p := hA0
 rw [Tryz.params8] at hA hval
 obtain ⟨v0, vs0, d0, ds0, p0, q0, hargs, rfl, rfl, h0, r0⟩ := trodAll_cons hA
 obtain ⟨rfl, rfl, rfl⟩ := trodAll_nil r0
 obtain rfl : args = #[v0] := by cases args; simp_all
 obtain ⟨rfl, rfl⟩ := trodVars_none hV
 have hlaid := of_laid hL
 clear hA0
 simp only [List.append_nil] at hW'
 have hlt0 : ∀ x ∈ p0, x.block < W.heap.size := fun x hx => hW'.lt x (by simp [hx])
 have hk0 := h0
 obtain ⟨a0, cap0, l0, rfl, hr0⟩ := open_ri Tryz.underlying22 Tryz.underlying5 Tryz.cells5 (hval 0 22 v0 rfl rfl) h0 hlt0
 clear hval0
 refine (walk a0 cap0 l0 W hlaid hr0).mono fun e W' ⟨he, hb⟩ => ?_
 subst he
 exact ⟨_, rfl, _, _, _, [] ++ [], _, [], hW', trodAll_cons_mk (shut_bool Tryz.underlying4 _) trodAll_mk0, (trodAll_cons_mk (Below.trod Tryz.laidOut (by kernel_rfl) (of_decide_eq_true (by kernel_rfl)) hk0 hb hlt0) trodAll_mk0), rfl, hb.frame _, fun h => by cases h⟩

theorem over : Rows.packTrueRow.holds Tryz.pinned (OpenSpec.ofChange Rows.packTrueSpec) :=
 OpenClaim.holds_of_wide 8 Tryz.f8 rfl rfl rfl rfl rfl rfl rfl ⟨rfl, rfl, rfl, rfl, rfl⟩ rfl rfl rfl rfl rfl (by kernel_rfl) Tryz.func8 (by kernel_rfl)
   (of_decide_eq_true (by kernel_rfl)) (by unfold Func.isWrapper; first | (rw [if_pos (by decide +kernel)]; kernel_rfl) | (rw [if_neg (by decide +kernel)]; exact ⟨rfl, rfl⟩))
   (fun os started H enc _ => lifted os started H enc)

theorem card : Rows.PackTrueCardSaid :=
 Claim7.holds_tied_plain_at .later [] [.data, .data] true (true, "633fa4ac238961f8ea75229e9571942cafb5f99988f42aab7627898757faa6c6") true
   over (fun _ h => by cases h) (by kernel_rfl) (fun _ h => by cases h) packTrue_row_tie rfl ⟨rfl, rfl⟩ (by kernel_rfl) rfl
   (fun f fn hf hfn => by
     obtain rfl : f = 8 := Option.some.inj ((show Tryz.prog.funcNamed "saltern/salternlaw11.PackTrue" = some 8 by kernel_rfl).symm.trans hf) |>.symm
     obtain rfl : fn = Tryz.f8 := (Option.some.inj (Tryz.func8.symm.trans hfn)).symm
     exact ⟨by kernel_rfl, fun j t ht => by
       rw [Tryz.params8] at ht
       have hm : t ∈ [22] := by simpa using Array.mem_of_getElem? ht
       have hall : ([22].all fun u => !Tryz.prog.wantsStandIn u) = true := by kernel_rfl
       exact (show Tryz.prog.wantsStandIn t = false by simpa using List.all_eq_true.1 hall t hm)⟩)
   (by kernel_rfl)

end Go.Proofs.YtibjlbcnapoblaaGreatDoor.packTrue
namespace Go.Proofs.YtibjlbcnapoblaaGreatDoor
theorem packTrue_holds : Rows.PackTrueCardSaid := packTrue.card
#print axioms packTrue_holds
end Go.Proofs.YtibjlbcnapoblaaGreatDoor
