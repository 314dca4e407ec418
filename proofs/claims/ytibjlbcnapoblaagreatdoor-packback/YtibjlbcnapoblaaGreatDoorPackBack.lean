/-
 PackBack is proved for every input, as a tied card: a chunk is read of its blocks, whatever stands behind; no condition but that the tables of package sha start as the text lays them.
-/
import Derived.Test.YtibjlbcnapoblaaGreatDoorPart35
namespace Go.Proofs.YtibjlbcnapoblaaGreatDoor.packBack
open Go.ChangeShapes Go.WideShapes Go.ChangeAt Go.RowKit Hf Lz

set_option maxHeartbeats 3200000 in
set_option maxRecDepth 100000 in
theorem walk (a : Option Addr) (c0 : Nat) (l0 : List Int) (a2 : Option Addr) (c2 : Nat) (l2 : List Int) (w : World) (hL : Sh.Laid w) (hr : Ri w .u8 a c0 l0) (hr2 : Ri w .u8 a2 c2 l2) :
   Calls Tryz.prog 6 #[.slice a l0.length c0, .slice a2 l2.length c2] w fun e w' => e = .returned (.bool true) ∧ Below w.heap.size w w' := by
 have C1 := hid (pcut_word a c0 900 l0 w hr (by decide))
 have C2 := hid (pcut_word a2 c2 900 l2 w hr2 (by decide))
 have hn1 : (l0.take 900).length ≤ 900 := List.length_take_le _ _
 have hn2 : (l2.take 900).length ≤ 900 := List.length_take_le _ _
 have r1 := hr.take 900
 have r2 := hr2.take 900
 generalize l0.take 900 = bs at *
 generalize l2.take 900 = ts at *
 have HAL : Hid (∀ V, Below w.heap.size w V → Calls Tryz.prog 15 #[] V fun e w' => e = .returned (.bool true) ∧ Below V.heap.size V w') := fun V hV => alive_pk V (hL.later hV)
 have HBY := hid (bytes_pk a c0 bs w r1 (by omega) hL)
 unfold BytPk at HBY
 have HR1 := hid r1
 have HR2 := hid r2
 have HL := hid hL
 generalize l0.length = L0 at *
 generalize l2.length = L2 at *
 clear hr hr2 hL
 cases hq : isC bs.length with
 | false =>
   rw [hq] at HBY
   have HIS : Hid (∀ V, Calls Tryz.prog 20 #[.slice a bs.length c0] V fun e w' => e = .returned (.bool false) ∧ w' = V) := fun V => by rw [← hq]; exact ischunk_ref a c0 bs.length V (by omega)
   generalize bs.length = L at *
   generalize ts.length = LT at *
   clear hq r1 r2
   go_enter Tryz.func6, Tryz.ntmps6
   go_wp2_with fail
   refine C1.out.mono ?_
   rintro _ w0 ⟨rfl, hw⟩
   obtain rfl := hw.symm
   clear hw C1
   go_wp2_with fail
   refine C2.out.mono ?_
   rintro _ w0 ⟨rfl, hw⟩
   obtain rfl := hw.symm
   clear hw C2
   go_wp2_with fail
   refine HBY.out.mono ?_
   rintro _ W1 ⟨hb1, ⟨_, rfl⟩ | ⟨h, _⟩⟩
   · have HB1 := hid hb1
     have HA1 := hid (HAL.out W1 hb1)
     clear hb1 HBY HAL
     go_wp2_with fail
     refine (HIS.out _).mono ?_
     rintro _ w0 ⟨rfl, hw⟩
     obtain rfl := hw.symm
     clear hw HIS
     go_wp2_with fail
     refine HA1.out.mono ?_
     rintro _ W2 ⟨rfl, hb2⟩
     have HB2 := hid (Bn HB1.out hb2)
     clear hb2 HA1
     go_wp2_with fail
     go_ret
     exact ⟨rfl, HB2.out⟩
   · cases h
 | true =>
   have hrg := isC_rng hq
   have h8 : Bytes8 bs := r1.fits
   obtain ⟨b, off, rfl, _, _⟩ := r1.cells (by omega)
   rw [hq] at HBY
   have hel := enc_len bs (by omega)
   have hpl := pak_len bs
   have hpb : (pakB bs).length ≤ 5000 := by rw [hpl]; unfold blkN; omega
   have HRD := hid (red_pak bs h8 hq ts)
   have HHD := hid (hed_pak bs hq [])
   rw [List.append_nil] at HHD
   have HP8 := hid (pak_u8 bs h8 (by omega))
   have HPN : Hid (0 < (pakB bs).length) := by show _ < _; rw [hpl]; have := blk_ge (encB bs).length; omega
   obtain ⟨q, hqe⟩ : ∃ q, q = blkN (encB bs).length := ⟨_, rfl⟩
   have hq9 : q ≤ 10 := by rw [hqe]; unfold blkN; omega
   rw [← hqe] at HRD HHD hpl
   obtain ⟨P, hP⟩ : ∃ P, P = pakB bs := ⟨_, rfl⟩
   rw [← hP] at HBY HRD HHD HP8 HPN hpl hpb
   obtain ⟨d, hd⟩ : ∃ d, d = digL bs := ⟨_, rfl⟩
   have hdl : d.length = 32 := by rw [hd]; exact digL_len bs
   have HPS : Hid (∀ V, Below w.heap.size w V → Calls Tryz.prog 21 #[.slice (some ⟨V.heap.size, 0, none⟩) 1 1] (V.alloc (.cells #[.slice (some ⟨b, off, none⟩) bs.length c0] 22)) fun e w' => e = .returned (.agg (u8A d)) ∧ Below V.heap.size V w') := fun V hV => by
     have := psum_word b off c0 bs V (HL.out.later hV) (r1.later hV) (by omega) V.heap.size rfl
     rw [← hd] at this
     exact this
   rw [← hd] at HHD
   have HDL := hid hdl
   obtain ⟨PL, hPL⟩ : ∃ PL, PL = P.length := ⟨_, rfl⟩
   have HPL := hid hPL
   obtain ⟨L, hLe⟩ : ∃ L, L = bs.length := ⟨_, rfl⟩
   have HLE := hid hLe
   obtain ⟨LT, hLT⟩ : ∃ LT, LT = ts.length := ⟨_, rfl⟩
   have HLT := hid hLT
   rw [← hPL] at hpl hpb
   rw [← hLe] at C1 HBY HPS hn1
   rw [← hLT] at C2 hn2
   have HQW : Hid (IntKind.i64.wrap ((q : Int) * 512) = (PL : Int)) := by show _ = _; rw [IntWalk.i64_in _ (by omega)]; omega
   clear hq hrg h8 r1 r2 hel hqe hP hd hdl hPL hLe hLT hpl
   go_enter Tryz.func6, Tryz.ntmps6
   go_wp2_with fail
   refine C1.out.mono ?_
   rintro _ w0 ⟨rfl, hw⟩
   obtain rfl := hw.symm
   clear hw C1
   go_wp2_with fail
   refine C2.out.mono ?_
   rintro _ w0 ⟨rfl, hw⟩
   obtain rfl := hw.symm
   clear hw C2
   go_wp2_with fail
   refine HBY.out.mono ?_
   rintro _ W1 ⟨hb1, ⟨h, _⟩ | ⟨_, v, rfl, ho⟩⟩
   · cases h
   obtain ⟨a1, c1, rfl, hr1⟩ := Ri.own ho HP8.out
   have HB1 := hid hb1
   have HI1 := hid hr1
   rw [← HPL.out]
   clear hb1 ho hr1 HBY
   have O1 := hid (own_none W1)
   have A1 := hid (HI1.out.later (bel_alc W1 (.cells #[] 5)))
   have S1 : Hid (W1.heap.size ≤ (W1.alloc (.cells #[] 5)).heap.size) := (bel_alc W1 _).size
   have N1 : Hid (([] : List Int).length + P.length ≤ 1000000) := by show _ ≤ _; rw [← HPL.out]; simp; omega
   have V1 := hid (bel_alc W1 (.cells #[] 5))
   go_wp2_with (at_builtin; refine own_app _ rfl _ _ rfl W1.heap.size _ [] rfl O1.out a1 c1 P (by rw [← HPL.out]; rfl) A1.out N1.out S1.out ?_)
   intro v2 W2 ho2 hb2
   have ho2' : W2.ownsRow W1.heap.size 5 1 v2 P.length (P.map (Value.int .u8)) := by simpa using ho2
   have O2 := hid ho2'
   have V2 := hid (V1.out.trans hb2)
   have A2 := hid (HR2.out.later (Bn HB1.out V2.out))
   have S2 := hid V2.out.size
   have N2 : Hid (P.length + ts.length ≤ 1000000) := by show _ ≤ _; rw [← HPL.out, ← HLT.out]; omega
   clear ho2 ho2' hb2 O1 A1 S1 N1 V1
   go_wp2_with (at_builtin; refine own_app _ rfl _ _ rfl W1.heap.size _ P rfl O2.out a2 c2 ts (by rw [← HLT.out]; rfl) A2.out N2.out S2.out ?_)
   intro v3 W3 ho3 hb3
   have ho3' : W3.ownsRow W1.heap.size 5 1 v3 (P ++ ts).length ((P ++ ts).map (Value.int .u8)) := by simpa using ho3
   have V3 := hid (V2.out.trans hb3)
   have hpt : ∀ j, (Lit.int .u8 ((P ++ ts).getD j 0)).wf = true := u8_app HP8.out HR2.out.fits
   obtain ⟨a3, c3, rfl, hr3⟩ := Ri.own ho3' hpt
   have HRE := hid (read_pk a3 c3 (P ++ ts) W3 hr3 (by rw [List.length_append, ← HPL.out, ← HLT.out]; omega) (HL.out.later (Bn HB1.out V3.out)))
   unfold RedPost at HRE
   rw [HRD.out] at HRE
   generalize (P ++ ts).length = PT at *
   clear ho3 ho3' hb3 O2 A2 S2 N2 V2 hpt hr3 HRD
   go_wp2_with fail
   refine HRE.out.mono ?_
   rintro _ W4 ⟨hb4, ⟨h, _⟩ | ⟨_, a4, c4, rfl, hr4⟩⟩
   · exact absurd rfl h
   have V4 := hid (Bn V3.out hb4)
   have I4 := hid hr4
   have HHP := hid (head_pk a1 c1 P W4 (HI1.out.later V4.out))
   rw [HHD.out, ← HPL.out] at HHP
   dsimp only at HHP ⊢
   rw [← HLE.out]
   clear hb4 hr4 HRE V3 HHD
   go_wp2_with fail
   refine HHP.out.mono ?_
   rintro _ W5 ⟨rfl, hb5⟩
   have V5 := hid (Bn V4.out hb5)
   have I5 := hid (I4.out.later hb5)
   have E5 := hid (heap_alc W5 (.cells (u8A z32) 37))
   have B5 := hid (bel_alc W5 (.cells (u8A z32) 37))
   have HZ37 : Hid ((u8A z32).size = 32) := rfl
   have E6 : Hid (((W5.alloc (.cells (u8A z32) 37)).setRow W5.heap.size (u8A d)).heap[W5.heap.size]? = some (.cells (u8A d) 37)) := setRow_heap _ _ _ _ _ _ E5.out
   have V6 : Hid (Below W5.heap.size W5 ((W5.alloc (.cells (u8A z32) 37)).setRow W5.heap.size (u8A d))) := below_setRow B5.out (Nat.le_refl _) _
   clear hb5 HHP V4 I4
   go_wp2_with (first
     | (refine wpList_alloc_at rfl 37 rfl (some 10) rfl (u8A z32) Tryz.zero37p W5.heap.size rfl ?_)
     | (refine wpList_store_rowTo rfl 37 _ _ rfl rfl W5.heap.size (u8A d) rfl rfl 37 _ E5.out (by rw [u8A_size, HDL.out]; exact Tryz.size37p) (by rw [HZ37.out, u8A_size, HDL.out]) (u8A_one _) ?_))
   clear E5 B5 HZ37
   have V7 := hid (Bn (Bn HB1.out V5.out) V6.out)
   have I7 := hid (I5.out.later V6.out)
   have HG : Hid (W5.heap.size < ((W5.alloc (.cells (u8A z32) 37)).setRow W5.heap.size (u8A d)).heap.size) := (Array.getElem?_eq_some_iff.1 E6.out).1
   generalize (W5.alloc (.cells (u8A z32) 37)).setRow W5.heap.size (u8A d) = W7 at *
   generalize W5.heap.size = g at *
   have HT1 : Hid (∀ V, Below W7.heap.size W7 V → (convert 22 9 (.slice a4 L c4)).run Tryz.prog V = .ok (.string (strOfNums bs)) V) := fun V hV => by rw [HLE.out]; exact I7.out.text V hV
   have HT2 : Hid (∀ V, Below W7.heap.size W7 V → (convert 22 9 (.slice (some ⟨b, off, none⟩) L c0)).run Tryz.prog V = .ok (.string (strOfNums bs)) V) := fun V hV => by rw [HLE.out]; exact HR1.out.text V (Bn V7.out hV)
   have HLD : Hid (∀ V, Below W7.heap.size W7 V → (loadVar 37 ⟨g, 0, none⟩).run Tryz.prog V = .ok (.agg (u8A d)) V) := fun V hV =>
     run_loadVar_row V g 37 37 (u8A d) (0, 0) _ ((hV.block _ HG.out).trans E6.out) Tryz.underlying37 rfl (by rw [u8A_size, HDL.out]; exact Tryz.size37p)
   have HEQ : Hid (∀ V, (Op.equalIn 10000 37 (.agg (u8A d)) (.agg (u8A d))).run Tryz.prog V = .ok true V) := fun V => by
     have := eq37 d d HDL.out HDL.out V
     rwa [decide_eq_true rfl] at this
   have HSM : Hid (∀ V, Below W7.heap.size W7 V → Calls Tryz.prog 21 #[.slice (some ⟨V.heap.size, 0, none⟩) 1 1] (V.alloc (.cells #[.slice (some ⟨b, off, none⟩) L c0] 22)) fun e w' => e = .returned (.agg (u8A d)) ∧ Below V.heap.size V w') := fun V hV => HPS.out V (Bn V7.out hV)
   have HAL7 : Hid (∀ V, Below W7.heap.size W7 V → Calls Tryz.prog 15 #[] V fun e w' => e = .returned (.bool true) ∧ Below V.heap.size V w') := fun V hV => HAL.out V (Bn V7.out hV)
   clear HAL HPS HR1 I7 I5 V5 V6 E6 HG HI1
   have HAL := HAL7
   clear HAL7
   generalize strOfNums bs = st at *
   have HSS : Hid ((st.toList == st.toList) = true) := by show _ = _; simp
   refine wp_region_held_drew (S := fun V => Below W7.heap.size W7 V) (by kernel_rfl) (Below.refl _ _).drew (fun hS0 => ?_)
   generalize W7.drew = v0 at *
   simp only [List.size_toArray, List.length_cons, List.length_nil, Nat.reduceAdd]
   refine Ord.tk (i := 0) (d := 51) (v := ?vA0) rfl rfl ?hA0 (by assumption) ?_
   case hA0 => intro w hSw; go_simp; try with_reducible rfl
   simp only [Ord.s1, Ord.s2, Ord.s3]
   refine Ord.tk (i := 1) (d := 52) (v := ?vA1) rfl rfl ?hA1 (by assumption) ?_
   case hA1 => intro w hSw; go_simp; try with_reducible rfl
   simp only [Ord.s1, Ord.s2, Ord.s3]
   refine Ord.tk (i := 2) (d := 53) (v := ?vA2) rfl rfl ?hA2 (by assumption) ?_
   case hA2 => intro w hSw; go_simp; try with_reducible rfl
   simp only [Ord.s1, Ord.s2, Ord.s3]
   refine Ord.tk (i := 3) (d := 54) (v := ?vA3) rfl rfl ?hA3 (by assumption) ?_
   case hA3 => intro w hSw; go_simp; try with_reducible rfl
   simp only [Ord.s1, Ord.s2, Ord.s3]
   refine Ord.tk (i := 4) (d := 55) (v := ?vA4) rfl rfl ?hA4 (by assumption) ?_
   case hA4 => intro w hSw; go_simp; try with_reducible rfl
   simp only [Ord.s1, Ord.s2, Ord.s3]
   refine Ord.tk (i := 5) (d := 56) (v := ?vA5) rfl rfl ?hA5 (by assumption) ?_
   case hA5 => intro w hSw; go_simp; try with_reducible rfl
   simp only [Ord.s1, Ord.s2, Ord.s3]
   refine Ord.tk (i := 6) (d := 57) (v := ?vA6) rfl rfl ?hA6 (by assumption) ?_
   case hA6 => intro w hSw; go_simp; try with_reducible rfl
   simp only [Ord.s1, Ord.s2, Ord.s3]
   refine Ord.tk (i := 7) (d := 58) (v := ?vA7) rfl rfl ?hA7 (by assumption) ?_
   case hA7 => intro w hSw; go_simp; try with_reducible rfl
   simp only [Ord.s1, Ord.s2, Ord.s3]
   refine Ord.tk (i := 8) (d := 59) (v := .string st) rfl rfl ?hA8 (by assumption) ?_
   case hA8 => intro w hSw; have q := HT1.out w hSw; go_simp; try with_reducible rfl
   simp only [Ord.s1, Ord.s2, Ord.s3]
   refine Ord.tk (i := 9) (d := 60) (v := ?vA9) rfl rfl ?hA9 (by assumption) ?_
   case hA9 => intro w hSw; go_simp; try with_reducible rfl
   simp only [Ord.s1, Ord.s2, Ord.s3]
   refine Ord.tk (i := 10) (d := 61) (v := .string st) rfl rfl ?hA10 (by assumption) ?_
   case hA10 => intro w hSw; have q := HT2.out w hSw; go_simp; try with_reducible rfl
   simp only [Ord.s1, Ord.s2, Ord.s3]
   refine Ord.tk (i := 11) (d := 62) (v := .bool true) rfl rfl ?hA11 (by assumption) ?_
   case hA11 => intro w hSw; have q := HSS.out; go_simp; try with_reducible rfl
   simp only [Ord.s1, Ord.s2, Ord.s3]
   refine Ord.tk (i := 12) (d := 63) (v := ?vA12) rfl rfl ?hA12 (by assumption) ?_
   case hA12 => intro w hSw; go_simp; try with_reducible rfl
   simp only [Ord.s1, Ord.s2, Ord.s3]
   refine Ord.tk (i := 13) (d := 64) (v := ?vA13) rfl rfl ?hA13 (by assumption) ?_
   case hA13 => intro w hSw; go_simp; try with_reducible rfl
   simp only [Ord.s1, Ord.s2, Ord.s3]
   refine Ord.tk (i := 14) (d := 65) (v := ?vA14) rfl rfl ?hA14 (by assumption) ?_
   case hA14 => intro w hSw; go_simp; try with_reducible rfl
   simp only [Ord.s1, Ord.s2, Ord.s3]
   refine Ord.tk (i := 15) (d := 66) (v := ?vA15) rfl rfl ?hA15 (by assumption) ?_
   case hA15 => intro w hSw; go_simp; try with_reducible rfl
   simp only [Ord.s1, Ord.s2, Ord.s3]
   refine Ord.tk (i := 16) (d := 67) (v := .bool true) rfl rfl ?hA16 (by assumption) ?_
   case hA16 => intro w hSw; go_simp; try with_reducible rfl
   simp only [Ord.s1, Ord.s2, Ord.s3]
   refine Ord.tk (i := 17) (d := 68) (v := ?vA17) rfl rfl ?hA17 (by assumption) ?_
   case hA17 => intro w hSw; go_simp; try with_reducible rfl
   simp only [Ord.s1, Ord.s2, Ord.s3]
   refine Ord.tk (i := 18) (d := 69) (v := ?vA18) rfl rfl ?hA18 (by assumption) ?_
   case hA18 => intro w hSw; go_simp; try with_reducible rfl
   simp only [Ord.s1, Ord.s2, Ord.s3]
   refine Ord.tk (i := 19) (d := 70) (v := ?vA19) rfl rfl ?hA19 (by assumption) ?_
   case hA19 => intro w hSw; go_simp; try with_reducible rfl
   simp only [Ord.s1, Ord.s2, Ord.s3]
   refine Ord.tk (i := 20) (d := 71) (v := .int .i64 (PL : Int)) rfl rfl ?hA20 (by assumption) ?_
   case hA20 => intro w hSw; have q := HQW.out; go_simp; try with_reducible rfl
   simp only [Ord.s1, Ord.s2, Ord.s3]
   refine Ord.tk (i := 21) (d := 72) (v := ?vA21) rfl rfl ?hA21 (by assumption) ?_
   case hA21 => intro w hSw; go_simp; try with_reducible rfl
   simp only [Ord.s1, Ord.s2, Ord.s3]
   refine Ord.tk (i := 22) (d := 73) (v := ?vA22) rfl rfl ?hA22 (by assumption) ?_
   case hA22 => intro w hSw; go_simp; try with_reducible rfl
   simp only [Ord.s1, Ord.s2, Ord.s3]
   refine Ord.tk (i := 23) (d := 74) (v := .bool true) rfl rfl ?hA23 (by assumption) ?_
   case hA23 => intro w hSw; go_simp; try with_reducible rfl
   simp only [Ord.s1, Ord.s2, Ord.s3]
   refine Ord.tk (i := 24) (d := 75) (v := ?vA24) rfl rfl ?hA24 (by assumption) ?_
   case hA24 => intro w hSw; go_simp; try with_reducible rfl
   simp only [Ord.s1, Ord.s2, Ord.s3]
   refine Ord.tk (i := 25) (d := 76) (v := ?vA25) rfl rfl ?hA25 (by assumption) ?_
   case hA25 => intro w hSw; go_simp; try with_reducible rfl
   simp only [Ord.s1, Ord.s2, Ord.s3]
   refine Ord.tk (i := 26) (d := 77) (v := .agg (u8A d)) rfl rfl ?hA26 (by assumption) ?_
   case hA26 => intro w hSw; exact (exec_load 37 (.tmp 10) rfl g 0 rfl (HLD.out w hSw))
   simp only [Ord.s1, Ord.s2, Ord.s3]
   refine Ord.tk (i := 27) (d := 78) (v := ?vA27) rfl rfl ?hA27 (by assumption) ?_
   case hA27 => intro w hSw; go_simp; try with_reducible rfl
   simp only [Ord.s1, Ord.s2, Ord.s3]
   refine wpAnyH_ready (rs := [28]) (by as_aux_lemma => kernel_rfl) (by simp) (AllReadyH.cons rfl (fun K hK => ?_) AllReadyH.nil)
   go_simp
   have hS1 := hS0.alloc hS0.size (.cells #[.slice (some ⟨b, off, none⟩) L c0] 22)
   refine hK.out _ _ hS1 (fun _ => ?_)
   clear hK K
   try simp only [Ord.s1, Ord.s2, Ord.s3]
   refine wpAnyH_ready (rs := [29]) (by as_aux_lemma => kernel_rfl) (by simp) (AllReadyH.cons rfl (fun K hK => ?_) AllReadyH.nil)
   go_simp
   refine (HSM.out v0 hS0).mono ?_
   rintro _ v2 ⟨rfl, hb2⟩
   have hS2 := Bn hS0 hb2
   refine hK.out _ _ hS2 (fun _ => ?_)
   clear hK K hb2
   try simp only [Ord.s1, Ord.s2, Ord.s3]
   refine Ord.tk (i := 30) (d := 81) (v := .bool true) rfl rfl ?hA30 (by assumption) ?_
   case hA30 => intro w hSw; exact (run_eql_op rfl rfl rfl guard37 (HEQ.out w))
   simp only [Ord.s1, Ord.s2, Ord.s3]
   refine Ord.tk (i := 31) (d := 82) (v := ?vA31) rfl rfl ?hA31 (by assumption) ?_
   case hA31 => intro w hSw; go_simp; try with_reducible rfl
   simp only [Ord.s1, Ord.s2, Ord.s3]
   refine Ord.tk (i := 32) (d := 83) (v := ?vA32) rfl rfl ?hA32 (by assumption) ?_
   case hA32 => intro w hSw; go_simp; try with_reducible rfl
   simp only [Ord.s1, Ord.s2, Ord.s3]
   refine wpAnyH_ready (rs := [33]) (by as_aux_lemma => kernel_rfl) (by simp) (AllReadyH.cons rfl (fun K hK => ?_) AllReadyH.nil)
   go_simp
   refine (HAL.out v2 hS2).mono ?_
   rintro _ v3 ⟨rfl, hb3⟩
   have hS3 := Bn hS2 hb3
   refine hK.out _ _ hS3 (fun _ => ?_)
   clear hK K hb3
   try simp only [Ord.s1, Ord.s2, Ord.s3]
   refine Ord.tk (i := 34) (d := 85) (v := ?vA34) rfl rfl ?hA34 (by assumption) ?_
   case hA34 => intro w hSw; go_simp; try with_reducible rfl
   simp only [Ord.s1, Ord.s2, Ord.s3]
   refine Ord.tk (i := 35) (d := 4) (v := ?vA35) rfl rfl ?hA35 (by assumption) ?_
   case hA35 => intro w hSw; go_simp; try with_reducible rfl
   simp only [Ord.s1, Ord.s2, Ord.s3]
   refine wpAnyH_done (by as_aux_lemma => kernel_rfl) ?_ _
   have HB9 := hid (Bn V7.out hS3)
   go_wp2_with fail
   go_ret
   exact ⟨rfl, HB9.out⟩

set_option maxRecDepth 100000 in
theorem lifted (os : Os) (started : os.Started) (H : Type) (enc : TypeId × Value → H) :
   ReturnsInHanded {} Tryz.checked os 6 .any (fun w args => (Rows.packBackSpec.pre enc Tryz.prog Tryz.f6 [] false w args ∧ laidMetH Tryz.prog laidL w) ∧ sizedMet enc Tryz.prog Tryz.f6 (OpenSpec.ofChange Rows.packBackSpec) false w args)
     (Rows.packBackSpec.post enc Tryz.prog Tryz.f6 false true false false) := by
 refine returnsInHanded_of_change_and (C := Tryz.checked) (X := fun w _ => laidMetH Tryz.prog laidL w) (fun _ _ _ hh h => h.of_heap hh) own started (by kernel_rfl) Tryz.func6
   (ChangeSpec.witness_shaped (enc := enc) (C := Tryz.checked) (os := os) (X := fun w _ => laidMetH Tryz.prog laidL w) false (World.doorLaid Tryz.prog 400 os) #[.slice none 0 0, .slice none 0 0] 8 rfl (World.shaped_of_RefB (by kernel_rfl) (by kernel_rfl)) (by kernel_rfl) (by kernel_rfl) (by kernel_rfl) (door_met os _)) ?_
 intro W base args ds gs before hval0 hW _ _ hL _
 have hval : ∀ (j : Nat) t v, Tryz.f6.params[j]? = some t → args[j]? = some v → Value.okWide Tryz.prog W .any base t v := hval0
 have hW' := hW
 obtain ⟨p, q, hA0, hV, rfl, _, _⟩ := hW
 have hA : DataW.TrodAll enc Tryz.prog W 0 (fun _ => true) true Tryz.f6.params.toList args.toList ds p := hA0
 rw [Tryz.params6] at hA hval
 obtain ⟨v0, vs0, d0, ds0, p0, q0, hargs, rfl, rfl, h0, r0⟩ := trodAll_cons hA
 obtain ⟨v1, vs1, d1, ds1, p1, q1, rfl, rfl, rfl, h1, r1⟩ := trodAll_cons r0
 obtain ⟨rfl, rfl, rfl⟩ := trodAll_nil r1
 obtain rfl : args = #[v0, v1] := by cases args; simp_all
 obtain ⟨rfl, rfl⟩ := trodVars_none hV
 have hlaid := of_laid hL
 clear hA0
 simp only [List.append_nil] at hW'
 have hlt0 : ∀ x ∈ p0, x.block < W.heap.size := fun x hx => hW'.lt x (by simp [hx])
 have hk0 := h0
 obtain ⟨a0, cap0, l0, rfl, hr0⟩ := open_ri Tryz.underlying22 Tryz.underlying5 Tryz.cells5 (hval 0 22 v0 rfl rfl) h0 hlt0
 have hlt1 : ∀ x ∈ p1, x.block < W.heap.size := fun x hx => hW'.lt x (by simp [hx])
 have hk1 := h1
 obtain ⟨a1, cap1, l1, rfl, hr1⟩ := open_ri Tryz.underlying22 Tryz.underlying5 Tryz.cells5 (hval 1 22 v1 rfl rfl) h1 hlt1
 clear hval0
 refine (walk a0 cap0 l0 a1 cap1 l1 W hlaid hr0 hr1).mono fun e W' ⟨he, hb⟩ => ?_
 subst he
 exact ⟨_, rfl, _, _, _, [] ++ [], _, [], hW', trodAll_cons_mk (shut_bool Tryz.underlying4 _) trodAll_mk0, (trodAll_cons_mk (Below.trod Tryz.laidOut (by kernel_rfl) (of_decide_eq_true (by kernel_rfl)) hk0 hb hlt0) (trodAll_cons_mk (Below.trod Tryz.laidOut (by kernel_rfl) (of_decide_eq_true (by kernel_rfl)) hk1 hb hlt1) trodAll_mk0)), rfl, hb.frame _, fun h => by cases h⟩

theorem over : Rows.packBackRow.holds Tryz.pinned (OpenSpec.ofChange Rows.packBackSpec) :=
 OpenClaim.holds_of_wide 6 Tryz.f6 rfl rfl rfl rfl rfl rfl rfl ⟨rfl, rfl, rfl, rfl, rfl⟩ rfl rfl rfl rfl rfl (by kernel_rfl) Tryz.func6 (by kernel_rfl)
   (of_decide_eq_true (by kernel_rfl)) (by unfold Func.isWrapper; first | (rw [if_pos (by decide +kernel)]; kernel_rfl) | (rw [if_neg (by decide +kernel)]; exact ⟨rfl, rfl⟩))
   (fun os started H enc _ => lifted os started H enc)

theorem card : Rows.PackBackCardSaid :=
 Claim7.holds_tied_plain_at .later [] [.data, .data] true (true, "633fa4ac238961f8ea75229e9571942cafb5f99988f42aab7627898757faa6c6") true
   over (fun _ h => by cases h) (by kernel_rfl) (fun _ h => by cases h) packBack_row_tie rfl ⟨rfl, rfl⟩ (by kernel_rfl) rfl
   (fun f fn hf hfn => by
     obtain rfl : f = 6 := Option.some.inj ((show Tryz.prog.funcNamed "saltern/salternlaw11.PackBack" = some 6 by kernel_rfl).symm.trans hf) |>.symm
     obtain rfl : fn = Tryz.f6 := (Option.some.inj (Tryz.func6.symm.trans hfn)).symm
     exact ⟨by kernel_rfl, fun j t ht => by
       rw [Tryz.params6] at ht
       have hm : t ∈ [22, 22] := by simpa using Array.mem_of_getElem? ht
       have hall : ([22, 22].all fun u => !Tryz.prog.wantsStandIn u) = true := by kernel_rfl
       exact (show Tryz.prog.wantsStandIn t = false by simpa using List.all_eq_true.1 hall t hm)⟩)
   (by kernel_rfl)

end Go.Proofs.YtibjlbcnapoblaaGreatDoor.packBack
namespace Go.Proofs.YtibjlbcnapoblaaGreatDoor
theorem packBack_holds : Rows.PackBackCardSaid := packBack.card
#print axioms packBack_holds
end Go.Proofs.YtibjlbcnapoblaaGreatDoor
