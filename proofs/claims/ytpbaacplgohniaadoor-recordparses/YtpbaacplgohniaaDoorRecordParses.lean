/-
  RecordParses is proved for every input, as a tied card: the record of any bytes, or the error, is what the document says; no condition but that the tables of package sha start as the text lays them. The document's Parse, at any bytes; both Parses side by side. The document's Parse, by the kind: two.
-/
import Derived.Test.YtpbaacplgohniaaDoorRcDg
import Derived.Test.YtpbaacplgohniaaDoorRcBg
import Derived.Test.YtpbaacplgohniaaDoorRcV
import Derived.Test.YtpbaacplgohniaaDoorRcQ
import Derived.Test.YtpbaacplgohniaaDoorRcY
namespace Go.Proofs.YtpbaacplgohniaaDoor
open Go.ChangeShapes Go.WideShapes Go.ChangeAt Go.RowKit Go.Deep

set_option maxHeartbeats 16000000 in
set_option maxRecDepth 100000 in
theorem dparse_two (a : Option Addr) (cap : Nat) (zs : List Int) (w : World) (hr : Ri w .u8 a cap zs) (hl : zs.length ≤ 262144) (hkk : (byteQ (byteQ (zs, false)).2).1 = 2) :
    Calls Tryd.prog 24 #[.slice a zs.length cap] w (DocF zs w) := by
  have HZR := hid hr
  have HKK := hid hkk
  clear hkk
  have s1 : (w.alloc (.cells recZ.cs.toArray 27)).heap.size = w.heap.size + 1 := by simp
  have b1 := bel_alc w (.cells recZ.cs.toArray 27)
  have b2 := bel_alc (w.alloc (.cells recZ.cs.toArray 27)) (.cells #[.slice a zs.length cap, .bool false] 93)
  have e0 := heap_old _ (.cells #[.slice a zs.length cap, .bool false] 93) (heap_alc w (.cells recZ.cs.toArray 27))
  have e1 := heap_alc (w.alloc (.cells recZ.cs.toArray 27)) (.cells #[.slice a zs.length cap, .bool false] 93)
  rw [s1] at e1
  have bb := Bn b1 b2
  obtain ⟨W0, hW0⟩ : ∃ W, W = (w.alloc (.cells recZ.cs.toArray 27)).alloc (.cells #[.slice a zs.length cap, .bool false] 93) := ⟨_, rfl⟩
  rw [← hW0] at e0 e1 bb
  have HE0 := hid e0
  have HQ0 : Hid (Rq w W0 (w.heap.size + 1) (zs, false)) := ⟨⟨a, cap, e1, hr⟩, bb, by omega⟩
  have HW0 := hid hW0
  have HS1 := hid s1.symm
  obtain ⟨PP, hPP⟩ : ∃ P : Ending → World → Prop, P = DocF zs w := ⟨_, rfl⟩
  have HPP := hid hPP
  rw [← hPP]
  have hl2 : ¬ ((262144 : Int) < (zs.length : Int)) := by omega
  have hl3 : decide ((262144 : Int) < (zs.length : Int)) = false := decide_eq_false hl2
  have hl4 : decide (262144 < zs.length) = false := decide_eq_false (by omega)
  have hmost := hr.most
  have hroom := hr.room
  unfold maxLen at hmost
  clear hr b1 b2 e0 e1 bb s1 hW0 hl hPP
  go_enter Tryd.func24, Tryd.ntmps24
  go_wp2_with (first | refine wpList_alloc_at rfl 27 rfl (some 2) rfl _ Tryd.zero27 w.heap.size rfl ?_ | fail)
  rw [← HW0.out]
  clear HW0 hl2 hl3 hl4 hmost hroom HS1
  have HG1 : Hid (w.heap.size < w.heap.size + 1) := Nat.lt_succ_self _
  generalize w.heap.size + 1 = g at *
  refine (dbyte_word w W0 g (zs, false) HQ0.out).mono ?_
  rintro _ V1 ⟨rfl, hq1, hb1, _, _⟩
  have HE1 : Hid (V1.heap[w.heap.size]? = some (.cells recZ.cs.toArray 27)) := (hb1.same _ (Array.getElem?_eq_some_iff.1 HE0.out).1 (by have := HG1.out; omega)).trans HE0.out
  have HQ1 := hid hq1
  clear hq1 hb1 HE0 HQ0
  go_wp2_with fail
  refine (dbyte_word w V1 g (byteQ (zs, false)).2 HQ1.out).mono ?_
  rintro _ V2 ⟨rfl, hq2, hb2, hk0, hk1⟩
  have HE2 : Hid (V2.heap[w.heap.size]? = some (.cells recZ.cs.toArray 27)) := (hb2.same _ (Array.getElem?_eq_some_iff.1 HE1.out).1 (by have := HG1.out; omega)).trans HE1.out
  have HDC : Hid (docX zs = docT (byteQ (byteQ (zs, false)).2).1 (numQ (byteQ (byteQ (zs, false)).2).2).1 (numQ (numQ (byteQ (byteQ (zs, false)).2).2).2).1 (takeQ 32 (numQ (numQ (byteQ (byteQ (zs, false)).2).2).2).2).1 (takeQ 32 (numQ (numQ (byteQ (byteQ (zs, false)).2).2).2).2).2) := rfl
  generalize byteQ (byteQ (zs, false)).2 = T at *
  obtain ⟨k, S2⟩ := T
  dsimp only at *
  have HKB := hid (And.intro hk0 hk1)
  have hbx := bel_alc V2 (.cells ({ recZ with kind := k } : Rec).cs.toArray 27)
  have K3 : Hid (Dk w (V2.alloc (.cells ({ recZ with kind := k } : Rec).cs.toArray 27)) g V2.heap.size { recZ with kind := k } S2) := ⟨heap_old _ _ HE2.out, Bx.mk' V2 _ rfl, hq2.later hbx, HG1.out, hq2.lt⟩
  obtain ⟨X3, hX3⟩ : ∃ X, X = V2.alloc (.cells ({ recZ with kind := k } : Rec).cs.toArray 27) := ⟨_, rfl⟩
  have HX3 := hid hX3
  rw [← hX3] at K3
  obtain ⟨RK, hRK⟩ : ∃ RK : Rec, RK = { recZ with kind := k } := ⟨_, rfl⟩
  have HRK := hid hRK
  have HBK := hid (built27K k)
  rw [← hRK] at HBK HX3
  have HKL : Hid (RK.prev.length = 32) := by rw [hRK]; rfl
  clear hk0 hk1 hbx hX3 hq2 hb2 HQ1 HE1 HE2 hRK
  go_wp2_with (first | refine wpList_buildTo rfl 27 _ rfl (some 22) rfl RK.cs.toArray (Eq.trans (congrArg (Tryd.prog.built 27) (by simp only [List.map_toArray, List.map_cons, List.map_nil]; rfl)) HBK.out) ?_ | refine wpList_alloc_at rfl 27 rfl (some 5) rfl _ Tryd.zero27 V2.heap.size rfl ?_ | refine wpList_store_asD rfl 27 _ _ rfl rfl V2 recZ.cs.toArray RK.cs.toArray rfl rfl rfl (size_recs HKL.out) (by rw [Rec.cs_size HKL.out]; rfl) (all_oneCell_toArray (Rec.cs_one _)) X3 HX3.out ?_ | fail)
  clear HX3 HBK HKL HRK
  generalize V2.heap.size = hx at *
  refine K3.out.num.mono ?_
  rintro _ V3 ⟨rfl, hk, _⟩
  have K4 := hid hk
  have c0 := K4.out.box.c0
  have u0 := K4.out.unf 0
  clear hk
  go_wp2_with fail
  have K4b := hid (K4.out.set (K4.out.box.setSeq (numQ S2).1))
  generalize V3.setCell ⟨hx, 0, none⟩ (.int .i64 (numQ S2).1) = X4 at *
  clear c0 u0 K4 K3
  have HS3 : Hid (∃ q, q = (numQ S2).2) := ⟨_, rfl⟩
  obtain ⟨S3, hS3⟩ := HS3.out
  rw [← hS3] at HDC K4b
  clear hS3 HS3
  refine K4b.out.num.mono ?_
  rintro _ V4 ⟨rfl, hk, _⟩
  have K5a := hid hk
  have c1 := K5a.out.box.c1
  have u1 := K5a.out.unf 1
  clear hk
  go_wp2_with fail
  have K5b := hid (K5a.out.set (K5a.out.box.setEpoch (numQ S3).1))
  generalize V4.setCell ⟨hx, 1, none⟩ (.int .i64 (numQ S3).1) = X5 at *
  clear c1 u1 K5a K4b
  obtain ⟨S4, hS4⟩ : ∃ q, q = (numQ S3).2 := ⟨_, rfl⟩
  rw [← hS4] at HDC K5b
  clear hS4
  refine K5b.out.dig.mono ?_
  rintro _ V5 ⟨rfl, hk, hd32, hdy, _⟩
  have K5c := hid hk
  generalize takeQ 32 S4 = T at *
  obtain ⟨D, S5⟩ := T
  dsimp only at *
  have HDL := hid hd32
  have HDY := hid hdy
  have HTH : Hid (V5.there hx 2 (u8A D).size) := by show World.there _ _ _ _; rw [u8A_size, HDL.out]; exact K5c.out.box.there
  have K5 := hid (K5c.out.setPrev D HDL.out)
  have c34 : (V5.setCells hx 2 (D.map (Value.int .u8))).cell? ⟨hx, 34, none⟩ = some (.int .i64 k) := K5.out.box.c34
  obtain ⟨X8, hX8⟩ : ∃ X, X = V5.setCells hx 2 (D.map (Value.int .u8)) := ⟨_, rfl⟩
  have HX8 := hid hX8
  rw [← hX8] at K5 c34
  clear hX8 hk hd32 hdy K5b
  have hk2 : k = 2 := HKK.out
  have hk1 : ¬ k = 1 := by omega
  have hke : (k == 1) = false := by rw [beq_eq_false_iff_ne]; exact hk1
  go_wp2_with (first | refine wpList_store_midTo rfl 23 _ _ rfl rfl hx 2 (u8A D) rfl rfl HTH.out (size_digB HDL.out) (u8A_one _) X8 HX8.out ?_ | fail)
  refine K5.out.byte.mono ?_
  rintro _ V6 ⟨rfl, hk, hx0, hx1⟩
  have K6 := hid hk
  obtain ⟨n, hn⟩ := Int.eq_ofNat_of_zero_le hx0
  have HNB := hid hn
  rw [hn] at hx1 ⊢
  have hn3 : n ≤ 255 := by omega
  clear hk hx0 hn
  go_wp2_with fail
  refine (K6.out.tk (n := n) (by omega)).mono ?_
  rintro _ V7 ⟨a7, c7, rfl, hi7, hk⟩
  have K7 := hid hk
  have HPL : Hid ((takeQ n (byteQ S5).2).1.length ≤ 255) := by show _ ≤ _; rw [takeQ_len n _ (by omega)]; exact hn3
  have HPQ : Hid (pthQ S5 = takeQ n (byteQ S5).2) := by show _ = _; unfold pthQ; rw [HNB.out, Int.toNat_natCast]
  have ht := hi7.text V7 (Below.refl _ _)
  clear hk hi7 hx1 hn3 HNB
  generalize takeQ n (byteQ S5).2 = T at *
  obtain ⟨PL, S6⟩ := T
  dsimp only at *
  have HPL0 := hid HPL.out
  generalize PL.length = LP at ht HPL ⊢
  generalize hPS : strOfNums PL = PS at ht
  have HPS := hid hPS
  clear hPS
  have c36 := K7.out.box.c36
  have u36 := K7.out.unf 36
  have K8 := hid (K7.out.set (K7.out.box.setPath PS))
  have c34 : (V7.setCell ⟨hx, 36, none⟩ (.string PS)).cell? ⟨hx, 34, none⟩ = some (.int .i64 k) := K8.out.box.c34
  have HPL2 : Hid (PL.length ≤ 255) := HPL0.out
  subst hk2
  have hkz2 : ((2 : Int) == 2) = true := rfl
  go_wp2_with fail
  generalize V7.setCell ⟨hx, 36, none⟩ (.string PS) = X9 at *
  refine K8.out.num.mono ?_
  rintro _ V9 ⟨rfl, hk, _⟩
  have K9 := hid hk
  have hnr := numQ_rng S6
  obtain ⟨M, hM⟩ := Int.eq_ofNat_of_zero_le hnr.1
  have HMN := hid hM
  have hMb : M ≤ 1073741824 := by have := hnr.2; omega
  have hMi : (M : Int) ≤ 1073741824 := by omega
  rw [hM]
  obtain ⟨S7, hS7⟩ : ∃ q, q = (numQ S6).2 := ⟨_, rfl⟩
  have HS7 := hid hS7
  rw [← hS7] at K9
  have HHX : Hid (hx < V9.heap.size) := K9.out.box.lt
  obtain ⟨i0, hi, hz0, hz1, hz2⟩ := info_parts Tryd.info76
  clear hk hnr hM hS7 c34 c36 u36 K8 ht
  go_wp2
  go_loopw [7] (fun x7 wr => ∃ (i : Nat) (l : List Pc) (s' : St) (pa : Option Addr) (pc : Nat), i ≤ M ∧ i ≤ 4097 ∧ x7 = .int .i64 (i : Int) ∧ Hid (l.length = i) ∧ Hid (wr.ownsRow V9.heap.size 76 33 (.slice pa l.length pc) l.length (l.flatMap pcC)) ∧ Hid (∀ x ∈ l, PcOk x) ∧ Hid (Dk w wr g hx { recZ with kind := 2, seq := (numQ S2).1, epoch := (numQ S3).1, prev := D, path := PS, ps := l, a := pa, cap := pc } s') ∧ Hid (lpQ (min M 4097) S7 = (l ++ (lpQ (min M 4097 - i) s').1, (lpQ (min M 4097 - i) s').2)) ∧ Hid (V9.heap.size ≤ wr.heap.size)) (fun x7 _ => 4097 - (intOf x7).toNat)
  case atStart => exact ⟨0, [], S7, none, 0, by omega, by omega, rfl, rfl, World.ownsRow_nil _ _ _ _, (fun x hx => by cases hx), K9.out, by show _ = _; rw [Nat.sub_zero, List.nil_append], Nat.le_refl _⟩
  case round =>
    obtain ⟨i, l, s', pa, pc, hiM, hi4, rfl, HLI, HO, HOK, KL, HLP, HSZ⟩ := hrel
    obtain ⟨ca, cc, hcb, _⟩ := KL.out.rq.blk
    have c1 : wr.cell? ⟨g, 1, none⟩ = some (.bool s'.2) := (Joins.cell_of_block hcb 1).trans rfl
    clear hcb
    have HLQ : Hid (lpQ (min M 4097) (numQ S6).2 = (l ++ (lpQ (min M 4097 - i) s').1, (lpQ (min M 4097 - i) s').2)) := by rw [← HS7.out]; exact HLP.out
    by_cases hltM : i < M
    · have hz1M : (i : Int) < (M : Int) := by omega
      by_cases hlt4 : i ≤ 4096
      · have hz4 : (i : Int) ≤ 4096 := by omega
        cases hbd : s'.2 with
        | true =>
          have HB9 := hid hbd
          have HLF : Hid (lpQ (min M 4097 - i) s' = ([], s')) := lp_bad _ _ hbd
          rw [hbd] at c1
          clear hbd
          clear hi hz0 hz1 hz2 hMb hMi HSZ HLP HLI
          obtain ⟨a5, c5, hv5, hr5, hg5⟩ := Rp.own HO.out HOK.out
          have hv6 := hv5
          injection hv6 with hv7 hv8 hv9
          subst hv7 hv9
          clear hv5 hv8
          have HRP := hid hr5
          have HRG : Hid (∀ b off, pa = some ⟨b, off, none⟩ → b ≠ w.heap.size) := fun b off q => by have := hg5 b off q; have h1 := KL.out.l1; have h2 := KL.out.l2; have h3 := HHX.out; omega
          clear hr5 hg5
          obtain ⟨RR, hRR⟩ : ∃ RR : Rec, RR = { recZ with kind := 2, seq := (numQ S2).1, epoch := (numQ S3).1, prev := D, path := PS, ps := l, a := pa, cap := pc } := ⟨_, rfl⟩
          have HRQ := hid hRR
          have HRV : Hid (Rv wr RR) := by
            rw [HRQ.out]
            exact ⟨HDL.out, get_u8 (fun z hz => wf_mk_u8 (HDY.out z hz).1 (HDY.out z hz).2), wf_mk_i64 (by have := (numQ_rng S2).1; show (_ : Int) ≤ (numQ S2).1; omega) (by have := (numQ_rng S2).2; show (numQ S2).1 ≤ _; omega), wf_mk_i64 (by have := (numQ_rng S3).1; show (_ : Int) ≤ (numQ S3).1; omega) (by have := (numQ_rng S3).2; show (numQ S3).1 ≤ _; omega), wf_mk_i64 (by show (_ : Int) ≤ (2 : Int); have := HKB.out.1; omega) (by show (2 : Int) ≤ _; have := HKB.out.2; omega), rfl, (by rw [← HPS.out, str_size]; have := HPL2.out; unfold maxLen; omega), HRP.out⟩
          clear hRR
          have KLx : Hid (Dk w wr g hx RR s') := by rw [HRQ.out]; exact KL.out
          have HDX : Hid (docX zs = (⟨(numQ S2).1, (numQ S3).1, D, 2, 0, PS, none, 0, l⟩, s')) := HDC.out.trans (by unfold docT; rw [if_neg (by decide), if_pos rfl, HPQ.out, HPS.out]; dsimp only; rw [HMN.out, Int.toNat_natCast, HLQ.out, HLF.out]; dsimp only; rw [List.append_nil])
          have HDBY := hid (dbytes_word RR wr HRV.out)
          have HMM : Hid (mayB RR = mayB ⟨(numQ S2).1, (numQ S3).1, D, 2, 0, PS, none, 0, l⟩) := by rw [HRQ.out]; rfl
          have HWW : Hid (wrB RR = wrB ⟨(numQ S2).1, (numQ S3).1, D, 2, 0, PS, none, 0, l⟩) := by rw [HRQ.out]; rfl
          have HXR := hid KLx.out.box.range
          have HRL := hid KLx.out.box.len
          go_wp2_with (first | refine wpList_load_g rfl 27 _ rfl hx 0 rfl RR.cs _ HXR.out Tryd.underlying27 rfl (by rw [Rec.cs_len HRL.out]; exact Tryd.size27) ?_ | fail)
          refine HDBY.out.mono ?_
          rintro _ X7 ⟨v7, rfl, hc7, hp7⟩
          have K7 := hid (KLx.out.later hc7)
          have HO7 := hid K7.out.out
          have HB7 := hid K7.out.rq.bel
          have HRV7 := hid (HRV.out.later hc7)
          have HX7 := hid K7.out.box.range
          clear hc7 HDBY HXR
          obtain ⟨ca, cc, hcb, _⟩ := K7.out.rq.blk
          have c1 : X7.cell? ⟨g, 1, none⟩ = some (.bool s'.2) := (Joins.cell_of_block hcb 1).trans rfl
          clear hcb
          cases hbad : s'.2 with
          | true =>
            have HBD := hid hbad
            rw [hbad] at c1
            clear hbad hp7
            go_wp2_with (first | refine wpList_buildTo rfl 27 _ rfl (some 96) rfl recZ.cs.toArray Tryd.built27 ?_ | refine wpList_store_rowTo rfl 27 _ _ rfl rfl w.heap.size recZ.cs.toArray rfl rfl 27 _ HO7.out (size_recs rfl) rfl (all_oneCell_toArray (Rec.cs_one _)) ?_ | fail)
            refine bodyPost_ret (results_row_tmp rfl _ _ w.heap.size _ rfl (load_recs (setRow_heap _ _ _ _ _ _ HO7.out) rfl)) rfl ?_
            rw [HPP.out]
            exact ⟨recZ, 130, rfl, below_setRow HB7.out (Nat.le_refl _) _, .inl ⟨docO_no HDX.out (fun q => by rw [HBD.out] at q; cases q.1), rfl, rfl⟩⟩
          | false =>
            have HBD := hid hbad
            rw [hbad] at c1
            clear hbad
            cases hm : mayB RR with
            | false =>
              have HM : Hid (mayB ⟨(numQ S2).1, (numQ S3).1, D, 2, 0, PS, none, 0, l⟩ = false) := HMM.out.symm.trans hm
              rw [show e130 false = 130 from rfl]
              clear hm hp7
              go_wp2_with (first | refine wpList_buildTo rfl 27 _ rfl (some 96) rfl recZ.cs.toArray Tryd.built27 ?_ | refine wpList_store_rowTo rfl 27 _ _ rfl rfl w.heap.size recZ.cs.toArray rfl rfl 27 _ HO7.out (size_recs rfl) rfl (all_oneCell_toArray (Rec.cs_one _)) ?_ | fail)
              refine bodyPost_ret (results_row_tmp rfl _ _ w.heap.size _ rfl (load_recs (setRow_heap _ _ _ _ _ _ HO7.out) rfl)) rfl ?_
              rw [HPP.out]
              exact ⟨recZ, 130, rfl, below_setRow HB7.out (Nat.le_refl _) _, .inl ⟨docO_no HDX.out (fun q => by rw [HM.out] at q; cases q.2.1), rfl, rfl⟩⟩
            | true =>
              have HM : Hid (mayB ⟨(numQ S2).1, (numQ S3).1, D, 2, 0, PS, none, 0, l⟩ = true) := HMM.out.symm.trans hm
              rw [hm] at hp7
              rw [show e130 true = 0 from rfl]
              rcases hp7 with ⟨q, _⟩ | ⟨_, ho7⟩
              · cases q
              have hw8 := get_u8 (wr_mem HRV7.out hm)
              obtain ⟨a7, c7, rfl, hr7⟩ := Ri.own ho7 hw8
              have ht1 := hr7.text X7 (Below.refl _ _)
              have ht2 := (HZR.out.later HB7.out).text X7 (Below.refl _ _)
              have hse := str_eq hw8 HZR.out.fits
              have HWE := hid HWW.out
              clear hm ho7 hr7
              by_cases hwz : wrB RR = zs
              · have HWZ := hid hwz
                rw [hwz] at ht1 hw8 hse ⊢
                clear hwz hse
                generalize strOfNums zs = SS at *
                generalize zs.length = LL at *
                go_wp2_with (first | refine wpList_load_g rfl 27 _ rfl hx 0 rfl RR.cs _ HX7.out Tryd.underlying27 rfl (by rw [Rec.cs_len HRL.out]; exact Tryd.size27) ?_ | refine wpList_store_rowTo rfl 27 _ _ rfl rfl w.heap.size RR.cs.toArray rfl rfl 27 _ HO7.out (size_recs HRL.out) (by rw [Rec.cs_size HRL.out]; rfl) (all_oneCell_toArray (Rec.cs_one _)) ?_ | fail)
                refine bodyPost_ret (results_row_tmp rfl _ _ w.heap.size _ rfl (load_recs (setRow_heap _ _ _ _ _ _ HO7.out) HRL.out)) rfl ?_
                rw [HPP.out]
                refine ⟨RR, 0, rfl, below_setRow HB7.out (Nat.le_refl _) _, .inr ⟨_, pa, pc, docO_yes HDX.out ⟨HBD.out, HM.out, HWE.out.symm.trans HWZ.out⟩, HRQ.out, rfl, ?_⟩⟩
                have hv := HRV7.out
                rw [HRQ.out] at hv ⊢
                exact ⟨hv.len, hv.u8, hv.seq, hv.epoch, hv.kind, hv.site, hv.path, hv.row.kept (fun b off q => other_setRow _ _ _ _ (HRG.out b off q))⟩
              · have HWZ := hid hwz
                have hq1 : ((strOfNums (wrB RR)).toList == (strOfNums zs).toList) = false := by rw [hse]; exact beq_eq_false_iff_ne.2 hwz
                have hq2 : ¬ (strOfNums (wrB RR)).toList = (strOfNums zs).toList := by
                  have := beq_eq_false_iff_ne.1 hq1
                  exact this
                have hq3 : ¬ strOfNums (wrB RR) = strOfNums zs := fun q => hq2 (by rw [q])
                clear hwz hse hw8
                generalize strOfNums (wrB RR) = S1 at *
                generalize strOfNums zs = SS at *
                generalize zs.length = LL at *
                generalize hWL : (wrB RR).length = L1 at *
                clear hWL
                go_wp2_with (first | refine wpList_buildTo rfl 27 _ rfl (some 96) rfl recZ.cs.toArray Tryd.built27 ?_ | refine wpList_store_rowTo rfl 27 _ _ rfl rfl w.heap.size recZ.cs.toArray rfl rfl 27 _ HO7.out (size_recs rfl) rfl (all_oneCell_toArray (Rec.cs_one _)) ?_ | fail)
                refine bodyPost_ret (results_row_tmp rfl _ _ w.heap.size _ rfl (load_recs (setRow_heap _ _ _ _ _ _ HO7.out) rfl)) rfl ?_
                rw [HPP.out]
                exact ⟨recZ, 130, rfl, below_setRow HB7.out (Nat.le_refl _) _, .inl ⟨docO_no HDX.out (fun q => HWZ.out (HWE.out.trans q.2.2)), rfl, rfl⟩⟩
        | false =>
          have HB9 := hid hbd
          rw [hbd] at c1
          clear hbd
          have hme : min M 4097 - i = (min M 4097 - (i + 1)) + 1 := by omega
          have HLN : Hid (lpQ (min M 4097) S7 = ((l ++ [((takeQ 32 (numQ s').2).1, (numQ s').1)]) ++ (lpQ (min M 4097 - (i + 1)) (takeQ 32 (numQ s').2).2).1, (lpQ (min M 4097 - (i + 1)) (takeQ 32 (numQ s').2).2).2)) := by show _ = _; rw [HLP.out, hme, lp_step _ _ _ HB9.out]
          clear hme HLQ HLP
          go_wp2_with fail
          refine KL.out.num.mono ?_
          rintro _ V10 ⟨rfl, hk, hb10⟩
          have hdr : Below V10.heap.size V10 V10.drew := (Below.refl _ _).drew
          have K11 := hid (hk.later hdr)
          have HO11 := hid (own_later (own_but HO.out hb10 (by have := KL.out.l2; have := HHX.out; omega)) hdr)
          have HS11 : Hid (V9.heap.size ≤ V10.drew.heap.size) := Nat.le_trans HSZ.out (Nat.le_trans hb10.bel.size hdr.size)
          have hnr2 := numQ_rng s'
          have HNR := hid hnr2
          clear hk hb10 hdr hnr2 c1 HO
          have HLW : Hid (l.length ≤ 4097) := by have := HLI.out; show _ ≤ _; omega
          obtain ⟨LL, hLL⟩ : ∃ n, n = l.length := ⟨_, rfl⟩
          have HLL := hid hLL
          rw [← hLL] at HO11
          clear hLL
          go_wp2_with fail
          have hc37 : V10.drew.cell? ⟨hx, 37, none⟩ = some (.slice pa LL pc) := by rw [HLL.out]; exact K11.out.box.c37
          refine OrdE.region (fun V => V.cell? ⟨hx, 37, none⟩ = some (.slice pa LL pc)) 9 (by kernel_rfl) hc37 (fun hS0 => ?_)
          clear hc37
          generalize V10.drew = v0 at *
          simp only [List.size_toArray, List.length_cons, List.length_nil, Nat.reduceAdd]
          refine OrdE.take (i := 0) (d := 67) (v := .pointer (some ⟨hx, 37, none⟩)) rfl rfl rfl (by as_aux_lemma => kernel_rfl) (by as_aux_lemma => kernel_rfl) (by as_aux_lemma => kernel_rfl) (by as_aux_lemma => kernel_rfl) (fun _ _ _ h => h) (by rfl) ?hL0 (by assumption) ?_
          case hL0 => intro V hSw; go_simp; try with_reducible rfl
          try simp only [List.setIfInBounds_toArray, List.set_cons_zero, List.set_cons_succ]
          refine OrdE.take (i := 1) (d := 68) (v := .slice pa LL pc) rfl rfl rfl (by as_aux_lemma => kernel_rfl) (by as_aux_lemma => kernel_rfl) (by as_aux_lemma => kernel_rfl) (by as_aux_lemma => kernel_rfl) (fun _ _ _ h => h) (by rfl) ?hL1 (by assumption) ?_
          case hL1 => intro V hSw; go_simp; try with_reducible rfl
          try simp only [List.setIfInBounds_toArray, List.set_cons_zero, List.set_cons_succ]
          refine OrdE.take (i := 2) (d := 69) (v := .int .i64 (numQ s').1) rfl rfl rfl (by as_aux_lemma => kernel_rfl) (by as_aux_lemma => kernel_rfl) (by as_aux_lemma => kernel_rfl) (by as_aux_lemma => kernel_rfl) (fun _ _ _ h => h) (by rfl) ?hL2 (by assumption) ?_
          case hL2 => intro V hSw; go_simp; try with_reducible rfl
          try simp only [List.setIfInBounds_toArray, List.set_cons_zero, List.set_cons_succ]
          refine OrdE.take (i := 3) (d := 70) (v := .pointer (some ⟨g, 0, none⟩)) rfl rfl rfl (by as_aux_lemma => kernel_rfl) (by as_aux_lemma => kernel_rfl) (by as_aux_lemma => kernel_rfl) (by as_aux_lemma => kernel_rfl) (fun _ _ _ h => h) (by rfl) ?hL3 (by assumption) ?_
          case hL3 => intro V hSw; go_simp; try with_reducible rfl
          try simp only [List.setIfInBounds_toArray, List.set_cons_zero, List.set_cons_succ]
          refine OrdE.one (i := 4) (by as_aux_lemma => kernel_rfl) rfl (fun K hK => ?_)
          go_simp
          refine K11.out.dig.mono ?_
          rintro _ V12 ⟨rfl, hk, h32, hby, hb12⟩
          have HS12 : Hid (V12.cell? ⟨hx, 37, none⟩ = some (.slice pa LL pc)) := by rw [HLL.out]; exact hk.box.c37
          have K12 := hid hk
          have H32 := hid h32
          have HBY2 := hid hby
          have HO12 := hid (own_but HO11.out hb12 (by have := K11.out.l2; have := HHX.out; omega))
          have HS12z : Hid (V9.heap.size ≤ V12.heap.size) := Nat.le_trans HS11.out hb12.bel.size
          clear hk h32 hby hb12
          refine hK.out _ _ (fun _ => HS12.out) ?_
          clear hK K
          try refine OrdE.put (d := 71) rfl ?_
          try simp only [List.setIfInBounds_toArray, List.set_cons_zero, List.set_cons_succ]
          generalize takeQ 32 (numQ s').2 = T at *
          obtain ⟨D2, s2⟩ := T
          dsimp only at *
          have HBU := hid (built76D (numQ s').1 D2 H32.out)
          have HPN : Hid ((pcC (D2, (numQ s').1)).length = 33) := pcC_len H32.out
          have HPZ : Hid ((pcC (D2, (numQ s').1)).toArray.size = 33) := by show _ = _; rw [List.size_toArray, HPN.out]
          have hbc := bel_alc V12 (.cells (pcC (D2, (numQ s').1)).toArray 76)
          have K13a := hid (K12.out.later hbc)
          have HO13a := hid (HO12.out.alloc (.cells (pcC (D2, (numQ s').1)).toArray 76))
          have HNW : Hid (∀ j u, (pcC (D2, (numQ s').1))[j]? = some u → (V12.alloc (.cells (pcC (D2, (numQ s').1)).toArray 76)).cell? ((⟨V12.heap.size, 0, none⟩ : Addr).add j) = some u) := fun j u hu => by
            rw [add_plain, Nat.zero_add]
            exact (Joins.cell_of_block (heap_alc V12 _) j).trans (by rw [List.getElem?_toArray]; exact hu)
          have HS13 : Hid (V9.heap.size ≤ (V12.alloc (.cells (pcC (D2, (numQ s').1)).toArray 76)).heap.size) := Nat.le_trans HS12z.out hbc.size
          have HNE := hid (pcC_one (D2, (numQ s').1))
          have HPK : Hid (PcOk (D2, (numQ s').1)) := ⟨H32.out, get_u8 (fun z hz => wf_mk_u8 (HBY2.out z hz).1 (HBY2.out z hz).2), wf_mk_i64 (by have := HNR.out.1; show (_ : Int) ≤ (numQ s').1; omega) (by have := HNR.out.2; show (numQ s').1 ≤ _; omega)⟩
          have HS13c : Hid ((V12.alloc (.cells (pcC (D2, (numQ s').1)).toArray 76)).cell? ⟨hx, 37, none⟩ = some (.slice pa LL pc)) := by rw [HLL.out]; exact K13a.out.box.c37
          clear hbc
          refine OrdE.one (i := 5) (by as_aux_lemma => kernel_rfl) rfl (fun K hK => ?_)
          rw [if_pos (by rfl)]
          refine wp_buildTo 76 _ rfl (pcC (D2, (numQ s').1)).toArray (Eq.trans (congrArg (Tryd.prog.built 76) (by simp only [List.map_toArray, List.map_cons, List.map_nil]; rfl)) HBU.out) ?_
          refine hK.out _ _ (fun _ => HS12.out) ?_
          clear hK K
          try refine OrdE.put (d := 72) rfl ?_
          try simp only [List.setIfInBounds_toArray, List.set_cons_zero, List.set_cons_succ]
          refine OrdE.one (i := 6) (by as_aux_lemma => kernel_rfl) rfl (fun K hK => ?_)
          rw [if_pos (by rfl)]
          refine wp_buildOne 25 76 _ rfl (pcC (D2, (numQ s').1)).toArray i0 _ Tryd.underlying25 hi hz0 (by rw [hz1, HPZ.out]) (by rw [HPZ.out]; decide) (by rw [HPZ.out]; decide) rfl ?_
          refine hK.out _ _ (fun _ => HS13c.out) ?_
          clear hK K
          try refine OrdE.put (d := 73) rfl ?_
          try simp only [List.setIfInBounds_toArray, List.set_cons_zero, List.set_cons_succ]
          refine OrdE.one (i := 7) (by as_aux_lemma => kernel_rfl) rfl (fun K hK => ?_)
          rw [if_pos (by rfl)]
          refine wp_append_own _ (.tmp 68) (.tmp 73) 25 rfl V9.heap.size 76 i0 _ 33 40 Tryd.underlying25 hi hz0 hz1 hz2 rfl (by decide) _ _ _ rfl HO13a.out ⟨V12.heap.size, 0, none⟩ 1 1 (pcC (D2, (numQ s').1)) rfl (by rw [HPN.out]) HNW.out HNE.out (by have := HLW.out; have := HLL.out; unfold maxLen; omega) (by have := HLW.out; have := HLL.out; omega) HS13.out ?_
          intro v13 V13 ho13 hg13 _
          have hb13 : Below V9.heap.size (V12.alloc (.cells (pcC (D2, (numQ s').1)).toArray 76)) V13 := (Below.refl _ _).grown hg13 HS13.out (fun j hj => (HO13a.out.lt j hj).1)
          have K13 := hid (K13a.out.grow hb13 HHX.out)
          have HO13 : Hid (V13.ownsRow V9.heap.size 76 33 v13 (l ++ [(D2, (numQ s').1)]).length ((l ++ [(D2, (numQ s').1)]).flatMap pcC)) := by
            show World.ownsRow _ _ _ _ _ _ _
            rw [List.length_append, List.flatMap_append, ← HLL.out]
            simpa using ho13
          have HK13 : Hid (∀ x ∈ l ++ [(D2, (numQ s').1)], PcOk x) := fun x hx => by
            rcases List.mem_append.1 hx with q | q
            · exact HOK.out x q
            · rw [List.mem_singleton] at q; subst q; exact HPK.out
          have HS13v : Hid (V13.cell? ⟨hx, 37, none⟩ = some (.slice pa LL pc)) := by rw [HLL.out]; exact K13.out.box.c37
          have HS13z : Hid (V9.heap.size ≤ V13.heap.size) := Nat.le_trans HS13.out hb13.size
          clear ho13 hg13 hb13
          refine hK.out _ _ (fun _ => HS13v.out) ?_
          clear hK K
          try refine OrdE.put (d := 74) rfl ?_
          try simp only [List.setIfInBounds_toArray, List.set_cons_zero, List.set_cons_succ]
          obtain ⟨a13, c13, hv13, _, _⟩ := Rp.own HO13.out HK13.out
          subst hv13
          have hLN : (l ++ [(D2, (numQ s').1)]).length = LL + 1 := by rw [List.length_append, HLL.out]; rfl
          have HLN2 := hid hLN
          rw [hLN] at HO13
          rw [hLN]
          clear hLN
          refine OrdE.one (i := 8) (by as_aux_lemma => kernel_rfl) rfl (fun K hK => ?_)
          go_simp
          refine hK.out _ _ (fun _ => HS13v.out) ?_
          clear hK K
          try refine OrdE.put (d := 75) rfl ?_
          try simp only [List.setIfInBounds_toArray, List.set_cons_zero, List.set_cons_succ]
          have c37 := K13.out.box.c37
          have u37 := K13.out.unf 37
          refine OrdE.one (i := 9) (by as_aux_lemma => kernel_rfl) rfl (fun K hK => ?_)
          go_simp
          refine hK.out _ _ (fun h => absurd rfl h) ?_
          clear hK K
          try simp only [List.setIfInBounds_toArray, List.set_cons_zero, List.set_cons_succ]
          refine OrdE.done (by as_aux_lemma => kernel_rfl) ?_ _
          have K14 : Hid (Dk w (V13.setCell ⟨hx, 37, none⟩ (.slice a13 (LL + 1) c13)) g hx { recZ with kind := 2, seq := (numQ S2).1, epoch := (numQ S3).1, prev := D, path := PS, ps := l ++ [(D2, (numQ s').1)], a := a13, cap := c13 } s2) := K13.out.set (by rw [← HLN2.out]; exact K13.out.box.setPcs a13 c13 (l ++ [(D2, (numQ s').1)]))
          have HO14 : Hid ((V13.setCell ⟨hx, 37, none⟩ (.slice a13 (LL + 1) c13)).ownsRow V9.heap.size 76 33 (.slice a13 (l ++ [(D2, (numQ s').1)]).length c13) (l ++ [(D2, (numQ s').1)]).length ((l ++ [(D2, (numQ s').1)]).flatMap pcC)) := by
            show World.ownsRow _ _ _ _ _ _ _
            rw [HLN2.out]
            exact own_but HO13.out ((But1.refl hx V13).set (i := 37) _) HHX.out
          have HS14 : Hid (V9.heap.size ≤ (V13.setCell ⟨hx, 37, none⟩ (.slice a13 (LL + 1) c13)).heap.size) := by show _ ≤ _; simpa using HS13z.out
          generalize V13.setCell ⟨hx, 37, none⟩ (.slice a13 (LL + 1) c13) = X14 at *
          clear c37 u37 K13 HO13 HS13v HS13z K13a HO13a HNW HS13 HS13c K12 HO12 HS12 K11 HO11 HS11
          go_wp2
          go_round
          case rel => exact ⟨i + 1, l ++ [(D2, (numQ s').1)], s2, a13, c13, by omega, by omega, by go_num, by show _ = _; rw [List.length_append, HLI.out]; rfl, HO14.out, HK13.out, K14.out, HLN.out, HS14.out⟩
          case measure => simp [intOf]; omega
      · have hz4 : ¬ (i : Int) ≤ 4096 := by omega
        have HLF : Hid (lpQ (min M 4097 - i) s' = ([], s')) := by show _ = _; rw [show min M 4097 - i = 0 from by omega]; rfl
        clear hi hz0 hz1 hz2 hMb hMi HSZ HLP HLI
        obtain ⟨a5, c5, hv5, hr5, hg5⟩ := Rp.own HO.out HOK.out
        have hv6 := hv5
        injection hv6 with hv7 hv8 hv9
        subst hv7 hv9
        clear hv5 hv8
        have HRP := hid hr5
        have HRG : Hid (∀ b off, pa = some ⟨b, off, none⟩ → b ≠ w.heap.size) := fun b off q => by have := hg5 b off q; have h1 := KL.out.l1; have h2 := KL.out.l2; have h3 := HHX.out; omega
        clear hr5 hg5
        obtain ⟨RR, hRR⟩ : ∃ RR : Rec, RR = { recZ with kind := 2, seq := (numQ S2).1, epoch := (numQ S3).1, prev := D, path := PS, ps := l, a := pa, cap := pc } := ⟨_, rfl⟩
        have HRQ := hid hRR
        have HRV : Hid (Rv wr RR) := by
          rw [HRQ.out]
          exact ⟨HDL.out, get_u8 (fun z hz => wf_mk_u8 (HDY.out z hz).1 (HDY.out z hz).2), wf_mk_i64 (by have := (numQ_rng S2).1; show (_ : Int) ≤ (numQ S2).1; omega) (by have := (numQ_rng S2).2; show (numQ S2).1 ≤ _; omega), wf_mk_i64 (by have := (numQ_rng S3).1; show (_ : Int) ≤ (numQ S3).1; omega) (by have := (numQ_rng S3).2; show (numQ S3).1 ≤ _; omega), wf_mk_i64 (by show (_ : Int) ≤ (2 : Int); have := HKB.out.1; omega) (by show (2 : Int) ≤ _; have := HKB.out.2; omega), rfl, (by rw [← HPS.out, str_size]; have := HPL2.out; unfold maxLen; omega), HRP.out⟩
        clear hRR
        have KLx : Hid (Dk w wr g hx RR s') := by rw [HRQ.out]; exact KL.out
        have HDX : Hid (docX zs = (⟨(numQ S2).1, (numQ S3).1, D, 2, 0, PS, none, 0, l⟩, s')) := HDC.out.trans (by unfold docT; rw [if_neg (by decide), if_pos rfl, HPQ.out, HPS.out]; dsimp only; rw [HMN.out, Int.toNat_natCast, HLQ.out, HLF.out]; dsimp only; rw [List.append_nil])
        have HDBY := hid (dbytes_word RR wr HRV.out)
        have HMM : Hid (mayB RR = mayB ⟨(numQ S2).1, (numQ S3).1, D, 2, 0, PS, none, 0, l⟩) := by rw [HRQ.out]; rfl
        have HWW : Hid (wrB RR = wrB ⟨(numQ S2).1, (numQ S3).1, D, 2, 0, PS, none, 0, l⟩) := by rw [HRQ.out]; rfl
        have HXR := hid KLx.out.box.range
        have HRL := hid KLx.out.box.len
        go_wp2_with (first | refine wpList_load_g rfl 27 _ rfl hx 0 rfl RR.cs _ HXR.out Tryd.underlying27 rfl (by rw [Rec.cs_len HRL.out]; exact Tryd.size27) ?_ | fail)
        refine HDBY.out.mono ?_
        rintro _ X7 ⟨v7, rfl, hc7, hp7⟩
        have K7 := hid (KLx.out.later hc7)
        have HO7 := hid K7.out.out
        have HB7 := hid K7.out.rq.bel
        have HRV7 := hid (HRV.out.later hc7)
        have HX7 := hid K7.out.box.range
        clear hc7 HDBY HXR
        obtain ⟨ca, cc, hcb, _⟩ := K7.out.rq.blk
        have c1 : X7.cell? ⟨g, 1, none⟩ = some (.bool s'.2) := (Joins.cell_of_block hcb 1).trans rfl
        clear hcb
        cases hbad : s'.2 with
        | true =>
          have HBD := hid hbad
          rw [hbad] at c1
          clear hbad hp7
          go_wp2_with (first | refine wpList_buildTo rfl 27 _ rfl (some 96) rfl recZ.cs.toArray Tryd.built27 ?_ | refine wpList_store_rowTo rfl 27 _ _ rfl rfl w.heap.size recZ.cs.toArray rfl rfl 27 _ HO7.out (size_recs rfl) rfl (all_oneCell_toArray (Rec.cs_one _)) ?_ | fail)
          refine bodyPost_ret (results_row_tmp rfl _ _ w.heap.size _ rfl (load_recs (setRow_heap _ _ _ _ _ _ HO7.out) rfl)) rfl ?_
          rw [HPP.out]
          exact ⟨recZ, 130, rfl, below_setRow HB7.out (Nat.le_refl _) _, .inl ⟨docO_no HDX.out (fun q => by rw [HBD.out] at q; cases q.1), rfl, rfl⟩⟩
        | false =>
          have HBD := hid hbad
          rw [hbad] at c1
          clear hbad
          cases hm : mayB RR with
          | false =>
            have HM : Hid (mayB ⟨(numQ S2).1, (numQ S3).1, D, 2, 0, PS, none, 0, l⟩ = false) := HMM.out.symm.trans hm
            rw [show e130 false = 130 from rfl]
            clear hm hp7
            go_wp2_with (first | refine wpList_buildTo rfl 27 _ rfl (some 96) rfl recZ.cs.toArray Tryd.built27 ?_ | refine wpList_store_rowTo rfl 27 _ _ rfl rfl w.heap.size recZ.cs.toArray rfl rfl 27 _ HO7.out (size_recs rfl) rfl (all_oneCell_toArray (Rec.cs_one _)) ?_ | fail)
            refine bodyPost_ret (results_row_tmp rfl _ _ w.heap.size _ rfl (load_recs (setRow_heap _ _ _ _ _ _ HO7.out) rfl)) rfl ?_
            rw [HPP.out]
            exact ⟨recZ, 130, rfl, below_setRow HB7.out (Nat.le_refl _) _, .inl ⟨docO_no HDX.out (fun q => by rw [HM.out] at q; cases q.2.1), rfl, rfl⟩⟩
          | true =>
            have HM : Hid (mayB ⟨(numQ S2).1, (numQ S3).1, D, 2, 0, PS, none, 0, l⟩ = true) := HMM.out.symm.trans hm
            rw [hm] at hp7
            rw [show e130 true = 0 from rfl]
            rcases hp7 with ⟨q, _⟩ | ⟨_, ho7⟩
            · cases q
            have hw8 := get_u8 (wr_mem HRV7.out hm)
            obtain ⟨a7, c7, rfl, hr7⟩ := Ri.own ho7 hw8
            have ht1 := hr7.text X7 (Below.refl _ _)
            have ht2 := (HZR.out.later HB7.out).text X7 (Below.refl _ _)
            have hse := str_eq hw8 HZR.out.fits
            have HWE := hid HWW.out
            clear hm ho7 hr7
            by_cases hwz : wrB RR = zs
            · have HWZ := hid hwz
              rw [hwz] at ht1 hw8 hse ⊢
              clear hwz hse
              generalize strOfNums zs = SS at *
              generalize zs.length = LL at *
              go_wp2_with (first | refine wpList_load_g rfl 27 _ rfl hx 0 rfl RR.cs _ HX7.out Tryd.underlying27 rfl (by rw [Rec.cs_len HRL.out]; exact Tryd.size27) ?_ | refine wpList_store_rowTo rfl 27 _ _ rfl rfl w.heap.size RR.cs.toArray rfl rfl 27 _ HO7.out (size_recs HRL.out) (by rw [Rec.cs_size HRL.out]; rfl) (all_oneCell_toArray (Rec.cs_one _)) ?_ | fail)
              refine bodyPost_ret (results_row_tmp rfl _ _ w.heap.size _ rfl (load_recs (setRow_heap _ _ _ _ _ _ HO7.out) HRL.out)) rfl ?_
              rw [HPP.out]
              refine ⟨RR, 0, rfl, below_setRow HB7.out (Nat.le_refl _) _, .inr ⟨_, pa, pc, docO_yes HDX.out ⟨HBD.out, HM.out, HWE.out.symm.trans HWZ.out⟩, HRQ.out, rfl, ?_⟩⟩
              have hv := HRV7.out
              rw [HRQ.out] at hv ⊢
              exact ⟨hv.len, hv.u8, hv.seq, hv.epoch, hv.kind, hv.site, hv.path, hv.row.kept (fun b off q => other_setRow _ _ _ _ (HRG.out b off q))⟩
            · have HWZ := hid hwz
              have hq1 : ((strOfNums (wrB RR)).toList == (strOfNums zs).toList) = false := by rw [hse]; exact beq_eq_false_iff_ne.2 hwz
              have hq2 : ¬ (strOfNums (wrB RR)).toList = (strOfNums zs).toList := by
                have := beq_eq_false_iff_ne.1 hq1
                exact this
              have hq3 : ¬ strOfNums (wrB RR) = strOfNums zs := fun q => hq2 (by rw [q])
              clear hwz hse hw8
              generalize strOfNums (wrB RR) = S1 at *
              generalize strOfNums zs = SS at *
              generalize zs.length = LL at *
              generalize hWL : (wrB RR).length = L1 at *
              clear hWL
              go_wp2_with (first | refine wpList_buildTo rfl 27 _ rfl (some 96) rfl recZ.cs.toArray Tryd.built27 ?_ | refine wpList_store_rowTo rfl 27 _ _ rfl rfl w.heap.size recZ.cs.toArray rfl rfl 27 _ HO7.out (size_recs rfl) rfl (all_oneCell_toArray (Rec.cs_one _)) ?_ | fail)
              refine bodyPost_ret (results_row_tmp rfl _ _ w.heap.size _ rfl (load_recs (setRow_heap _ _ _ _ _ _ HO7.out) rfl)) rfl ?_
              rw [HPP.out]
              exact ⟨recZ, 130, rfl, below_setRow HB7.out (Nat.le_refl _) _, .inl ⟨docO_no HDX.out (fun q => HWZ.out (HWE.out.trans q.2.2)), rfl, rfl⟩⟩
    · have hz1M : ¬ (i : Int) < (M : Int) := by omega
      have HLF : Hid (lpQ (min M 4097 - i) s' = ([], s')) := by show _ = _; rw [show min M 4097 - i = 0 from by omega]; rfl
      clear hi hz0 hz1 hz2 hMb hMi HSZ HLP HLI
      obtain ⟨a5, c5, hv5, hr5, hg5⟩ := Rp.own HO.out HOK.out
      have hv6 := hv5
      injection hv6 with hv7 hv8 hv9
      subst hv7 hv9
      clear hv5 hv8
      have HRP := hid hr5
      have HRG : Hid (∀ b off, pa = some ⟨b, off, none⟩ → b ≠ w.heap.size) := fun b off q => by have := hg5 b off q; have h1 := KL.out.l1; have h2 := KL.out.l2; have h3 := HHX.out; omega
      clear hr5 hg5
      obtain ⟨RR, hRR⟩ : ∃ RR : Rec, RR = { recZ with kind := 2, seq := (numQ S2).1, epoch := (numQ S3).1, prev := D, path := PS, ps := l, a := pa, cap := pc } := ⟨_, rfl⟩
      have HRQ := hid hRR
      have HRV : Hid (Rv wr RR) := by
        rw [HRQ.out]
        exact ⟨HDL.out, get_u8 (fun z hz => wf_mk_u8 (HDY.out z hz).1 (HDY.out z hz).2), wf_mk_i64 (by have := (numQ_rng S2).1; show (_ : Int) ≤ (numQ S2).1; omega) (by have := (numQ_rng S2).2; show (numQ S2).1 ≤ _; omega), wf_mk_i64 (by have := (numQ_rng S3).1; show (_ : Int) ≤ (numQ S3).1; omega) (by have := (numQ_rng S3).2; show (numQ S3).1 ≤ _; omega), wf_mk_i64 (by show (_ : Int) ≤ (2 : Int); have := HKB.out.1; omega) (by show (2 : Int) ≤ _; have := HKB.out.2; omega), rfl, (by rw [← HPS.out, str_size]; have := HPL2.out; unfold maxLen; omega), HRP.out⟩
      clear hRR
      have KLx : Hid (Dk w wr g hx RR s') := by rw [HRQ.out]; exact KL.out
      have HDX : Hid (docX zs = (⟨(numQ S2).1, (numQ S3).1, D, 2, 0, PS, none, 0, l⟩, s')) := HDC.out.trans (by unfold docT; rw [if_neg (by decide), if_pos rfl, HPQ.out, HPS.out]; dsimp only; rw [HMN.out, Int.toNat_natCast, HLQ.out, HLF.out]; dsimp only; rw [List.append_nil])
      have HDBY := hid (dbytes_word RR wr HRV.out)
      have HMM : Hid (mayB RR = mayB ⟨(numQ S2).1, (numQ S3).1, D, 2, 0, PS, none, 0, l⟩) := by rw [HRQ.out]; rfl
      have HWW : Hid (wrB RR = wrB ⟨(numQ S2).1, (numQ S3).1, D, 2, 0, PS, none, 0, l⟩) := by rw [HRQ.out]; rfl
      have HXR := hid KLx.out.box.range
      have HRL := hid KLx.out.box.len
      go_wp2_with (first | refine wpList_load_g rfl 27 _ rfl hx 0 rfl RR.cs _ HXR.out Tryd.underlying27 rfl (by rw [Rec.cs_len HRL.out]; exact Tryd.size27) ?_ | fail)
      refine HDBY.out.mono ?_
      rintro _ X7 ⟨v7, rfl, hc7, hp7⟩
      have K7 := hid (KLx.out.later hc7)
      have HO7 := hid K7.out.out
      have HB7 := hid K7.out.rq.bel
      have HRV7 := hid (HRV.out.later hc7)
      have HX7 := hid K7.out.box.range
      clear hc7 HDBY HXR
      obtain ⟨ca, cc, hcb, _⟩ := K7.out.rq.blk
      have c1 : X7.cell? ⟨g, 1, none⟩ = some (.bool s'.2) := (Joins.cell_of_block hcb 1).trans rfl
      clear hcb
      cases hbad : s'.2 with
      | true =>
        have HBD := hid hbad
        rw [hbad] at c1
        clear hbad hp7
        go_wp2_with (first | refine wpList_buildTo rfl 27 _ rfl (some 96) rfl recZ.cs.toArray Tryd.built27 ?_ | refine wpList_store_rowTo rfl 27 _ _ rfl rfl w.heap.size recZ.cs.toArray rfl rfl 27 _ HO7.out (size_recs rfl) rfl (all_oneCell_toArray (Rec.cs_one _)) ?_ | fail)
        refine bodyPost_ret (results_row_tmp rfl _ _ w.heap.size _ rfl (load_recs (setRow_heap _ _ _ _ _ _ HO7.out) rfl)) rfl ?_
        rw [HPP.out]
        exact ⟨recZ, 130, rfl, below_setRow HB7.out (Nat.le_refl _) _, .inl ⟨docO_no HDX.out (fun q => by rw [HBD.out] at q; cases q.1), rfl, rfl⟩⟩
      | false =>
        have HBD := hid hbad
        rw [hbad] at c1
        clear hbad
        cases hm : mayB RR with
        | false =>
          have HM : Hid (mayB ⟨(numQ S2).1, (numQ S3).1, D, 2, 0, PS, none, 0, l⟩ = false) := HMM.out.symm.trans hm
          rw [show e130 false = 130 from rfl]
          clear hm hp7
          go_wp2_with (first | refine wpList_buildTo rfl 27 _ rfl (some 96) rfl recZ.cs.toArray Tryd.built27 ?_ | refine wpList_store_rowTo rfl 27 _ _ rfl rfl w.heap.size recZ.cs.toArray rfl rfl 27 _ HO7.out (size_recs rfl) rfl (all_oneCell_toArray (Rec.cs_one _)) ?_ | fail)
          refine bodyPost_ret (results_row_tmp rfl _ _ w.heap.size _ rfl (load_recs (setRow_heap _ _ _ _ _ _ HO7.out) rfl)) rfl ?_
          rw [HPP.out]
          exact ⟨recZ, 130, rfl, below_setRow HB7.out (Nat.le_refl _) _, .inl ⟨docO_no HDX.out (fun q => by rw [HM.out] at q; cases q.2.1), rfl, rfl⟩⟩
        | true =>
          have HM : Hid (mayB ⟨(numQ S2).1, (numQ S3).1, D, 2, 0, PS, none, 0, l⟩ = true) := HMM.out.symm.trans hm
          rw [hm] at hp7
          rw [show e130 true = 0 from rfl]
          rcases hp7 with ⟨q, _⟩ | ⟨_, ho7⟩
          · cases q
          have hw8 := get_u8 (wr_mem HRV7.out hm)
          obtain ⟨a7, c7, rfl, hr7⟩ := Ri.own ho7 hw8
          have ht1 := hr7.text X7 (Below.refl _ _)
          have ht2 := (HZR.out.later HB7.out).text X7 (Below.refl _ _)
          have hse := str_eq hw8 HZR.out.fits
          have HWE := hid HWW.out
          clear hm ho7 hr7
          by_cases hwz : wrB RR = zs
          · have HWZ := hid hwz
            rw [hwz] at ht1 hw8 hse ⊢
            clear hwz hse
            generalize strOfNums zs = SS at *
            generalize zs.length = LL at *
            go_wp2_with (first | refine wpList_load_g rfl 27 _ rfl hx 0 rfl RR.cs _ HX7.out Tryd.underlying27 rfl (by rw [Rec.cs_len HRL.out]; exact Tryd.size27) ?_ | refine wpList_store_rowTo rfl 27 _ _ rfl rfl w.heap.size RR.cs.toArray rfl rfl 27 _ HO7.out (size_recs HRL.out) (by rw [Rec.cs_size HRL.out]; rfl) (all_oneCell_toArray (Rec.cs_one _)) ?_ | fail)
            refine bodyPost_ret (results_row_tmp rfl _ _ w.heap.size _ rfl (load_recs (setRow_heap _ _ _ _ _ _ HO7.out) HRL.out)) rfl ?_
            rw [HPP.out]
            refine ⟨RR, 0, rfl, below_setRow HB7.out (Nat.le_refl _) _, .inr ⟨_, pa, pc, docO_yes HDX.out ⟨HBD.out, HM.out, HWE.out.symm.trans HWZ.out⟩, HRQ.out, rfl, ?_⟩⟩
            have hv := HRV7.out
            rw [HRQ.out] at hv ⊢
            exact ⟨hv.len, hv.u8, hv.seq, hv.epoch, hv.kind, hv.site, hv.path, hv.row.kept (fun b off q => other_setRow _ _ _ _ (HRG.out b off q))⟩
          · have HWZ := hid hwz
            have hq1 : ((strOfNums (wrB RR)).toList == (strOfNums zs).toList) = false := by rw [hse]; exact beq_eq_false_iff_ne.2 hwz
            have hq2 : ¬ (strOfNums (wrB RR)).toList = (strOfNums zs).toList := by
              have := beq_eq_false_iff_ne.1 hq1
              exact this
            have hq3 : ¬ strOfNums (wrB RR) = strOfNums zs := fun q => hq2 (by rw [q])
            clear hwz hse hw8
            generalize strOfNums (wrB RR) = S1 at *
            generalize strOfNums zs = SS at *
            generalize zs.length = LL at *
            generalize hWL : (wrB RR).length = L1 at *
            clear hWL
            go_wp2_with (first | refine wpList_buildTo rfl 27 _ rfl (some 96) rfl recZ.cs.toArray Tryd.built27 ?_ | refine wpList_store_rowTo rfl 27 _ _ rfl rfl w.heap.size recZ.cs.toArray rfl rfl 27 _ HO7.out (size_recs rfl) rfl (all_oneCell_toArray (Rec.cs_one _)) ?_ | fail)
            refine bodyPost_ret (results_row_tmp rfl _ _ w.heap.size _ rfl (load_recs (setRow_heap _ _ _ _ _ _ HO7.out) rfl)) rfl ?_
            rw [HPP.out]
            exact ⟨recZ, 130, rfl, below_setRow HB7.out (Nat.le_refl _) _, .inl ⟨docO_no HDX.out (fun q => HWZ.out (HWE.out.trans q.2.2)), rfl, rfl⟩⟩
end Go.Proofs.YtpbaacplgohniaaDoor
namespace Go.Proofs.YtpbaacplgohniaaDoor
open Go.ChangeShapes Go.WideShapes Go.ChangeAt Go.RowKit Go.Deep

theorem dparse_word (a : Option Addr) (cap : Nat) (zs : List Int) (w : World) (hr : Ri w .u8 a cap zs) (hl : zs.length ≤ 262144) :
    Calls Tryd.prog 24 #[.slice a zs.length cap] w (DocF zs w) := by
  by_cases h1 : (byteQ (byteQ (zs, false)).2).1 = 1
  · exact dparse_lead a cap zs w hr hl h1
  · by_cases h2 : (byteQ (byteQ (zs, false)).2).1 = 2
    · exact dparse_two a cap zs w hr hl h2
    · exact dparse_other a cap zs w hr hl ⟨h1, h2⟩
theorem both_parse {B : Nat} {zs : List Int} {w1 w2 : World} {X Y : Rec} {e1 e2 : Int} (hb : By zs) (h1 : CauP B zs w1 X e1) (h2 : DocP zs w2 Y e2) (hw : Below w1.heap.size w1 w2) : e1 = e2 ∧ sameB X Y = true ∧ Rv w2 X ∧ Rv w2 Y := by
  have hd := doc_par zs hb
  rcases h1 with ⟨p1, rfl, rfl⟩ | ⟨r, a, c, p1, rfl, rfl, _, p4, _⟩
  · rcases h2 with ⟨_, rfl, rfl⟩ | ⟨q, a', c', q1, _⟩
    · exact ⟨rfl, decide_eq_true ⟨rfl, rfl, rfl, rfl, rfl, rfl, rfl⟩, recZ_rv _, recZ_rv _⟩
    · rw [hd, p1] at q1; cases q1
  · rcases h2 with ⟨q1, _, _⟩ | ⟨q, a', c', q1, rfl, rfl, q4⟩
    · rw [hd, p1] at q1; cases q1
    · rw [hd, p1] at q1
      injection q1 with q1
      subst q1
      exact ⟨rfl, decide_eq_true ⟨rfl, rfl, rfl, rfl, rfl, rfl, rfl⟩, p4.later hw, q4⟩
end Go.Proofs.YtpbaacplgohniaaDoor
namespace Go.Proofs.YtpbaacplgohniaaDoor.recordParses
open Go.ChangeShapes Go.WideShapes Go.ChangeAt Go.RowKit Go.Deep

theorem wpList_store_as {P : Program} {ops : Array Oper} {rest : List Oper} {o : Oper} {a : Act} {w : World} {Q : Exit → Act → World → Prop} (hgd : o.guard = none) (ty : TypeId) (x y : Operand) (ho : o.op = .store ty x y) (hd : o.dst = none)
    (W : World) (old cells : Array Value) (hw : w = W.alloc (.cells old ty)) (hx : a.eval x = .pointer (some ⟨W.heap.size, 0, none⟩)) (hy : a.eval y = .agg cells) (hi : (P.info? ty).map (·.size) = some cells.size)
    (hold : old.size = cells.size) (h1 : cells.all (·.oneCell') = true) (V : World) (hV : V = W.alloc (.cells cells ty)) (h : wpList P ops Q rest a V) : wpList P ops Q (o :: rest) a w := by
  subst hV
  exact wpList_store_new hgd ty x y ho hd W old cells hw hx hy hi hold h1 h
theorem range_rc {X : World} {g : Nat} {A : Rec} (h : X.heap[g]? = some (.cells A.cs.toArray 27)) : X.rangeAt g 0 A.cs := fun j v hv => by
  rw [Nat.zero_add, Joins.cell_of_block h j, List.getElem?_toArray]
  exact hv
theorem blk_later {X Y : World} {g : Nat} {o : Obj} (h : X.heap[g]? = some o) (hb : Below X.heap.size X Y) : Y.heap[g]? = some o := (hb.block _ (Array.getElem?_eq_some_iff.1 h).1).trans h
theorem cau_len {B : Nat} {zs : List Int} {w : World} {X : Rec} {e : Int} (h : CauP B zs w X e) : X.prev.length = 32 := by
  rcases h with ⟨_, rfl, _⟩ | ⟨_, _, _, _, rfl, _, hred, _, _⟩
  · rfl
  · exact hred.len
theorem doc_len {zs : List Int} {w : World} {X : Rec} {e : Int} (h : DocP zs w X e) : X.prev.length = 32 := by
  rcases h with ⟨_, rfl, _⟩ | ⟨_, _, _, _, _, _, hv⟩
  · rfl
  · exact hv.len
set_option maxHeartbeats 16000000 in
set_option maxRecDepth 100000 in
theorem walk_short (ab : Option Addr) (cb : Nat) (zs : List Int) (w : World) (hz : Ri w .u8 ab cb zs) (h3 : ¬ 3000 < zs.length) :
    Calls Tryd.prog 4 #[.slice ab zs.length cb] w fun e w' => e = .returned (.bool true) ∧ Below w.heap.size w w' := by
  have hroom := hz.room
  have hmost := hz.most
  unfold maxLen at hmost
  have HZS := hid (hz.take 3000)
  obtain ⟨LZ, hLZ⟩ : ∃ n, n = zs.length := ⟨_, rfl⟩
  have HLT : Hid ((zs.take 3000).length = LZ) := by show _ = _; rw [List.length_take]; omega
  rw [← hLZ] at hroom h3 ⊢
  have h3i : ¬ ((3000 : Int) < (LZ : Int)) := by omega
  have HZL : Hid ((zs.take 3000).length ≤ 262144) := by have := HLT.out; show _ ≤ _; omega
  have HBY : Hid (By (zs.take 3000)) := all_u8 HZS.out.fits
  clear hz hLZ
  go_enter Tryd.func4, Tryd.ntmps4
  go_wp2_with fail
  rw [← HLT.out]
  clear HLT h3 h3i hroom hmost
  generalize zs.take 3000 = ZS at *
  refine (parse_word ab cb ZS w HZS.out HZL.out).mono ?_
  rintro _ Y1 ⟨X, e1, rfl, hb1, hp1⟩
  have HXL := hid (cau_len hp1)
  have HP1 := hid hp1
  have hbb := bel_alc Y1 (.cells X.cs.toArray 27)
  have HB1 := hid (Bn hb1 hbb)
  have E1 := hid (heap_alc Y1 (.cells X.cs.toArray 27))
  obtain ⟨X1, hX1⟩ : ∃ V, V = Y1.alloc (.cells X.cs.toArray 27) := ⟨_, rfl⟩
  have HX1 := hid hX1
  rw [← hX1] at HB1 E1
  have HY1 : Hid (Below Y1.heap.size Y1 X1) := by rw [hX1]; exact hbb
  clear hb1 hbb hX1 hp1
  have HDW := hid (dparse_word ab cb ZS X1 (HZS.out.later HB1.out) HZL.out)
  generalize hLL : ZS.length = LL at *
  go_wp2_with (first | refine wpList_alloc_at rfl 27 rfl (some 3) rfl _ Tryd.zero27 Y1.heap.size rfl ?_ | refine wpList_store_as rfl 27 _ _ rfl rfl Y1 recZ.cs.toArray X.cs.toArray rfl rfl rfl (size_recs HXL.out) (by rw [Rec.cs_size HXL.out]; rfl) (all_oneCell_toArray (Rec.cs_one _)) X1 HX1.out ?_ | fail)
  refine HDW.out.mono ?_
  rintro _ Y2 ⟨Y, e2, rfl, hb2, hp2⟩
  have HYL := hid (doc_len hp2)
  obtain ⟨he, hsm, hvx, hvy⟩ := both_parse HBY.out HP1.out hp2 (Bn HY1.out hb2)
  subst he
  have hbb := bel_alc Y2 (.cells Y.cs.toArray 27)
  have HB2 := hid (Bn (Bn HB1.out hb2) hbb)
  have E1_2 := hid (blk_later E1.out (Bn hb2 hbb))
  have E2 := hid (heap_alc Y2 (.cells Y.cs.toArray 27))
  have HVX := hid (hvx.later hbb)
  have HVY := hid (hvy.later hbb)
  obtain ⟨X2, hX2⟩ : ∃ V, V = Y2.alloc (.cells Y.cs.toArray 27) := ⟨_, rfl⟩
  have HX2 := hid hX2
  rw [← hX2] at HB2 E1_2 E2 HVX HVY
  have HSW := hid (dsame_word X Y X2 HVX.out HVY.out)
  rw [hsm] at HSW
  clear hb2 hbb hX2 hp2 hvx hvy hsm HDW HP1
  go_wp2_with (first | refine wpList_alloc_at rfl 27 rfl (some 5) rfl _ Tryd.zero27 Y2.heap.size rfl ?_ | refine wpList_store_as rfl 27 _ _ rfl rfl Y2 recZ.cs.toArray Y.cs.toArray rfl rfl rfl (size_recs HYL.out) (by rw [Rec.cs_size HYL.out]; rfl) (all_oneCell_toArray (Rec.cs_one _)) X2 HX2.out ?_ | refine wpList_load_g rfl 27 _ rfl Y1.heap.size 0 rfl X.cs _ (range_rc E1_2.out) Tryd.underlying27 rfl (by rw [Rec.cs_len HXL.out]; exact Tryd.size27) ?_ | refine wpList_load_g rfl 27 _ rfl Y2.heap.size 0 rfl Y.cs _ (range_rc E2.out) Tryd.underlying27 rfl (by rw [Rec.cs_len HYL.out]; exact Tryd.size27) ?_ | fail)
  refine HSW.out.mono ?_
  rintro _ X3 ⟨rfl, hc3⟩
  have HB3 := hid (Bn HB2.out hc3)
  have HAV := hid (alive_word X3)
  clear hc3 HSW
  go_wp2_with fail
  refine HAV.out.mono ?_
  rintro _ X4 ⟨rfl, hc4⟩
  have HB4 := hid (Bn HB3.out hc4)
  clear hc4 HAV
  go_wp2
  go_ret
  exact ⟨rfl, HB4.out⟩
set_option maxHeartbeats 16000000 in
set_option maxRecDepth 100000 in
theorem walk_long (ab : Option Addr) (cb : Nat) (zs : List Int) (w : World) (hz : Ri w .u8 ab cb zs) (h3 : 3000 < zs.length) :
    Calls Tryd.prog 4 #[.slice ab zs.length cb] w fun e w' => e = .returned (.bool true) ∧ Below w.heap.size w w' := by
  have hroom := hz.room
  have hmost := hz.most
  unfold maxLen at hmost
  have HZS := hid (hz.take 3000)
  obtain ⟨LZ, hLZ⟩ : ∃ n, n = zs.length := ⟨_, rfl⟩
  have HLT : Hid ((zs.take 3000).length = 3000) := by show _ = _; rw [List.length_take]; omega
  rw [← hLZ] at hroom h3 ⊢
  have h3i : ((3000 : Int) < (LZ : Int)) := by omega
  have HZL : Hid ((zs.take 3000).length ≤ 262144) := by have := HLT.out; show _ ≤ _; omega
  have HBY : Hid (By (zs.take 3000)) := all_u8 HZS.out.fits
  clear hz hLZ
  go_enter Tryd.func4, Tryd.ntmps4
  go_wp2_with fail
  rw [← HLT.out]
  clear HLT h3 h3i hroom hmost
  generalize zs.take 3000 = ZS at *
  refine (parse_word ab cb ZS w HZS.out HZL.out).mono ?_
  rintro _ Y1 ⟨X, e1, rfl, hb1, hp1⟩
  have HXL := hid (cau_len hp1)
  have HP1 := hid hp1
  have hbb := bel_alc Y1 (.cells X.cs.toArray 27)
  have HB1 := hid (Bn hb1 hbb)
  have E1 := hid (heap_alc Y1 (.cells X.cs.toArray 27))
  obtain ⟨X1, hX1⟩ : ∃ V, V = Y1.alloc (.cells X.cs.toArray 27) := ⟨_, rfl⟩
  have HX1 := hid hX1
  rw [← hX1] at HB1 E1
  have HY1 : Hid (Below Y1.heap.size Y1 X1) := by rw [hX1]; exact hbb
  clear hb1 hbb hX1 hp1
  have HDW := hid (dparse_word ab cb ZS X1 (HZS.out.later HB1.out) HZL.out)
  generalize hLL : ZS.length = LL at *
  go_wp2_with (first | refine wpList_alloc_at rfl 27 rfl (some 3) rfl _ Tryd.zero27 Y1.heap.size rfl ?_ | refine wpList_store_as rfl 27 _ _ rfl rfl Y1 recZ.cs.toArray X.cs.toArray rfl rfl rfl (size_recs HXL.out) (by rw [Rec.cs_size HXL.out]; rfl) (all_oneCell_toArray (Rec.cs_one _)) X1 HX1.out ?_ | fail)
  refine HDW.out.mono ?_
  rintro _ Y2 ⟨Y, e2, rfl, hb2, hp2⟩
  have HYL := hid (doc_len hp2)
  obtain ⟨he, hsm, hvx, hvy⟩ := both_parse HBY.out HP1.out hp2 (Bn HY1.out hb2)
  subst he
  have hbb := bel_alc Y2 (.cells Y.cs.toArray 27)
  have HB2 := hid (Bn (Bn HB1.out hb2) hbb)
  have E1_2 := hid (blk_later E1.out (Bn hb2 hbb))
  have E2 := hid (heap_alc Y2 (.cells Y.cs.toArray 27))
  have HVX := hid (hvx.later hbb)
  have HVY := hid (hvy.later hbb)
  obtain ⟨X2, hX2⟩ : ∃ V, V = Y2.alloc (.cells Y.cs.toArray 27) := ⟨_, rfl⟩
  have HX2 := hid hX2
  rw [← hX2] at HB2 E1_2 E2 HVX HVY
  have HSW := hid (dsame_word X Y X2 HVX.out HVY.out)
  rw [hsm] at HSW
  clear hb2 hbb hX2 hp2 hvx hvy hsm HDW HP1
  go_wp2_with (first | refine wpList_alloc_at rfl 27 rfl (some 5) rfl _ Tryd.zero27 Y2.heap.size rfl ?_ | refine wpList_store_as rfl 27 _ _ rfl rfl Y2 recZ.cs.toArray Y.cs.toArray rfl rfl rfl (size_recs HYL.out) (by rw [Rec.cs_size HYL.out]; rfl) (all_oneCell_toArray (Rec.cs_one _)) X2 HX2.out ?_ | refine wpList_load_g rfl 27 _ rfl Y1.heap.size 0 rfl X.cs _ (range_rc E1_2.out) Tryd.underlying27 rfl (by rw [Rec.cs_len HXL.out]; exact Tryd.size27) ?_ | refine wpList_load_g rfl 27 _ rfl Y2.heap.size 0 rfl Y.cs _ (range_rc E2.out) Tryd.underlying27 rfl (by rw [Rec.cs_len HYL.out]; exact Tryd.size27) ?_ | fail)
  refine HSW.out.mono ?_
  rintro _ X3 ⟨rfl, hc3⟩
  have HB3 := hid (Bn HB2.out hc3)
  have HAV := hid (alive_word X3)
  clear hc3 HSW
  go_wp2_with fail
  refine HAV.out.mono ?_
  rintro _ X4 ⟨rfl, hc4⟩
  have HB4 := hid (Bn HB3.out hc4)
  clear hc4 HAV
  go_wp2
  go_ret
  exact ⟨rfl, HB4.out⟩
theorem walk (ab : Option Addr) (cb : Nat) (zs : List Int) (w : World) (_ : Sh.Laid w) (hz : Ri w .u8 ab cb zs) :
    Calls Tryd.prog 4 #[.slice ab zs.length cb] w fun e w' => e = .returned (.bool true) ∧ Below w.heap.size w w' := by
  by_cases h : 3000 < zs.length
  · exact walk_long ab cb zs w hz h
  · exact walk_short ab cb zs w hz h
set_option maxRecDepth 100000 in
theorem lifted (os : Os) (started : os.Started) (H : Type) (enc : TypeId × Value → H) :
    ReturnsInHanded {} Tryd.checked os 4 .any (fun w args => (Rows.recordParsesSpec.pre enc Tryd.prog Tryd.f4 [] false w args ∧ laidMetH Tryd.prog laidL w) ∧ sizedMet enc Tryd.prog Tryd.f4 (OpenSpec.ofChange Rows.recordParsesSpec) false w args)
      (Rows.recordParsesSpec.post enc Tryd.prog Tryd.f4 false true false false) := by
  refine returnsInHanded_of_change_and (C := Tryd.checked) (X := fun w _ => laidMetH Tryd.prog laidL w) (fun _ _ _ hh h => h.of_heap hh) own started (by kernel_rfl) Tryd.func4
    (ChangeSpec.witness_shaped (enc := enc) (C := Tryd.checked) (os := os) (X := fun w _ => laidMetH Tryd.prog laidL w) false (World.doorLaid Tryd.prog 400 os) #[.slice none 0 0] 8 rfl (World.shaped_of_RefB (by kernel_rfl) (by kernel_rfl)) (by kernel_rfl) (by kernel_rfl) (by kernel_rfl) (door_met os _)) ?_
  intro W base args ds gs before hval0 hW _ _ hL _
  have hval : ∀ (j : Nat) t v, Tryd.f4.params[j]? = some t → args[j]? = some v → Value.okWide Tryd.prog W .any base t v := hval0
  have hW' := hW
  obtain ⟨p, q, hA0, hV, rfl, _, _⟩ := hW
  have hA : DataW.TrodAll enc Tryd.prog W 0 (fun _ => true) true Tryd.f4.params.toList args.toList ds p := hA0
  rw [Tryd.params4] at hA hval
  obtain ⟨v0, vs0, d0, ds0, p0, q0, hargs, rfl, rfl, h0, r0⟩ := trodAll_cons hA
  obtain ⟨rfl, rfl, rfl⟩ := trodAll_nil r0
  obtain rfl : args = #[v0] := by cases args; simp_all
  obtain ⟨rfl, rfl⟩ := trodVars_none hV
  have hlaid := of_laid hL
  clear hA0
  simp only [List.append_nil] at hW'
  have hlt0 : ∀ x ∈ p0, x.block < W.heap.size := fun x hx => hW'.lt x (by simp [hx])
  have hk0 := h0
  obtain ⟨a0, cap0, l0, rfl, hr0⟩ := open_ri Tryd.underlying29 Tryd.underlying5 Tryd.cells5 (hval 0 29 v0 rfl rfl) h0 hlt0
  clear hval0
  refine (walk a0 cap0 l0 W hlaid hr0).mono fun e W' ⟨he, hb⟩ => ?_
  subst he
  exact ⟨_, rfl, _, _, _, [] ++ [], _, [], hW', trodAll_cons_mk (shut_bool Tryd.underlying4 _) trodAll_mk0, (trodAll_cons_mk (Below.trod Tryd.laidOut (by kernel_rfl) (of_decide_eq_true (by kernel_rfl)) hk0 hb hlt0) trodAll_mk0), rfl, hb.frame _, fun h => by cases h⟩

theorem over : Rows.recordParsesRow.holds Tryd.pinned (OpenSpec.ofChange Rows.recordParsesSpec) :=
  OpenClaim.holds_of_wide 4 Tryd.f4 rfl rfl rfl rfl rfl rfl rfl ⟨rfl, rfl, rfl, rfl, rfl⟩ rfl rfl rfl rfl rfl (by kernel_rfl) Tryd.func4 (by kernel_rfl)
    (of_decide_eq_true (by kernel_rfl)) (by unfold Func.isWrapper; first | (rw [if_pos (by decide +kernel)]; kernel_rfl) | (rw [if_neg (by decide +kernel)]; exact ⟨rfl, rfl⟩))
    (fun os started H enc _ => lifted os started H enc)

theorem card : Rows.RecordParsesCardSaid :=
  Claim7.holds_tied_plain_at .later [] [.data, .data] true (true, "875b16e5fcb2ccc823f28e185639766048f68080d49968449cd66f96e9b9ab4d") true
    over (fun _ h => by cases h) (by kernel_rfl) (fun _ h => by cases h) recordParses_row_tie rfl ⟨rfl, rfl⟩ (by kernel_rfl) rfl
    (fun f fn hf hfn => by
      obtain rfl : f = 4 := Option.some.inj ((show Tryd.prog.funcNamed "saltern/salternlaw13.RecordParses" = some 4 by kernel_rfl).symm.trans hf) |>.symm
      obtain rfl : fn = Tryd.f4 := (Option.some.inj (Tryd.func4.symm.trans hfn)).symm
      exact ⟨by kernel_rfl, fun j t ht => by
        rw [Tryd.params4] at ht
        have hm : t ∈ [29] := by simpa using Array.mem_of_getElem? ht
        have hall : ([29].all fun u => !Tryd.prog.wantsStandIn u) = true := by kernel_rfl
        exact (show Tryd.prog.wantsStandIn t = false by simpa using List.all_eq_true.1 hall t hm)⟩)
    (by kernel_rfl)

end Go.Proofs.YtpbaacplgohniaaDoor.recordParses
namespace Go.Proofs.YtpbaacplgohniaaDoor
theorem recordParses_holds : Rows.RecordParsesCardSaid := recordParses.card
#print axioms recordParses_holds
end Go.Proofs.YtpbaacplgohniaaDoor
