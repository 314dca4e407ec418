/-
  hold behind a short catalogue, where it reaches the mark.
-/
import Derived.Test.YtplinkmagnihmaaDoorCkJd
namespace Go.Proofs.YtplinkmagnihmaaDoor
open Go.ChangeShapes Go.WideShapes Go.ChangeAt Go.RowKit Go.Deep Go.Lib
set_option maxHeartbeats 6400000 in
set_option maxRecDepth 100000 in
theorem hold_5ttft(W0 w:World)(A mp nn:Nat)(ka:Option Addr)(kc:Nat)(key:List Nat)(ha:Option Addr)(hc:Nat)(hs:List Hd)(ma:Option Addr)(mc:Nat)(ms:List Mrk)(i:Nat)(D:DataW Value)(fI fK:Int)(h:Hc W0 w A mp nn ka kc key ha hc hs ma mc ms i D (5,fI,fK))(hR:decide ((ms.getD i mkZ).2.1.1<(hs.length:Int))=true)(hH:hasB hs (ms.getD i mkZ).2.1=true)(hF:decide ((ms.getD (fst1 ms i) mkZ).2.1=(ms.getD i mkZ).2.1)=true)(hS:sealedB key (ms.getD i mkZ)=true):
 Calls Tryd.prog 32 #[.pointer (some ⟨A,0,none⟩),.int .i64 (i:Int)] w (HoP W0 A mp (.slice ka key.length kc) (.slice ha hs.length hc) (.slice ma ms.length mc) ms i (5,fI,fK)):=by
 have hmost:=h.mrow.most
 have hroom:=h.mrow.room
 unfold maxLen at hmost
 have hilt:=h.ilt
 have HNE:=hid h.ne
 obtain⟨b,off,rfl,hbw,hcc⟩:=h.mrow.cells (by omega)
 obtain⟨m,hm⟩:∃m,m=ms.getD i mkZ:=⟨_,rfl⟩
 have hmk:MOk m:=by rw[hm];exact mk_get hilt h.mok
 have hcm:=hcc i hilt
 rw[<-hm] at hcm
 have HMR:=hid (fun X (hX:Below W0.heap.size W0 X)=>range_later hcm hX hbw)
 have HMK:=hid hmk
 have HLM:=hid (mkV_len hmk)
 have HLZ:=hid (mkV_len mkZ_ok)
 have HHL:=hid (hdV_len hmk.hd.len)
 have HMM:=hid hm
 obtain⟨mn,hmn⟩:∃n,n=ms.length:=⟨_,rfl⟩
 obtain⟨hn,hhn⟩:∃n,n=hs.length:=⟨_,rfl⟩
 obtain⟨kn,hkn⟩:∃n,n=key.length:=⟨_,rfl⟩
 have HA0:=hid h.blk
 have HKR:=hid (fun X (hX:Below W0.heap.size W0 X)=>h.krd.later hX)
 have HBW:=hid h.bel
 have HO0:=hid h.own
 have HHC:=hid h
 have him:(i:Int)<(mn:Int):=by omega
 have hi5:i<=100000:=by have:=h.mfew;omega
 rw[<-hmn,<-hhn,<-hkn] at HA0
 rw[<-hmn] at hroom
 have HMN:=hid hmn
 have HHN:=hid hhn
 have HKN:=hid hkn
 have HZ:=hid Tryd.zero45
 rw[<-hm] at hR hH hF hS
 have HFR:Hid (decide (m.2.1.1<(hn:Int))=true):=by show _=_;rw[hhn];exact hR
 have HFH:Hid (hasB hs m.2.1=true):=hH
 have HFF:Hid (decide ((ms.getD (fst1 ms i) mkZ).2.1=m.2.1)=true):=hF
 have HFS:Hid (sealedB key m=true):=hS
 clear hR hH hF hS
 have hk0:=fst1_lt hilt
 have hcf:=hcc (fst1 ms i) (by omega)
 have hyl:(ms.getD (fst1 ms i) mkZ).2.1.2.2.length=32:=(mk_get (show fst1 ms i<ms.length by omega) h.mok).hd.len
 have hkm:(fst1 ms i:Int)<(mn:Int):=by omega
 obtain⟨k1,hk1⟩:∃k,k=fst1 ms i:=⟨_,rfl⟩
 rw[<-hk1] at hcf hyl hkm hk0 HFF
 obtain⟨y,hy⟩:∃y,y=ms.getD k1 mkZ:=⟨_,rfl⟩
 rw[<-hy] at hcf hyl HFF
 have HYR:=hid (fun X (hX:Below W0.heap.size W0 X)=>range_later hcf hX hbw)
 have HYL:=hid (hdV_len hyl)
 have HEQ:=hid (fun V=>eq55 y.2.1 m.2.1 hyl HMK.out.hd.len V)
 rw[HFF.out] at HEQ
 have HK1:=hid hk1
 clear hy hyl hcf hk1
 clear h hcc hmk hcm hm hmn hhn hkn hilt
 unfold HoP
 rw[<-HMN.out,<-HHN.out,<-HKN.out]
 obtain⟨T,hT⟩:∃T,T=w.heap.size:=⟨_,rfl⟩
 have HTQ:=hid hT
 have HTA:Hid (A≠T):=by show _≠_;rw[hT];exact Nat.ne_of_lt (blk_lt HA0.out)
 have c2_w:=(Joins.cell_of_block HA0.out 2).trans (show _=some (Value.slice (some ⟨b,off,none⟩) mn mc) from rfl)
 clear hT
 go_enter Tryd.func32,Tryd.ntmps32
 go_wp2_with (first | refine wpList_load_P rfl 45 _ rfl b (off+i*67) rfl (mkV m) _ (HMR.out _ HBW.out) Tryd.underlying45 rfl (by rw[HLM.out];exact Tryd.size45) ?_ | refine wpList_alloc_W rfl 45 rfl (some 4) rfl _ HZ.out T HTQ.out ?_ | fail)
 intro V1 HG1 HBl1 HS1
 go_wp2_with (first | refine wpList_store_W rfl 45 _ _ rfl rfl T (mkV m).toArray rfl rfl 45 _ HG1.out (by rw[List.size_toArray,HLM.out];exact Tryd.size45) (by rw[List.size_toArray,List.size_toArray,HLM.out,HLZ.out]) (all_oneCell_toArray (mkV_one _)) ?_ | fail)
 intro V2 HT_V2 HGR2 HS2
 have hb_V2:Below w.heap.size w V2:=by
  rw[<-HTQ.out]
  exact HBl1.out.trans (bel_grown HGR2.out (Nat.le_refl _) (by rw[HTQ.out];exact HBl1.out.size))
 have HB_V2:=hid (Bn HBW.out hb_V2)
 have HA_V2:=hid (blk_later HA0.out hb_V2)
 have HO_V2:=hid (HO0.out.kept (grown_bel (r:=none) hb_V2) (by simp))
 have c4_V2:=(Joins.cell_of_block HA_V2.out 4).trans (show _=some (Value.int .i64 5) from rfl)
 clear hb_V2 HG1 HBl1 HS1 HGR2 HS2 HBW HA0 HO0 c2_w HTQ HMR
 go_wp2_with (first | refine wpList_load_P rfl 27 _ rfl T 1 rfl (hdV m.2.1) _ (mk_hd (blk_range HT_V2.out)) Tryd.underlying27 rfl (by rw[HHL.out];exact Tryd.size27) ?_ | fail)
 refine(reaches_word A (.slice ka kn kc) (.slice (some ⟨b,off,none⟩) mn mc) ha hn hc mp (5,fI,fK) m.2.1 V2 HA_V2.out HMK.out.hd.len).mono ?_
 rintro _ V3 ⟨rfl,hb_V3⟩
 rw[HFR.out]
 clear c4_V2
 have HB_V3:=hid (Bn HB_V2.out hb_V3)
 have HA_V3:=hid (blk_later HA_V2.out hb_V3)
 have HT_V3:=hid (blk_later HT_V2.out hb_V3)
 have HO_V3:=hid (HO_V2.out.kept (grown_bel (r:=none) hb_V3) (by simp))
 clear hb_V3 HB_V2 HA_V2 HT_V2 HO_V2
 go_wp2_with (first | refine wpList_load_g rfl 27 _ rfl T 1 rfl (hdV m.2.1) _ (mk_hd (blk_range HT_V3.out)) Tryd.underlying27 rfl (by rw[HHL.out];exact Tryd.size27) ?_ | fail)
 refine(has_word A (.slice ka kn kc) (.slice (some ⟨b,off,none⟩) mn mc) ha hn hc mp (5,fI,fK) m.2.1 hs V3 HA_V3.out HMK.out.hd.len (HHC.out.hrow.later HB_V3.out) HHN.out (of_decide_eq_true HFR.out) HHC.out.h32).mono ?_
 rintro _ V4 ⟨rfl,hb_V4⟩
 rw[HFH.out]
 have HB_V4:=hid (Bn HB_V3.out hb_V4)
 have HA_V4:=hid (blk_later HA_V3.out hb_V4)
 have HT_V4:=hid (blk_later HT_V3.out hb_V4)
 have HO_V4:=hid (HO_V3.out.kept (grown_bel (r:=none) hb_V4) (by simp))
 clear hb_V4 HB_V3 HA_V3 HT_V3 HO_V3
 go_wp2_with fail
 refine(first_word A (.slice ka kn kc) (.slice ha hn hc) (some ⟨b,off,none⟩) mn mc mp nn (5,fI,fK) ms i D V4 HA_V4.out (HHC.out.mrow.later HB_V4.out) HMN.out HHC.out.ilt HHC.out.mfew HHC.out.mok HO_V4.out (Nat.le_trans HHC.out.nfew (Nat.le_trans (Nat.le_of_lt HHC.out.ilt) HHC.out.mfew)) (HHC.out.fs (show(4:Int)<=5 by decide))).mono ?_
 rintro _ V5 ⟨rfl,D2,nn2,ho_V5,hn_V5,hf_V5,hg_V5⟩
 rw[<-HK1.out]
 have HB_V5:Hid (Below W0.heap.size W0 V5):=HB_V4.out.trans (bel_grown hg_V5 HHC.out.mge HB_V4.out.size)
 have HA_V5:=hid ((hg_V5.block A (blk_lt HA_V4.out) (fun e=>by injection e with e;exact HNE.out e)).trans HA_V4.out)
 have HT_V5:Hid (V5.heap[T]?=some (.cells (mkV m).toArray 45)):=(hg_V5.block T (blk_lt HT_V4.out) (fun e=>by injection e with e;obtain⟨es,clock,hq,_⟩:=HO_V4.out;have ht:=HT_V4.out;rw[e,hq] at ht;cases ht)).trans HT_V4.out
 have HO_V5:=hid ho_V5
 have HN2:Hid (nn2<=i+1):=Nat.le_trans hn_V5 (Nat.succ_le_succ HHC.out.nfew)
 have HF2:=hid hf_V5
 clear ho_V5 hn_V5 hf_V5 hg_V5 HB_V4 HA_V4 HT_V4 HO_V4
 go_wp2_with fail
 refine wp_region_held_drew (S:=fun X=>Below V5.heap.size V5 X) (by kernel_rfl) (Below.refl _ _).drew (fun hS_V6=>?_)
 have hd_V6:Below V5.heap.size V5 V5.drew:=(Below.refl _ _).drew
 generalize V5.drew=V6 at *
 simp only[List.size_toArray,List.length_cons,List.length_nil,Nat.reduceAdd]
 have HC2:=hid (fun X (hX:Below V5.heap.size V5 X)=>(Joins.cell_of_block (blk_later HA_V5.out hX) 2).trans (show _=some (Value.slice (some ⟨b,off,none⟩) mn mc) from rfl))
 have HL1:=hid (fun X (hX:Below V5.heap.size V5 X)=>mk_hd (HYR.out X (Bn HB_V5.out hX)))
 have HL2:=hid (fun X (hX:Below V5.heap.size V5 X)=>mk_hd (blk_range (blk_later HT_V5.out hX)))
 refine Ord.take (i:=0) (d:=55) (v:=?vQ0) rfl rfl (by as_aux_lemma=>kernel_rfl) (by as_aux_lemma=>kernel_rfl) (by as_aux_lemma=>kernel_rfl) (fun _ _ _ h=>h) (by rfl) ?hQ0 (by assumption) ?_
 case hQ0=>intro wx hSw;go_simp;try with_reducible rfl
 try simp only[List.setIfInBounds_toArray,List.set_cons_zero,List.set_cons_succ]
 refine Ord.take (i:=1) (d:=56) (v:=?vQ1) rfl rfl (by as_aux_lemma=>kernel_rfl) (by as_aux_lemma=>kernel_rfl) (by as_aux_lemma=>kernel_rfl) (fun _ _ _ h=>h) (by rfl) ?hQ1 (by assumption) ?_
 case hQ1=>intro wx hSw;go_simp;try with_reducible rfl
 try simp only[List.setIfInBounds_toArray,List.set_cons_zero,List.set_cons_succ]
 refine Ord.take (i:=2) (d:=57) (v:=?vQ2) rfl rfl (by as_aux_lemma=>kernel_rfl) (by as_aux_lemma=>kernel_rfl) (by as_aux_lemma=>kernel_rfl) (fun _ _ _ h=>h) (by rfl) ?hQ2 (by assumption) ?_
 case hQ2=>intro wx hSw;go_simp;try with_reducible rfl
 try simp only[List.setIfInBounds_toArray,List.set_cons_zero,List.set_cons_succ]
 refine Ord.take (i:=3) (d:=58) (v:= .slice (some ⟨b,off,none⟩) mn mc) rfl rfl (by as_aux_lemma=>kernel_rfl) (by as_aux_lemma=>kernel_rfl) (by as_aux_lemma=>kernel_rfl) (fun _ _ _ h=>h) (by rfl) ?hQ3 (by assumption) ?_
 case hQ3=>intro wx hSw;have hc:=HC2.out _ hSw;go_simp;try with_reducible rfl
 try simp only[List.setIfInBounds_toArray,List.set_cons_zero,List.set_cons_succ]
 refine Ord.take (i:=4) (d:=59) (v:=?vQ4) rfl rfl (by as_aux_lemma=>kernel_rfl) (by as_aux_lemma=>kernel_rfl) (by as_aux_lemma=>kernel_rfl) (fun _ _ _ h=>h) (by rfl) ?hQ4 (by assumption) ?_
 case hQ4=>intro wx hSw;go_simp;try with_reducible rfl
 try simp only[List.setIfInBounds_toArray,List.set_cons_zero,List.set_cons_succ]
 refine Ord.take (i:=5) (d:=60) (v:=?vQ5) rfl rfl (by as_aux_lemma=>kernel_rfl) (by as_aux_lemma=>kernel_rfl) (by as_aux_lemma=>kernel_rfl) (fun _ _ _ h=>h) (by rfl) ?hQ5 (by assumption) ?_
 case hQ5=>intro wx hSw;go_simp;try with_reducible rfl
 try simp only[List.setIfInBounds_toArray,List.set_cons_zero,List.set_cons_succ]
 refine Ord.take (i:=6) (d:=61) (v:=?vQ6) rfl rfl (by as_aux_lemma=>kernel_rfl) (by as_aux_lemma=>kernel_rfl) (by as_aux_lemma=>kernel_rfl) (fun _ _ _ h=>h) (by rfl) ?hQ6 (by assumption) ?_
 case hQ6=>intro wx hSw;go_simp;try with_reducible rfl
 try simp only[List.setIfInBounds_toArray,List.set_cons_zero,List.set_cons_succ]
 refine Ord.take (i:=7) (d:=62) (v:= .agg (hdV y.2.1).toArray) rfl rfl (by as_aux_lemma=>kernel_rfl) (by as_aux_lemma=>kernel_rfl) (by as_aux_lemma=>kernel_rfl) (fun _ _ _ h=>h) (by rfl) ?hQ7 (by assumption) ?_
 case hQ7=>intro wx hSw;exact exec_load 27 (.tmp 61) rfl b (off+k1*67+1) rfl (run_loadVar_mid wx b (off+k1*67+1) 27 (hdV y.2.1) _ (HL1.out _ hSw) Tryd.underlying27 rfl (by rw[HYL.out];exact Tryd.size27))
 try simp only[List.setIfInBounds_toArray,List.set_cons_zero,List.set_cons_succ]
 refine Ord.take (i:=8) (d:=63) (v:=?vQ8) rfl rfl (by as_aux_lemma=>kernel_rfl) (by as_aux_lemma=>kernel_rfl) (by as_aux_lemma=>kernel_rfl) (fun _ _ _ h=>h) (by rfl) ?hQ8 (by assumption) ?_
 case hQ8=>intro wx hSw;go_simp;try with_reducible rfl
 try simp only[List.setIfInBounds_toArray,List.set_cons_zero,List.set_cons_succ]
 refine Ord.take (i:=9) (d:=64) (v:= .agg (hdV m.2.1).toArray) rfl rfl (by as_aux_lemma=>kernel_rfl) (by as_aux_lemma=>kernel_rfl) (by as_aux_lemma=>kernel_rfl) (fun _ _ _ h=>h) (by rfl) ?hQ9 (by assumption) ?_
 case hQ9=>intro wx hSw;exact exec_load 27 (.tmp 63) rfl T 1 rfl (run_loadVar_mid wx T 1 27 (hdV m.2.1) _ (HL2.out _ hSw) Tryd.underlying27 rfl (by rw[HHL.out];exact Tryd.size27))
 try simp only[List.setIfInBounds_toArray,List.set_cons_zero,List.set_cons_succ]
 refine Ord.take (i:=10) (d:=65) (v:= .bool false) rfl rfl (by as_aux_lemma=>kernel_rfl) (by as_aux_lemma=>kernel_rfl) (by as_aux_lemma=>kernel_rfl) (fun _ _ _ h=>h) (by rfl) ?hQ10 (by assumption) ?_
 case hQ10=>intro wx hSw;exact run_neq_op rfl rfl rfl guard55 (HEQ.out _)
 try simp only[List.setIfInBounds_toArray,List.set_cons_zero,List.set_cons_succ]
 refine wpAnyH_done (by as_aux_lemma=>kernel_rfl) ?_ _
 have hb_V6:=hd_V6
 clear hS_V6 hd_V6 HC2 HL1 HL2
 have HB_V6:=hid (Bn HB_V5.out hb_V6)
 have HA_V6:=hid (blk_later HA_V5.out hb_V6)
 have HT_V6:=hid (blk_later HT_V5.out hb_V6)
 have HO_V6:=hid (HO_V5.out.kept (grown_bel (r:=none) hb_V6) (by simp))
 clear hb_V6 HB_V5 HA_V5 HT_V5 HO_V5
 go_wp2_with fail
 refine wp_region_held_drew (S:=fun X=>Below V6.heap.size V6 X) (by kernel_rfl) (Below.refl _ _).drew (fun hS_V7=>?_)
 have hd_V7:Below V6.heap.size V6 V6.drew:=(Below.refl _ _).drew
 generalize V6.drew=V7 at *
 simp only[List.size_toArray,List.length_cons,List.length_nil,Nat.reduceAdd]
 have HC2:=hid (fun X (hX:Below V6.heap.size V6 X)=>(Joins.cell_of_block (blk_later HA_V6.out hX) 0).trans (show _=some (Value.slice ka kn kc) from rfl))
 have HL2:=hid (fun X (hX:Below V6.heap.size V6 X)=>blk_range (blk_later HT_V6.out hX))
 refine Ord.take (i:=0) (d:=72) (v:=?vZ0) rfl rfl (by as_aux_lemma=>kernel_rfl) (by as_aux_lemma=>kernel_rfl) (by as_aux_lemma=>kernel_rfl) (fun _ _ _ h=>h) (by rfl) ?hZ0 (by assumption) ?_
 case hZ0=>intro wx hSw;go_simp;try with_reducible rfl
 try simp only[List.setIfInBounds_toArray,List.set_cons_zero,List.set_cons_succ]
 refine Ord.take (i:=1) (d:=73) (v:=?vZ1) rfl rfl (by as_aux_lemma=>kernel_rfl) (by as_aux_lemma=>kernel_rfl) (by as_aux_lemma=>kernel_rfl) (fun _ _ _ h=>h) (by rfl) ?hZ1 (by assumption) ?_
 case hZ1=>intro wx hSw;go_simp;try with_reducible rfl
 try simp only[List.setIfInBounds_toArray,List.set_cons_zero,List.set_cons_succ]
 refine Ord.take (i:=2) (d:=74) (v:=?vZ2) rfl rfl (by as_aux_lemma=>kernel_rfl) (by as_aux_lemma=>kernel_rfl) (by as_aux_lemma=>kernel_rfl) (fun _ _ _ h=>h) (by rfl) ?hZ2 (by assumption) ?_
 case hZ2=>intro wx hSw;go_simp;try with_reducible rfl
 try simp only[List.setIfInBounds_toArray,List.set_cons_zero,List.set_cons_succ]
 refine Ord.take (i:=3) (d:=75) (v:= .slice ka kn kc) rfl rfl (by as_aux_lemma=>kernel_rfl) (by as_aux_lemma=>kernel_rfl) (by as_aux_lemma=>kernel_rfl) (fun _ _ _ h=>h) (by rfl) ?hZ3 (by assumption) ?_
 case hZ3=>intro wx hSw;have hc:=HC2.out _ hSw;go_simp;try with_reducible rfl
 try simp only[List.setIfInBounds_toArray,List.set_cons_zero,List.set_cons_succ]
 refine Ord.take (i:=4) (d:=76) (v:= .agg (mkV m).toArray) rfl rfl (by as_aux_lemma=>kernel_rfl) (by as_aux_lemma=>kernel_rfl) (by as_aux_lemma=>kernel_rfl) (fun _ _ _ h=>h) (by rfl) ?hZ4 (by assumption) ?_
 case hZ4=>intro wx hSw;exact exec_load 45 (.tmp 4) rfl T 0 rfl (run_loadVar_mid wx T 0 45 (mkV m) _ (HL2.out _ hSw) Tryd.underlying45 rfl (by rw[HLM.out];exact Tryd.size45))
 try simp only[List.setIfInBounds_toArray,List.set_cons_zero,List.set_cons_succ]
 refine wpAnyH_ready (rs:= [5]) (by as_aux_lemma=>kernel_rfl) (by simp) (AllReadyH.cons rfl (fun K hK=>?_) AllReadyH.nil)
 go_simp
 have hsw:=sealed_word ka kc key m V7 (HHC.out.laid.later (Bn HB_V6.out hd_V7)) (HKR.out _ (Bn HB_V6.out hd_V7)) HHC.out.kfew HMK.out
 rw[<-HKN.out] at hsw
 refine hsw.mono ?_
 rintro _ V8 ⟨rfl,hb1⟩
 have hS_V8:Below V6.heap.size V6 V8:=Bn hS_V7 hb1
 have hd_V8:Below V6.heap.size V6 V8:=hS_V8
 rw[HFS.out]
 refine hK.out _ _ hS_V8 (fun _=>?_)
 clear hK K hsw hb1
 try simp only[List.setIfInBounds_toArray,List.set_cons_zero,List.set_cons_succ]
 refine Ord.take (i:=6) (d:=78) (v:= .bool false) rfl rfl (by as_aux_lemma=>kernel_rfl) (by as_aux_lemma=>kernel_rfl) (by as_aux_lemma=>kernel_rfl) (fun _ _ _ h=>h) (by rfl) ?hZ6 (by assumption) ?_
 case hZ6=>intro wx hSw;go_simp;try with_reducible rfl
 try simp only[List.setIfInBounds_toArray,List.set_cons_zero,List.set_cons_succ]
 refine wpAnyH_done (by as_aux_lemma=>kernel_rfl) ?_ _
 have hb_V8:=hd_V8
 clear hS_V7 hd_V7 hS_V8 hd_V8 HC2 HL2
 have HB_V8:=hid (Bn HB_V6.out hb_V8)
 have HA_V8:=hid (blk_later HA_V6.out hb_V8)
 have HT_V8:=hid (blk_later HT_V6.out hb_V8)
 have HO_V8:=hid (HO_V6.out.kept (grown_bel (r:=none) hb_V8) (by simp))
 clear hb_V8 HB_V6 HA_V6 HT_V6 HO_V6
 go_wp2
 go_end0
 exact⟨rfl,HB_V8.out,HA_V8.out,D2,nn2,HO_V8.out,HN2.out,fun _=>HF2.out⟩
set_option maxHeartbeats 6400000 in
set_option maxRecDepth 100000 in
theorem hold_5ttff(W0 w:World)(A mp nn:Nat)(ka:Option Addr)(kc:Nat)(key:List Nat)(ha:Option Addr)(hc:Nat)(hs:List Hd)(ma:Option Addr)(mc:Nat)(ms:List Mrk)(i:Nat)(D:DataW Value)(fI fK:Int)(h:Hc W0 w A mp nn ka kc key ha hc hs ma mc ms i D (5,fI,fK))(hR:decide ((ms.getD i mkZ).2.1.1<(hs.length:Int))=true)(hH:hasB hs (ms.getD i mkZ).2.1=true)(hF:decide ((ms.getD (fst1 ms i) mkZ).2.1=(ms.getD i mkZ).2.1)=true)(hS:sealedB key (ms.getD i mkZ)=false):
 Calls Tryd.prog 32 #[.pointer (some ⟨A,0,none⟩),.int .i64 (i:Int)] w (HoP W0 A mp (.slice ka key.length kc) (.slice ha hs.length hc) (.slice ma ms.length mc) ms i (2,(i:Int),0)):=by
 have hmost:=h.mrow.most
 have hroom:=h.mrow.room
 unfold maxLen at hmost
 have hilt:=h.ilt
 have HNE:=hid h.ne
 obtain⟨b,off,rfl,hbw,hcc⟩:=h.mrow.cells (by omega)
 obtain⟨m,hm⟩:∃m,m=ms.getD i mkZ:=⟨_,rfl⟩
 have hmk:MOk m:=by rw[hm];exact mk_get hilt h.mok
 have hcm:=hcc i hilt
 rw[<-hm] at hcm
 have HMR:=hid (fun X (hX:Below W0.heap.size W0 X)=>range_later hcm hX hbw)
 have HMK:=hid hmk
 have HLM:=hid (mkV_len hmk)
 have HLZ:=hid (mkV_len mkZ_ok)
 have HHL:=hid (hdV_len hmk.hd.len)
 have HMM:=hid hm
 obtain⟨mn,hmn⟩:∃n,n=ms.length:=⟨_,rfl⟩
 obtain⟨hn,hhn⟩:∃n,n=hs.length:=⟨_,rfl⟩
 obtain⟨kn,hkn⟩:∃n,n=key.length:=⟨_,rfl⟩
 have HA0:=hid h.blk
 have HKR:=hid (fun X (hX:Below W0.heap.size W0 X)=>h.krd.later hX)
 have HBW:=hid h.bel
 have HO0:=hid h.own
 have HHC:=hid h
 have him:(i:Int)<(mn:Int):=by omega
 have hi5:i<=100000:=by have:=h.mfew;omega
 rw[<-hmn,<-hhn,<-hkn] at HA0
 rw[<-hmn] at hroom
 have HMN:=hid hmn
 have HHN:=hid hhn
 have HKN:=hid hkn
 have HZ:=hid Tryd.zero45
 rw[<-hm] at hR hH hF hS
 have HFR:Hid (decide (m.2.1.1<(hn:Int))=true):=by show _=_;rw[hhn];exact hR
 have HFH:Hid (hasB hs m.2.1=true):=hH
 have HFF:Hid (decide ((ms.getD (fst1 ms i) mkZ).2.1=m.2.1)=true):=hF
 have HFS:Hid (sealedB key m=false):=hS
 clear hR hH hF hS
 have hk0:=fst1_lt hilt
 have hcf:=hcc (fst1 ms i) (by omega)
 have hyl:(ms.getD (fst1 ms i) mkZ).2.1.2.2.length=32:=(mk_get (show fst1 ms i<ms.length by omega) h.mok).hd.len
 have hkm:(fst1 ms i:Int)<(mn:Int):=by omega
 obtain⟨k1,hk1⟩:∃k,k=fst1 ms i:=⟨_,rfl⟩
 rw[<-hk1] at hcf hyl hkm hk0 HFF
 obtain⟨y,hy⟩:∃y,y=ms.getD k1 mkZ:=⟨_,rfl⟩
 rw[<-hy] at hcf hyl HFF
 have HYR:=hid (fun X (hX:Below W0.heap.size W0 X)=>range_later hcf hX hbw)
 have HYL:=hid (hdV_len hyl)
 have HEQ:=hid (fun V=>eq55 y.2.1 m.2.1 hyl HMK.out.hd.len V)
 rw[HFF.out] at HEQ
 have HK1:=hid hk1
 clear hy hyl hcf hk1
 clear h hcc hmk hcm hm hmn hhn hkn hilt
 unfold HoP
 rw[<-HMN.out,<-HHN.out,<-HKN.out]
 obtain⟨T,hT⟩:∃T,T=w.heap.size:=⟨_,rfl⟩
 have HTQ:=hid hT
 have HTA:Hid (A≠T):=by show _≠_;rw[hT];exact Nat.ne_of_lt (blk_lt HA0.out)
 have c2_w:=(Joins.cell_of_block HA0.out 2).trans (show _=some (Value.slice (some ⟨b,off,none⟩) mn mc) from rfl)
 clear hT
 go_enter Tryd.func32,Tryd.ntmps32
 go_wp2_with (first | refine wpList_load_P rfl 45 _ rfl b (off+i*67) rfl (mkV m) _ (HMR.out _ HBW.out) Tryd.underlying45 rfl (by rw[HLM.out];exact Tryd.size45) ?_ | refine wpList_alloc_W rfl 45 rfl (some 4) rfl _ HZ.out T HTQ.out ?_ | fail)
 intro V1 HG1 HBl1 HS1
 go_wp2_with (first | refine wpList_store_W rfl 45 _ _ rfl rfl T (mkV m).toArray rfl rfl 45 _ HG1.out (by rw[List.size_toArray,HLM.out];exact Tryd.size45) (by rw[List.size_toArray,List.size_toArray,HLM.out,HLZ.out]) (all_oneCell_toArray (mkV_one _)) ?_ | fail)
 intro V2 HT_V2 HGR2 HS2
 have hb_V2:Below w.heap.size w V2:=by
  rw[<-HTQ.out]
  exact HBl1.out.trans (bel_grown HGR2.out (Nat.le_refl _) (by rw[HTQ.out];exact HBl1.out.size))
 have HB_V2:=hid (Bn HBW.out hb_V2)
 have HA_V2:=hid (blk_later HA0.out hb_V2)
 have HO_V2:=hid (HO0.out.kept (grown_bel (r:=none) hb_V2) (by simp))
 have c4_V2:=(Joins.cell_of_block HA_V2.out 4).trans (show _=some (Value.int .i64 5) from rfl)
 clear hb_V2 HG1 HBl1 HS1 HGR2 HS2 HBW HA0 HO0 c2_w HTQ HMR
 go_wp2_with (first | refine wpList_load_P rfl 27 _ rfl T 1 rfl (hdV m.2.1) _ (mk_hd (blk_range HT_V2.out)) Tryd.underlying27 rfl (by rw[HHL.out];exact Tryd.size27) ?_ | fail)
 refine(reaches_word A (.slice ka kn kc) (.slice (some ⟨b,off,none⟩) mn mc) ha hn hc mp (5,fI,fK) m.2.1 V2 HA_V2.out HMK.out.hd.len).mono ?_
 rintro _ V3 ⟨rfl,hb_V3⟩
 rw[HFR.out]
 clear c4_V2
 have HB_V3:=hid (Bn HB_V2.out hb_V3)
 have HA_V3:=hid (blk_later HA_V2.out hb_V3)
 have HT_V3:=hid (blk_later HT_V2.out hb_V3)
 have HO_V3:=hid (HO_V2.out.kept (grown_bel (r:=none) hb_V3) (by simp))
 clear hb_V3 HB_V2 HA_V2 HT_V2 HO_V2
 go_wp2_with (first | refine wpList_load_g rfl 27 _ rfl T 1 rfl (hdV m.2.1) _ (mk_hd (blk_range HT_V3.out)) Tryd.underlying27 rfl (by rw[HHL.out];exact Tryd.size27) ?_ | fail)
 refine(has_word A (.slice ka kn kc) (.slice (some ⟨b,off,none⟩) mn mc) ha hn hc mp (5,fI,fK) m.2.1 hs V3 HA_V3.out HMK.out.hd.len (HHC.out.hrow.later HB_V3.out) HHN.out (of_decide_eq_true HFR.out) HHC.out.h32).mono ?_
 rintro _ V4 ⟨rfl,hb_V4⟩
 rw[HFH.out]
 have HB_V4:=hid (Bn HB_V3.out hb_V4)
 have HA_V4:=hid (blk_later HA_V3.out hb_V4)
 have HT_V4:=hid (blk_later HT_V3.out hb_V4)
 have HO_V4:=hid (HO_V3.out.kept (grown_bel (r:=none) hb_V4) (by simp))
 clear hb_V4 HB_V3 HA_V3 HT_V3 HO_V3
 go_wp2_with fail
 refine(first_word A (.slice ka kn kc) (.slice ha hn hc) (some ⟨b,off,none⟩) mn mc mp nn (5,fI,fK) ms i D V4 HA_V4.out (HHC.out.mrow.later HB_V4.out) HMN.out HHC.out.ilt HHC.out.mfew HHC.out.mok HO_V4.out (Nat.le_trans HHC.out.nfew (Nat.le_trans (Nat.le_of_lt HHC.out.ilt) HHC.out.mfew)) (HHC.out.fs (show(4:Int)<=5 by decide))).mono ?_
 rintro _ V5 ⟨rfl,D2,nn2,ho_V5,hn_V5,hf_V5,hg_V5⟩
 rw[<-HK1.out]
 have HB_V5:Hid (Below W0.heap.size W0 V5):=HB_V4.out.trans (bel_grown hg_V5 HHC.out.mge HB_V4.out.size)
 have HA_V5:=hid ((hg_V5.block A (blk_lt HA_V4.out) (fun e=>by injection e with e;exact HNE.out e)).trans HA_V4.out)
 have HT_V5:Hid (V5.heap[T]?=some (.cells (mkV m).toArray 45)):=(hg_V5.block T (blk_lt HT_V4.out) (fun e=>by injection e with e;obtain⟨es,clock,hq,_⟩:=HO_V4.out;have ht:=HT_V4.out;rw[e,hq] at ht;cases ht)).trans HT_V4.out
 have HO_V5:=hid ho_V5
 have HN2:Hid (nn2<=i+1):=Nat.le_trans hn_V5 (Nat.succ_le_succ HHC.out.nfew)
 have HF2:=hid hf_V5
 clear ho_V5 hn_V5 hf_V5 hg_V5 HB_V4 HA_V4 HT_V4 HO_V4
 go_wp2_with fail
 refine wp_region_held_drew (S:=fun X=>Below V5.heap.size V5 X) (by kernel_rfl) (Below.refl _ _).drew (fun hS_V6=>?_)
 have hd_V6:Below V5.heap.size V5 V5.drew:=(Below.refl _ _).drew
 generalize V5.drew=V6 at *
 simp only[List.size_toArray,List.length_cons,List.length_nil,Nat.reduceAdd]
 have HC2:=hid (fun X (hX:Below V5.heap.size V5 X)=>(Joins.cell_of_block (blk_later HA_V5.out hX) 2).trans (show _=some (Value.slice (some ⟨b,off,none⟩) mn mc) from rfl))
 have HL1:=hid (fun X (hX:Below V5.heap.size V5 X)=>mk_hd (HYR.out X (Bn HB_V5.out hX)))
 have HL2:=hid (fun X (hX:Below V5.heap.size V5 X)=>mk_hd (blk_range (blk_later HT_V5.out hX)))
 refine Ord.take (i:=0) (d:=55) (v:=?vQ0) rfl rfl (by as_aux_lemma=>kernel_rfl) (by as_aux_lemma=>kernel_rfl) (by as_aux_lemma=>kernel_rfl) (fun _ _ _ h=>h) (by rfl) ?hQ0 (by assumption) ?_
 case hQ0=>intro wx hSw;go_simp;try with_reducible rfl
 try simp only[List.setIfInBounds_toArray,List.set_cons_zero,List.set_cons_succ]
 refine Ord.take (i:=1) (d:=56) (v:=?vQ1) rfl rfl (by as_aux_lemma=>kernel_rfl) (by as_aux_lemma=>kernel_rfl) (by as_aux_lemma=>kernel_rfl) (fun _ _ _ h=>h) (by rfl) ?hQ1 (by assumption) ?_
 case hQ1=>intro wx hSw;go_simp;try with_reducible rfl
 try simp only[List.setIfInBounds_toArray,List.set_cons_zero,List.set_cons_succ]
 refine Ord.take (i:=2) (d:=57) (v:=?vQ2) rfl rfl (by as_aux_lemma=>kernel_rfl) (by as_aux_lemma=>kernel_rfl) (by as_aux_lemma=>kernel_rfl) (fun _ _ _ h=>h) (by rfl) ?hQ2 (by assumption) ?_
 case hQ2=>intro wx hSw;go_simp;try with_reducible rfl
 try simp only[List.setIfInBounds_toArray,List.set_cons_zero,List.set_cons_succ]
 refine Ord.take (i:=3) (d:=58) (v:= .slice (some ⟨b,off,none⟩) mn mc) rfl rfl (by as_aux_lemma=>kernel_rfl) (by as_aux_lemma=>kernel_rfl) (by as_aux_lemma=>kernel_rfl) (fun _ _ _ h=>h) (by rfl) ?hQ3 (by assumption) ?_
 case hQ3=>intro wx hSw;have hc:=HC2.out _ hSw;go_simp;try with_reducible rfl
 try simp only[List.setIfInBounds_toArray,List.set_cons_zero,List.set_cons_succ]
 refine Ord.take (i:=4) (d:=59) (v:=?vQ4) rfl rfl (by as_aux_lemma=>kernel_rfl) (by as_aux_lemma=>kernel_rfl) (by as_aux_lemma=>kernel_rfl) (fun _ _ _ h=>h) (by rfl) ?hQ4 (by assumption) ?_
 case hQ4=>intro wx hSw;go_simp;try with_reducible rfl
 try simp only[List.setIfInBounds_toArray,List.set_cons_zero,List.set_cons_succ]
 refine Ord.take (i:=5) (d:=60) (v:=?vQ5) rfl rfl (by as_aux_lemma=>kernel_rfl) (by as_aux_lemma=>kernel_rfl) (by as_aux_lemma=>kernel_rfl) (fun _ _ _ h=>h) (by rfl) ?hQ5 (by assumption) ?_
 case hQ5=>intro wx hSw;go_simp;try with_reducible rfl
 try simp only[List.setIfInBounds_toArray,List.set_cons_zero,List.set_cons_succ]
 refine Ord.take (i:=6) (d:=61) (v:=?vQ6) rfl rfl (by as_aux_lemma=>kernel_rfl) (by as_aux_lemma=>kernel_rfl) (by as_aux_lemma=>kernel_rfl) (fun _ _ _ h=>h) (by rfl) ?hQ6 (by assumption) ?_
 case hQ6=>intro wx hSw;go_simp;try with_reducible rfl
 try simp only[List.setIfInBounds_toArray,List.set_cons_zero,List.set_cons_succ]
 refine Ord.take (i:=7) (d:=62) (v:= .agg (hdV y.2.1).toArray) rfl rfl (by as_aux_lemma=>kernel_rfl) (by as_aux_lemma=>kernel_rfl) (by as_aux_lemma=>kernel_rfl) (fun _ _ _ h=>h) (by rfl) ?hQ7 (by assumption) ?_
 case hQ7=>intro wx hSw;exact exec_load 27 (.tmp 61) rfl b (off+k1*67+1) rfl (run_loadVar_mid wx b (off+k1*67+1) 27 (hdV y.2.1) _ (HL1.out _ hSw) Tryd.underlying27 rfl (by rw[HYL.out];exact Tryd.size27))
 try simp only[List.setIfInBounds_toArray,List.set_cons_zero,List.set_cons_succ]
 refine Ord.take (i:=8) (d:=63) (v:=?vQ8) rfl rfl (by as_aux_lemma=>kernel_rfl) (by as_aux_lemma=>kernel_rfl) (by as_aux_lemma=>kernel_rfl) (fun _ _ _ h=>h) (by rfl) ?hQ8 (by assumption) ?_
 case hQ8=>intro wx hSw;go_simp;try with_reducible rfl
 try simp only[List.setIfInBounds_toArray,List.set_cons_zero,List.set_cons_succ]
 refine Ord.take (i:=9) (d:=64) (v:= .agg (hdV m.2.1).toArray) rfl rfl (by as_aux_lemma=>kernel_rfl) (by as_aux_lemma=>kernel_rfl) (by as_aux_lemma=>kernel_rfl) (fun _ _ _ h=>h) (by rfl) ?hQ9 (by assumption) ?_
 case hQ9=>intro wx hSw;exact exec_load 27 (.tmp 63) rfl T 1 rfl (run_loadVar_mid wx T 1 27 (hdV m.2.1) _ (HL2.out _ hSw) Tryd.underlying27 rfl (by rw[HHL.out];exact Tryd.size27))
 try simp only[List.setIfInBounds_toArray,List.set_cons_zero,List.set_cons_succ]
 refine Ord.take (i:=10) (d:=65) (v:= .bool false) rfl rfl (by as_aux_lemma=>kernel_rfl) (by as_aux_lemma=>kernel_rfl) (by as_aux_lemma=>kernel_rfl) (fun _ _ _ h=>h) (by rfl) ?hQ10 (by assumption) ?_
 case hQ10=>intro wx hSw;exact run_neq_op rfl rfl rfl guard55 (HEQ.out _)
 try simp only[List.setIfInBounds_toArray,List.set_cons_zero,List.set_cons_succ]
 refine wpAnyH_done (by as_aux_lemma=>kernel_rfl) ?_ _
 have hb_V6:=hd_V6
 clear hS_V6 hd_V6 HC2 HL1 HL2
 have HB_V6:=hid (Bn HB_V5.out hb_V6)
 have HA_V6:=hid (blk_later HA_V5.out hb_V6)
 have HT_V6:=hid (blk_later HT_V5.out hb_V6)
 have HO_V6:=hid (HO_V5.out.kept (grown_bel (r:=none) hb_V6) (by simp))
 clear hb_V6 HB_V5 HA_V5 HT_V5 HO_V5
 go_wp2_with fail
 refine wp_region_held_drew (S:=fun X=>Below V6.heap.size V6 X) (by kernel_rfl) (Below.refl _ _).drew (fun hS_V7=>?_)
 have hd_V7:Below V6.heap.size V6 V6.drew:=(Below.refl _ _).drew
 generalize V6.drew=V7 at *
 simp only[List.size_toArray,List.length_cons,List.length_nil,Nat.reduceAdd]
 have HC2:=hid (fun X (hX:Below V6.heap.size V6 X)=>(Joins.cell_of_block (blk_later HA_V6.out hX) 0).trans (show _=some (Value.slice ka kn kc) from rfl))
 have HL2:=hid (fun X (hX:Below V6.heap.size V6 X)=>blk_range (blk_later HT_V6.out hX))
 refine Ord.take (i:=0) (d:=72) (v:=?vZ0) rfl rfl (by as_aux_lemma=>kernel_rfl) (by as_aux_lemma=>kernel_rfl) (by as_aux_lemma=>kernel_rfl) (fun _ _ _ h=>h) (by rfl) ?hZ0 (by assumption) ?_
 case hZ0=>intro wx hSw;go_simp;try with_reducible rfl
 try simp only[List.setIfInBounds_toArray,List.set_cons_zero,List.set_cons_succ]
 refine Ord.take (i:=1) (d:=73) (v:=?vZ1) rfl rfl (by as_aux_lemma=>kernel_rfl) (by as_aux_lemma=>kernel_rfl) (by as_aux_lemma=>kernel_rfl) (fun _ _ _ h=>h) (by rfl) ?hZ1 (by assumption) ?_
 case hZ1=>intro wx hSw;go_simp;try with_reducible rfl
 try simp only[List.setIfInBounds_toArray,List.set_cons_zero,List.set_cons_succ]
 refine Ord.take (i:=2) (d:=74) (v:=?vZ2) rfl rfl (by as_aux_lemma=>kernel_rfl) (by as_aux_lemma=>kernel_rfl) (by as_aux_lemma=>kernel_rfl) (fun _ _ _ h=>h) (by rfl) ?hZ2 (by assumption) ?_
 case hZ2=>intro wx hSw;go_simp;try with_reducible rfl
 try simp only[List.setIfInBounds_toArray,List.set_cons_zero,List.set_cons_succ]
 refine Ord.take (i:=3) (d:=75) (v:= .slice ka kn kc) rfl rfl (by as_aux_lemma=>kernel_rfl) (by as_aux_lemma=>kernel_rfl) (by as_aux_lemma=>kernel_rfl) (fun _ _ _ h=>h) (by rfl) ?hZ3 (by assumption) ?_
 case hZ3=>intro wx hSw;have hc:=HC2.out _ hSw;go_simp;try with_reducible rfl
 try simp only[List.setIfInBounds_toArray,List.set_cons_zero,List.set_cons_succ]
 refine Ord.take (i:=4) (d:=76) (v:= .agg (mkV m).toArray) rfl rfl (by as_aux_lemma=>kernel_rfl) (by as_aux_lemma=>kernel_rfl) (by as_aux_lemma=>kernel_rfl) (fun _ _ _ h=>h) (by rfl) ?hZ4 (by assumption) ?_
 case hZ4=>intro wx hSw;exact exec_load 45 (.tmp 4) rfl T 0 rfl (run_loadVar_mid wx T 0 45 (mkV m) _ (HL2.out _ hSw) Tryd.underlying45 rfl (by rw[HLM.out];exact Tryd.size45))
 try simp only[List.setIfInBounds_toArray,List.set_cons_zero,List.set_cons_succ]
 refine wpAnyH_ready (rs:= [5]) (by as_aux_lemma=>kernel_rfl) (by simp) (AllReadyH.cons rfl (fun K hK=>?_) AllReadyH.nil)
 go_simp
 have hsw:=sealed_word ka kc key m V7 (HHC.out.laid.later (Bn HB_V6.out hd_V7)) (HKR.out _ (Bn HB_V6.out hd_V7)) HHC.out.kfew HMK.out
 rw[<-HKN.out] at hsw
 refine hsw.mono ?_
 rintro _ V8 ⟨rfl,hb1⟩
 have hS_V8:Below V6.heap.size V6 V8:=Bn hS_V7 hb1
 have hd_V8:Below V6.heap.size V6 V8:=hS_V8
 rw[HFS.out]
 refine hK.out _ _ hS_V8 (fun _=>?_)
 clear hK K hsw hb1
 try simp only[List.setIfInBounds_toArray,List.set_cons_zero,List.set_cons_succ]
 refine Ord.take (i:=6) (d:=78) (v:= .bool true) rfl rfl (by as_aux_lemma=>kernel_rfl) (by as_aux_lemma=>kernel_rfl) (by as_aux_lemma=>kernel_rfl) (fun _ _ _ h=>h) (by rfl) ?hZ6 (by assumption) ?_
 case hZ6=>intro wx hSw;go_simp;try with_reducible rfl
 try simp only[List.setIfInBounds_toArray,List.set_cons_zero,List.set_cons_succ]
 refine wpAnyH_done (by as_aux_lemma=>kernel_rfl) ?_ _
 have hb_V8:=hd_V8
 clear hS_V7 hd_V7 hS_V8 hd_V8 HC2 HL2
 have HB_V8:=hid (Bn HB_V6.out hb_V8)
 have HA_V8:=hid (blk_later HA_V6.out hb_V8)
 have HT_V8:=hid (blk_later HT_V6.out hb_V8)
 have HO_V8:=hid (HO_V6.out.kept (grown_bel (r:=none) hb_V8) (by simp))
 clear hb_V8 HB_V6 HA_V6 HT_V6 HO_V6
 go_wp2_with (first | refine wpList_store_Z rfl 40 _ _ rfl rfl A 4 [(.slice ka kn kc),(.slice ha hn hc),(.slice (some ⟨b,off,none⟩) mn mc),.map (some mp)] [.int .i64 5,.int .i64 fI,.int .i64 fK] [] 74 [.int .i64 2,.int .i64 (i:Int),.int .i64 0] rfl rfl rfl HA_V8.out rfl Tryd.size40 (fun v hv=>by simp at hv;rcases hv with rfl | rfl | rfl<;>rfl) ?_ | fail)
 intro V9 HAs_V9 HG_V9
 have HB_V9:Hid (Below W0.heap.size W0 V9):=HB_V8.out.trans (bel_grown HG_V9.out HHC.out.age HB_V8.out.size)
 have HA_V9:Hid (V9.heap[A]?=some (.cells (auC (.slice ka kn kc) (.slice ha hn hc) (.slice (some ⟨b,off,none⟩) mn mc) mp (2,(i:Int),0)) 74)):=HAs_V9.out
 have HT_V9:Hid (V9.heap[T]?=some (.cells (mkV m).toArray 45)):=(HG_V9.out.block T (blk_lt HT_V8.out) (fun e=>by injection e with e;exact HTA.out e.symm)).trans HT_V8.out
 have HO_V9:=hid (HO_V8.out.kept HG_V9.out (by intro e;injection e with e;exact HNE.out e.symm))
 clear HAs_V9 HG_V9 HB_V8 HA_V8 HT_V8 HO_V8
 go_wp2
 go_end0
 exact⟨rfl,HB_V9.out,HA_V9.out,D2,nn2,HO_V9.out,HN2.out,fun _=>HF2.out⟩
set_option maxHeartbeats 6400000 in
set_option maxRecDepth 100000 in
theorem hold_5tttt(W0 w:World)(A mp nn:Nat)(ka:Option Addr)(kc:Nat)(key:List Nat)(ha:Option Addr)(hc:Nat)(hs:List Hd)(ma:Option Addr)(mc:Nat)(ms:List Mrk)(i:Nat)(D:DataW Value)(fI fK:Int)(h:Hc W0 w A mp nn ka kc key ha hc hs ma mc ms i D (5,fI,fK))(hR:decide ((ms.getD i mkZ).2.1.1<(hs.length:Int))=true)(hH:hasB hs (ms.getD i mkZ).2.1=true)(hF:decide ((ms.getD (fst1 ms i) mkZ).2.1=(ms.getD i mkZ).2.1)=false)(hS:sealedB key (ms.getD i mkZ)=true):
 Calls Tryd.prog 32 #[.pointer (some ⟨A,0,none⟩),.int .i64 (i:Int)] w (HoP W0 A mp (.slice ka key.length kc) (.slice ha hs.length hc) (.slice ma ms.length mc) ms i (3,(fst1 ms i:Int),(i:Int))):=by
 have hmost:=h.mrow.most
 have hroom:=h.mrow.room
 unfold maxLen at hmost
 have hilt:=h.ilt
 have HNE:=hid h.ne
 obtain⟨b,off,rfl,hbw,hcc⟩:=h.mrow.cells (by omega)
 obtain⟨m,hm⟩:∃m,m=ms.getD i mkZ:=⟨_,rfl⟩
 have hmk:MOk m:=by rw[hm];exact mk_get hilt h.mok
 have hcm:=hcc i hilt
 rw[<-hm] at hcm
 have HMR:=hid (fun X (hX:Below W0.heap.size W0 X)=>range_later hcm hX hbw)
 have HMK:=hid hmk
 have HLM:=hid (mkV_len hmk)
 have HLZ:=hid (mkV_len mkZ_ok)
 have HHL:=hid (hdV_len hmk.hd.len)
 have HMM:=hid hm
 obtain⟨mn,hmn⟩:∃n,n=ms.length:=⟨_,rfl⟩
 obtain⟨hn,hhn⟩:∃n,n=hs.length:=⟨_,rfl⟩
 obtain⟨kn,hkn⟩:∃n,n=key.length:=⟨_,rfl⟩
 have HA0:=hid h.blk
 have HKR:=hid (fun X (hX:Below W0.heap.size W0 X)=>h.krd.later hX)
 have HBW:=hid h.bel
 have HO0:=hid h.own
 have HHC:=hid h
 have him:(i:Int)<(mn:Int):=by omega
 have hi5:i<=100000:=by have:=h.mfew;omega
 rw[<-hmn,<-hhn,<-hkn] at HA0
 rw[<-hmn] at hroom
 have HMN:=hid hmn
 have HHN:=hid hhn
 have HKN:=hid hkn
 have HZ:=hid Tryd.zero45
 rw[<-hm] at hR hH hF hS
 have HFR:Hid (decide (m.2.1.1<(hn:Int))=true):=by show _=_;rw[hhn];exact hR
 have HFH:Hid (hasB hs m.2.1=true):=hH
 have HFF:Hid (decide ((ms.getD (fst1 ms i) mkZ).2.1=m.2.1)=false):=hF
 have HFS:Hid (sealedB key m=true):=hS
 clear hR hH hF hS
 have hk0:=fst1_lt hilt
 have hcf:=hcc (fst1 ms i) (by omega)
 have hyl:(ms.getD (fst1 ms i) mkZ).2.1.2.2.length=32:=(mk_get (show fst1 ms i<ms.length by omega) h.mok).hd.len
 have hkm:(fst1 ms i:Int)<(mn:Int):=by omega
 obtain⟨k1,hk1⟩:∃k,k=fst1 ms i:=⟨_,rfl⟩
 rw[<-hk1] at hcf hyl hkm hk0 HFF
 obtain⟨y,hy⟩:∃y,y=ms.getD k1 mkZ:=⟨_,rfl⟩
 rw[<-hy] at hcf hyl HFF
 have HYR:=hid (fun X (hX:Below W0.heap.size W0 X)=>range_later hcf hX hbw)
 have HYL:=hid (hdV_len hyl)
 have HEQ:=hid (fun V=>eq55 y.2.1 m.2.1 hyl HMK.out.hd.len V)
 rw[HFF.out] at HEQ
 have HK1:=hid hk1
 clear hy hyl hcf hk1
 clear h hcc hmk hcm hm hmn hhn hkn hilt
 unfold HoP
 rw[<-HMN.out,<-HHN.out,<-HKN.out]
 obtain⟨T,hT⟩:∃T,T=w.heap.size:=⟨_,rfl⟩
 have HTQ:=hid hT
 have HTA:Hid (A≠T):=by show _≠_;rw[hT];exact Nat.ne_of_lt (blk_lt HA0.out)
 have c2_w:=(Joins.cell_of_block HA0.out 2).trans (show _=some (Value.slice (some ⟨b,off,none⟩) mn mc) from rfl)
 clear hT
 go_enter Tryd.func32,Tryd.ntmps32
 go_wp2_with (first | refine wpList_load_P rfl 45 _ rfl b (off+i*67) rfl (mkV m) _ (HMR.out _ HBW.out) Tryd.underlying45 rfl (by rw[HLM.out];exact Tryd.size45) ?_ | refine wpList_alloc_W rfl 45 rfl (some 4) rfl _ HZ.out T HTQ.out ?_ | fail)
 intro V1 HG1 HBl1 HS1
 go_wp2_with (first | refine wpList_store_W rfl 45 _ _ rfl rfl T (mkV m).toArray rfl rfl 45 _ HG1.out (by rw[List.size_toArray,HLM.out];exact Tryd.size45) (by rw[List.size_toArray,List.size_toArray,HLM.out,HLZ.out]) (all_oneCell_toArray (mkV_one _)) ?_ | fail)
 intro V2 HT_V2 HGR2 HS2
 have hb_V2:Below w.heap.size w V2:=by
  rw[<-HTQ.out]
  exact HBl1.out.trans (bel_grown HGR2.out (Nat.le_refl _) (by rw[HTQ.out];exact HBl1.out.size))
 have HB_V2:=hid (Bn HBW.out hb_V2)
 have HA_V2:=hid (blk_later HA0.out hb_V2)
 have HO_V2:=hid (HO0.out.kept (grown_bel (r:=none) hb_V2) (by simp))
 have c4_V2:=(Joins.cell_of_block HA_V2.out 4).trans (show _=some (Value.int .i64 5) from rfl)
 clear hb_V2 HG1 HBl1 HS1 HGR2 HS2 HBW HA0 HO0 c2_w HTQ HMR
 go_wp2_with (first | refine wpList_load_P rfl 27 _ rfl T 1 rfl (hdV m.2.1) _ (mk_hd (blk_range HT_V2.out)) Tryd.underlying27 rfl (by rw[HHL.out];exact Tryd.size27) ?_ | fail)
 refine(reaches_word A (.slice ka kn kc) (.slice (some ⟨b,off,none⟩) mn mc) ha hn hc mp (5,fI,fK) m.2.1 V2 HA_V2.out HMK.out.hd.len).mono ?_
 rintro _ V3 ⟨rfl,hb_V3⟩
 rw[HFR.out]
 clear c4_V2
 have HB_V3:=hid (Bn HB_V2.out hb_V3)
 have HA_V3:=hid (blk_later HA_V2.out hb_V3)
 have HT_V3:=hid (blk_later HT_V2.out hb_V3)
 have HO_V3:=hid (HO_V2.out.kept (grown_bel (r:=none) hb_V3) (by simp))
 clear hb_V3 HB_V2 HA_V2 HT_V2 HO_V2
 go_wp2_with (first | refine wpList_load_g rfl 27 _ rfl T 1 rfl (hdV m.2.1) _ (mk_hd (blk_range HT_V3.out)) Tryd.underlying27 rfl (by rw[HHL.out];exact Tryd.size27) ?_ | fail)
 refine(has_word A (.slice ka kn kc) (.slice (some ⟨b,off,none⟩) mn mc) ha hn hc mp (5,fI,fK) m.2.1 hs V3 HA_V3.out HMK.out.hd.len (HHC.out.hrow.later HB_V3.out) HHN.out (of_decide_eq_true HFR.out) HHC.out.h32).mono ?_
 rintro _ V4 ⟨rfl,hb_V4⟩
 rw[HFH.out]
 have HB_V4:=hid (Bn HB_V3.out hb_V4)
 have HA_V4:=hid (blk_later HA_V3.out hb_V4)
 have HT_V4:=hid (blk_later HT_V3.out hb_V4)
 have HO_V4:=hid (HO_V3.out.kept (grown_bel (r:=none) hb_V4) (by simp))
 clear hb_V4 HB_V3 HA_V3 HT_V3 HO_V3
 go_wp2_with fail
 refine(first_word A (.slice ka kn kc) (.slice ha hn hc) (some ⟨b,off,none⟩) mn mc mp nn (5,fI,fK) ms i D V4 HA_V4.out (HHC.out.mrow.later HB_V4.out) HMN.out HHC.out.ilt HHC.out.mfew HHC.out.mok HO_V4.out (Nat.le_trans HHC.out.nfew (Nat.le_trans (Nat.le_of_lt HHC.out.ilt) HHC.out.mfew)) (HHC.out.fs (show(4:Int)<=5 by decide))).mono ?_
 rintro _ V5 ⟨rfl,D2,nn2,ho_V5,hn_V5,hf_V5,hg_V5⟩
 rw[<-HK1.out]
 have HB_V5:Hid (Below W0.heap.size W0 V5):=HB_V4.out.trans (bel_grown hg_V5 HHC.out.mge HB_V4.out.size)
 have HA_V5:=hid ((hg_V5.block A (blk_lt HA_V4.out) (fun e=>by injection e with e;exact HNE.out e)).trans HA_V4.out)
 have HT_V5:Hid (V5.heap[T]?=some (.cells (mkV m).toArray 45)):=(hg_V5.block T (blk_lt HT_V4.out) (fun e=>by injection e with e;obtain⟨es,clock,hq,_⟩:=HO_V4.out;have ht:=HT_V4.out;rw[e,hq] at ht;cases ht)).trans HT_V4.out
 have HO_V5:=hid ho_V5
 have HN2:Hid (nn2<=i+1):=Nat.le_trans hn_V5 (Nat.succ_le_succ HHC.out.nfew)
 have HF2:=hid hf_V5
 clear ho_V5 hn_V5 hf_V5 hg_V5 HB_V4 HA_V4 HT_V4 HO_V4
 go_wp2_with fail
 refine wp_region_held_drew (S:=fun X=>Below V5.heap.size V5 X) (by kernel_rfl) (Below.refl _ _).drew (fun hS_V6=>?_)
 have hd_V6:Below V5.heap.size V5 V5.drew:=(Below.refl _ _).drew
 generalize V5.drew=V6 at *
 simp only[List.size_toArray,List.length_cons,List.length_nil,Nat.reduceAdd]
 have HC2:=hid (fun X (hX:Below V5.heap.size V5 X)=>(Joins.cell_of_block (blk_later HA_V5.out hX) 2).trans (show _=some (Value.slice (some ⟨b,off,none⟩) mn mc) from rfl))
 have HL1:=hid (fun X (hX:Below V5.heap.size V5 X)=>mk_hd (HYR.out X (Bn HB_V5.out hX)))
 have HL2:=hid (fun X (hX:Below V5.heap.size V5 X)=>mk_hd (blk_range (blk_later HT_V5.out hX)))
 refine Ord.take (i:=0) (d:=55) (v:=?vQ0) rfl rfl (by as_aux_lemma=>kernel_rfl) (by as_aux_lemma=>kernel_rfl) (by as_aux_lemma=>kernel_rfl) (fun _ _ _ h=>h) (by rfl) ?hQ0 (by assumption) ?_
 case hQ0=>intro wx hSw;go_simp;try with_reducible rfl
 try simp only[List.setIfInBounds_toArray,List.set_cons_zero,List.set_cons_succ]
 refine Ord.take (i:=1) (d:=56) (v:=?vQ1) rfl rfl (by as_aux_lemma=>kernel_rfl) (by as_aux_lemma=>kernel_rfl) (by as_aux_lemma=>kernel_rfl) (fun _ _ _ h=>h) (by rfl) ?hQ1 (by assumption) ?_
 case hQ1=>intro wx hSw;go_simp;try with_reducible rfl
 try simp only[List.setIfInBounds_toArray,List.set_cons_zero,List.set_cons_succ]
 refine Ord.take (i:=2) (d:=57) (v:=?vQ2) rfl rfl (by as_aux_lemma=>kernel_rfl) (by as_aux_lemma=>kernel_rfl) (by as_aux_lemma=>kernel_rfl) (fun _ _ _ h=>h) (by rfl) ?hQ2 (by assumption) ?_
 case hQ2=>intro wx hSw;go_simp;try with_reducible rfl
 try simp only[List.setIfInBounds_toArray,List.set_cons_zero,List.set_cons_succ]
 refine Ord.take (i:=3) (d:=58) (v:= .slice (some ⟨b,off,none⟩) mn mc) rfl rfl (by as_aux_lemma=>kernel_rfl) (by as_aux_lemma=>kernel_rfl) (by as_aux_lemma=>kernel_rfl) (fun _ _ _ h=>h) (by rfl) ?hQ3 (by assumption) ?_
 case hQ3=>intro wx hSw;have hc:=HC2.out _ hSw;go_simp;try with_reducible rfl
 try simp only[List.setIfInBounds_toArray,List.set_cons_zero,List.set_cons_succ]
 refine Ord.take (i:=4) (d:=59) (v:=?vQ4) rfl rfl (by as_aux_lemma=>kernel_rfl) (by as_aux_lemma=>kernel_rfl) (by as_aux_lemma=>kernel_rfl) (fun _ _ _ h=>h) (by rfl) ?hQ4 (by assumption) ?_
 case hQ4=>intro wx hSw;go_simp;try with_reducible rfl
 try simp only[List.setIfInBounds_toArray,List.set_cons_zero,List.set_cons_succ]
 refine Ord.take (i:=5) (d:=60) (v:=?vQ5) rfl rfl (by as_aux_lemma=>kernel_rfl) (by as_aux_lemma=>kernel_rfl) (by as_aux_lemma=>kernel_rfl) (fun _ _ _ h=>h) (by rfl) ?hQ5 (by assumption) ?_
 case hQ5=>intro wx hSw;go_simp;try with_reducible rfl
 try simp only[List.setIfInBounds_toArray,List.set_cons_zero,List.set_cons_succ]
 refine Ord.take (i:=6) (d:=61) (v:=?vQ6) rfl rfl (by as_aux_lemma=>kernel_rfl) (by as_aux_lemma=>kernel_rfl) (by as_aux_lemma=>kernel_rfl) (fun _ _ _ h=>h) (by rfl) ?hQ6 (by assumption) ?_
 case hQ6=>intro wx hSw;go_simp;try with_reducible rfl
 try simp only[List.setIfInBounds_toArray,List.set_cons_zero,List.set_cons_succ]
 refine Ord.take (i:=7) (d:=62) (v:= .agg (hdV y.2.1).toArray) rfl rfl (by as_aux_lemma=>kernel_rfl) (by as_aux_lemma=>kernel_rfl) (by as_aux_lemma=>kernel_rfl) (fun _ _ _ h=>h) (by rfl) ?hQ7 (by assumption) ?_
 case hQ7=>intro wx hSw;exact exec_load 27 (.tmp 61) rfl b (off+k1*67+1) rfl (run_loadVar_mid wx b (off+k1*67+1) 27 (hdV y.2.1) _ (HL1.out _ hSw) Tryd.underlying27 rfl (by rw[HYL.out];exact Tryd.size27))
 try simp only[List.setIfInBounds_toArray,List.set_cons_zero,List.set_cons_succ]
 refine Ord.take (i:=8) (d:=63) (v:=?vQ8) rfl rfl (by as_aux_lemma=>kernel_rfl) (by as_aux_lemma=>kernel_rfl) (by as_aux_lemma=>kernel_rfl) (fun _ _ _ h=>h) (by rfl) ?hQ8 (by assumption) ?_
 case hQ8=>intro wx hSw;go_simp;try with_reducible rfl
 try simp only[List.setIfInBounds_toArray,List.set_cons_zero,List.set_cons_succ]
 refine Ord.take (i:=9) (d:=64) (v:= .agg (hdV m.2.1).toArray) rfl rfl (by as_aux_lemma=>kernel_rfl) (by as_aux_lemma=>kernel_rfl) (by as_aux_lemma=>kernel_rfl) (fun _ _ _ h=>h) (by rfl) ?hQ9 (by assumption) ?_
 case hQ9=>intro wx hSw;exact exec_load 27 (.tmp 63) rfl T 1 rfl (run_loadVar_mid wx T 1 27 (hdV m.2.1) _ (HL2.out _ hSw) Tryd.underlying27 rfl (by rw[HHL.out];exact Tryd.size27))
 try simp only[List.setIfInBounds_toArray,List.set_cons_zero,List.set_cons_succ]
 refine Ord.take (i:=10) (d:=65) (v:= .bool true) rfl rfl (by as_aux_lemma=>kernel_rfl) (by as_aux_lemma=>kernel_rfl) (by as_aux_lemma=>kernel_rfl) (fun _ _ _ h=>h) (by rfl) ?hQ10 (by assumption) ?_
 case hQ10=>intro wx hSw;exact run_neq_op rfl rfl rfl guard55 (HEQ.out _)
 try simp only[List.setIfInBounds_toArray,List.set_cons_zero,List.set_cons_succ]
 refine wpAnyH_done (by as_aux_lemma=>kernel_rfl) ?_ _
 have hb_V6:=hd_V6
 clear hS_V6 hd_V6 HC2 HL1 HL2
 have HB_V6:=hid (Bn HB_V5.out hb_V6)
 have HA_V6:=hid (blk_later HA_V5.out hb_V6)
 have HT_V6:=hid (blk_later HT_V5.out hb_V6)
 have HO_V6:=hid (HO_V5.out.kept (grown_bel (r:=none) hb_V6) (by simp))
 clear hb_V6 HB_V5 HA_V5 HT_V5 HO_V5
 go_wp2_with (first | refine wpList_store_Z rfl 40 _ _ rfl rfl A 4 [(.slice ka kn kc),(.slice ha hn hc),(.slice (some ⟨b,off,none⟩) mn mc),.map (some mp)] [.int .i64 5,.int .i64 fI,.int .i64 fK] [] 74 [.int .i64 3,.int .i64 (k1:Int),.int .i64 (i:Int)] rfl rfl rfl HA_V6.out rfl Tryd.size40 (fun v hv=>by simp at hv;rcases hv with rfl | rfl | rfl<;>rfl) ?_ | fail)
 intro V7 HAs_V7 HG_V7
 have HB_V7:Hid (Below W0.heap.size W0 V7):=HB_V6.out.trans (bel_grown HG_V7.out HHC.out.age HB_V6.out.size)
 have HA_V7:Hid (V7.heap[A]?=some (.cells (auC (.slice ka kn kc) (.slice ha hn hc) (.slice (some ⟨b,off,none⟩) mn mc) mp (3,(k1:Int),(i:Int))) 74)):=HAs_V7.out
 have HT_V7:Hid (V7.heap[T]?=some (.cells (mkV m).toArray 45)):=(HG_V7.out.block T (blk_lt HT_V6.out) (fun e=>by injection e with e;exact HTA.out e.symm)).trans HT_V6.out
 have HO_V7:=hid (HO_V6.out.kept HG_V7.out (by intro e;injection e with e;exact HNE.out e.symm))
 clear HAs_V7 HG_V7 HB_V6 HA_V6 HT_V6 HO_V6
 go_wp2_with fail
 refine wp_region_held_drew (S:=fun X=>Below V7.heap.size V7 X) (by kernel_rfl) (Below.refl _ _).drew (fun hS_V8=>?_)
 have hd_V8:Below V7.heap.size V7 V7.drew:=(Below.refl _ _).drew
 generalize V7.drew=V8 at *
 simp only[List.size_toArray,List.length_cons,List.length_nil,Nat.reduceAdd]
 have HC2:=hid (fun X (hX:Below V7.heap.size V7 X)=>(Joins.cell_of_block (blk_later HA_V7.out hX) 0).trans (show _=some (Value.slice ka kn kc) from rfl))
 have HL2:=hid (fun X (hX:Below V7.heap.size V7 X)=>blk_range (blk_later HT_V7.out hX))
 refine Ord.take (i:=0) (d:=72) (v:=?vZ0) rfl rfl (by as_aux_lemma=>kernel_rfl) (by as_aux_lemma=>kernel_rfl) (by as_aux_lemma=>kernel_rfl) (fun _ _ _ h=>h) (by rfl) ?hZ0 (by assumption) ?_
 case hZ0=>intro wx hSw;go_simp;try with_reducible rfl
 try simp only[List.setIfInBounds_toArray,List.set_cons_zero,List.set_cons_succ]
 refine Ord.take (i:=1) (d:=73) (v:=?vZ1) rfl rfl (by as_aux_lemma=>kernel_rfl) (by as_aux_lemma=>kernel_rfl) (by as_aux_lemma=>kernel_rfl) (fun _ _ _ h=>h) (by rfl) ?hZ1 (by assumption) ?_
 case hZ1=>intro wx hSw;go_simp;try with_reducible rfl
 try simp only[List.setIfInBounds_toArray,List.set_cons_zero,List.set_cons_succ]
 refine Ord.take (i:=2) (d:=74) (v:=?vZ2) rfl rfl (by as_aux_lemma=>kernel_rfl) (by as_aux_lemma=>kernel_rfl) (by as_aux_lemma=>kernel_rfl) (fun _ _ _ h=>h) (by rfl) ?hZ2 (by assumption) ?_
 case hZ2=>intro wx hSw;go_simp;try with_reducible rfl
 try simp only[List.setIfInBounds_toArray,List.set_cons_zero,List.set_cons_succ]
 refine Ord.take (i:=3) (d:=75) (v:= .slice ka kn kc) rfl rfl (by as_aux_lemma=>kernel_rfl) (by as_aux_lemma=>kernel_rfl) (by as_aux_lemma=>kernel_rfl) (fun _ _ _ h=>h) (by rfl) ?hZ3 (by assumption) ?_
 case hZ3=>intro wx hSw;have hc:=HC2.out _ hSw;go_simp;try with_reducible rfl
 try simp only[List.setIfInBounds_toArray,List.set_cons_zero,List.set_cons_succ]
 refine Ord.take (i:=4) (d:=76) (v:= .agg (mkV m).toArray) rfl rfl (by as_aux_lemma=>kernel_rfl) (by as_aux_lemma=>kernel_rfl) (by as_aux_lemma=>kernel_rfl) (fun _ _ _ h=>h) (by rfl) ?hZ4 (by assumption) ?_
 case hZ4=>intro wx hSw;exact exec_load 45 (.tmp 4) rfl T 0 rfl (run_loadVar_mid wx T 0 45 (mkV m) _ (HL2.out _ hSw) Tryd.underlying45 rfl (by rw[HLM.out];exact Tryd.size45))
 try simp only[List.setIfInBounds_toArray,List.set_cons_zero,List.set_cons_succ]
 refine wpAnyH_ready (rs:= [5]) (by as_aux_lemma=>kernel_rfl) (by simp) (AllReadyH.cons rfl (fun K hK=>?_) AllReadyH.nil)
 go_simp
 have hsw:=sealed_word ka kc key m V8 (HHC.out.laid.later (Bn HB_V7.out hd_V8)) (HKR.out _ (Bn HB_V7.out hd_V8)) HHC.out.kfew HMK.out
 rw[<-HKN.out] at hsw
 refine hsw.mono ?_
 rintro _ V9 ⟨rfl,hb1⟩
 have hS_V9:Below V7.heap.size V7 V9:=Bn hS_V8 hb1
 have hd_V9:Below V7.heap.size V7 V9:=hS_V9
 rw[HFS.out]
 refine hK.out _ _ hS_V9 (fun _=>?_)
 clear hK K hsw hb1
 try simp only[List.setIfInBounds_toArray,List.set_cons_zero,List.set_cons_succ]
 refine Ord.take (i:=6) (d:=78) (v:= .bool false) rfl rfl (by as_aux_lemma=>kernel_rfl) (by as_aux_lemma=>kernel_rfl) (by as_aux_lemma=>kernel_rfl) (fun _ _ _ h=>h) (by rfl) ?hZ6 (by assumption) ?_
 case hZ6=>intro wx hSw;go_simp;try with_reducible rfl
 try simp only[List.setIfInBounds_toArray,List.set_cons_zero,List.set_cons_succ]
 refine wpAnyH_done (by as_aux_lemma=>kernel_rfl) ?_ _
 have hb_V9:=hd_V9
 clear hS_V8 hd_V8 hS_V9 hd_V9 HC2 HL2
 have HB_V9:=hid (Bn HB_V7.out hb_V9)
 have HA_V9:=hid (blk_later HA_V7.out hb_V9)
 have HT_V9:=hid (blk_later HT_V7.out hb_V9)
 have HO_V9:=hid (HO_V7.out.kept (grown_bel (r:=none) hb_V9) (by simp))
 clear hb_V9 HB_V7 HA_V7 HT_V7 HO_V7
 go_wp2
 go_end0
 exact⟨rfl,HB_V9.out,by rw[<-HK1.out];exact HA_V9.out,D2,nn2,HO_V9.out,HN2.out,fun _=>HF2.out⟩
set_option maxHeartbeats 6400000 in
set_option maxRecDepth 100000 in
theorem hold_5tttf(W0 w:World)(A mp nn:Nat)(ka:Option Addr)(kc:Nat)(key:List Nat)(ha:Option Addr)(hc:Nat)(hs:List Hd)(ma:Option Addr)(mc:Nat)(ms:List Mrk)(i:Nat)(D:DataW Value)(fI fK:Int)(h:Hc W0 w A mp nn ka kc key ha hc hs ma mc ms i D (5,fI,fK))(hR:decide ((ms.getD i mkZ).2.1.1<(hs.length:Int))=true)(hH:hasB hs (ms.getD i mkZ).2.1=true)(hF:decide ((ms.getD (fst1 ms i) mkZ).2.1=(ms.getD i mkZ).2.1)=false)(hS:sealedB key (ms.getD i mkZ)=false):
 Calls Tryd.prog 32 #[.pointer (some ⟨A,0,none⟩),.int .i64 (i:Int)] w (HoP W0 A mp (.slice ka key.length kc) (.slice ha hs.length hc) (.slice ma ms.length mc) ms i (2,(i:Int),0)):=by
 have hmost:=h.mrow.most
 have hroom:=h.mrow.room
 unfold maxLen at hmost
 have hilt:=h.ilt
 have HNE:=hid h.ne
 obtain⟨b,off,rfl,hbw,hcc⟩:=h.mrow.cells (by omega)
 obtain⟨m,hm⟩:∃m,m=ms.getD i mkZ:=⟨_,rfl⟩
 have hmk:MOk m:=by rw[hm];exact mk_get hilt h.mok
 have hcm:=hcc i hilt
 rw[<-hm] at hcm
 have HMR:=hid (fun X (hX:Below W0.heap.size W0 X)=>range_later hcm hX hbw)
 have HMK:=hid hmk
 have HLM:=hid (mkV_len hmk)
 have HLZ:=hid (mkV_len mkZ_ok)
 have HHL:=hid (hdV_len hmk.hd.len)
 have HMM:=hid hm
 obtain⟨mn,hmn⟩:∃n,n=ms.length:=⟨_,rfl⟩
 obtain⟨hn,hhn⟩:∃n,n=hs.length:=⟨_,rfl⟩
 obtain⟨kn,hkn⟩:∃n,n=key.length:=⟨_,rfl⟩
 have HA0:=hid h.blk
 have HKR:=hid (fun X (hX:Below W0.heap.size W0 X)=>h.krd.later hX)
 have HBW:=hid h.bel
 have HO0:=hid h.own
 have HHC:=hid h
 have him:(i:Int)<(mn:Int):=by omega
 have hi5:i<=100000:=by have:=h.mfew;omega
 rw[<-hmn,<-hhn,<-hkn] at HA0
 rw[<-hmn] at hroom
 have HMN:=hid hmn
 have HHN:=hid hhn
 have HKN:=hid hkn
 have HZ:=hid Tryd.zero45
 rw[<-hm] at hR hH hF hS
 have HFR:Hid (decide (m.2.1.1<(hn:Int))=true):=by show _=_;rw[hhn];exact hR
 have HFH:Hid (hasB hs m.2.1=true):=hH
 have HFF:Hid (decide ((ms.getD (fst1 ms i) mkZ).2.1=m.2.1)=false):=hF
 have HFS:Hid (sealedB key m=false):=hS
 clear hR hH hF hS
 have hk0:=fst1_lt hilt
 have hcf:=hcc (fst1 ms i) (by omega)
 have hyl:(ms.getD (fst1 ms i) mkZ).2.1.2.2.length=32:=(mk_get (show fst1 ms i<ms.length by omega) h.mok).hd.len
 have hkm:(fst1 ms i:Int)<(mn:Int):=by omega
 obtain⟨k1,hk1⟩:∃k,k=fst1 ms i:=⟨_,rfl⟩
 rw[<-hk1] at hcf hyl hkm hk0 HFF
 obtain⟨y,hy⟩:∃y,y=ms.getD k1 mkZ:=⟨_,rfl⟩
 rw[<-hy] at hcf hyl HFF
 have HYR:=hid (fun X (hX:Below W0.heap.size W0 X)=>range_later hcf hX hbw)
 have HYL:=hid (hdV_len hyl)
 have HEQ:=hid (fun V=>eq55 y.2.1 m.2.1 hyl HMK.out.hd.len V)
 rw[HFF.out] at HEQ
 have HK1:=hid hk1
 clear hy hyl hcf hk1
 clear h hcc hmk hcm hm hmn hhn hkn hilt
 unfold HoP
 rw[<-HMN.out,<-HHN.out,<-HKN.out]
 obtain⟨T,hT⟩:∃T,T=w.heap.size:=⟨_,rfl⟩
 have HTQ:=hid hT
 have HTA:Hid (A≠T):=by show _≠_;rw[hT];exact Nat.ne_of_lt (blk_lt HA0.out)
 have c2_w:=(Joins.cell_of_block HA0.out 2).trans (show _=some (Value.slice (some ⟨b,off,none⟩) mn mc) from rfl)
 clear hT
 go_enter Tryd.func32,Tryd.ntmps32
 go_wp2_with (first | refine wpList_load_P rfl 45 _ rfl b (off+i*67) rfl (mkV m) _ (HMR.out _ HBW.out) Tryd.underlying45 rfl (by rw[HLM.out];exact Tryd.size45) ?_ | refine wpList_alloc_W rfl 45 rfl (some 4) rfl _ HZ.out T HTQ.out ?_ | fail)
 intro V1 HG1 HBl1 HS1
 go_wp2_with (first | refine wpList_store_W rfl 45 _ _ rfl rfl T (mkV m).toArray rfl rfl 45 _ HG1.out (by rw[List.size_toArray,HLM.out];exact Tryd.size45) (by rw[List.size_toArray,List.size_toArray,HLM.out,HLZ.out]) (all_oneCell_toArray (mkV_one _)) ?_ | fail)
 intro V2 HT_V2 HGR2 HS2
 have hb_V2:Below w.heap.size w V2:=by
  rw[<-HTQ.out]
  exact HBl1.out.trans (bel_grown HGR2.out (Nat.le_refl _) (by rw[HTQ.out];exact HBl1.out.size))
 have HB_V2:=hid (Bn HBW.out hb_V2)
 have HA_V2:=hid (blk_later HA0.out hb_V2)
 have HO_V2:=hid (HO0.out.kept (grown_bel (r:=none) hb_V2) (by simp))
 have c4_V2:=(Joins.cell_of_block HA_V2.out 4).trans (show _=some (Value.int .i64 5) from rfl)
 clear hb_V2 HG1 HBl1 HS1 HGR2 HS2 HBW HA0 HO0 c2_w HTQ HMR
 go_wp2_with (first | refine wpList_load_P rfl 27 _ rfl T 1 rfl (hdV m.2.1) _ (mk_hd (blk_range HT_V2.out)) Tryd.underlying27 rfl (by rw[HHL.out];exact Tryd.size27) ?_ | fail)
 refine(reaches_word A (.slice ka kn kc) (.slice (some ⟨b,off,none⟩) mn mc) ha hn hc mp (5,fI,fK) m.2.1 V2 HA_V2.out HMK.out.hd.len).mono ?_
 rintro _ V3 ⟨rfl,hb_V3⟩
 rw[HFR.out]
 clear c4_V2
 have HB_V3:=hid (Bn HB_V2.out hb_V3)
 have HA_V3:=hid (blk_later HA_V2.out hb_V3)
 have HT_V3:=hid (blk_later HT_V2.out hb_V3)
 have HO_V3:=hid (HO_V2.out.kept (grown_bel (r:=none) hb_V3) (by simp))
 clear hb_V3 HB_V2 HA_V2 HT_V2 HO_V2
 go_wp2_with (first | refine wpList_load_g rfl 27 _ rfl T 1 rfl (hdV m.2.1) _ (mk_hd (blk_range HT_V3.out)) Tryd.underlying27 rfl (by rw[HHL.out];exact Tryd.size27) ?_ | fail)
 refine(has_word A (.slice ka kn kc) (.slice (some ⟨b,off,none⟩) mn mc) ha hn hc mp (5,fI,fK) m.2.1 hs V3 HA_V3.out HMK.out.hd.len (HHC.out.hrow.later HB_V3.out) HHN.out (of_decide_eq_true HFR.out) HHC.out.h32).mono ?_
 rintro _ V4 ⟨rfl,hb_V4⟩
 rw[HFH.out]
 have HB_V4:=hid (Bn HB_V3.out hb_V4)
 have HA_V4:=hid (blk_later HA_V3.out hb_V4)
 have HT_V4:=hid (blk_later HT_V3.out hb_V4)
 have HO_V4:=hid (HO_V3.out.kept (grown_bel (r:=none) hb_V4) (by simp))
 clear hb_V4 HB_V3 HA_V3 HT_V3 HO_V3
 go_wp2_with fail
 refine(first_word A (.slice ka kn kc) (.slice ha hn hc) (some ⟨b,off,none⟩) mn mc mp nn (5,fI,fK) ms i D V4 HA_V4.out (HHC.out.mrow.later HB_V4.out) HMN.out HHC.out.ilt HHC.out.mfew HHC.out.mok HO_V4.out (Nat.le_trans HHC.out.nfew (Nat.le_trans (Nat.le_of_lt HHC.out.ilt) HHC.out.mfew)) (HHC.out.fs (show(4:Int)<=5 by decide))).mono ?_
 rintro _ V5 ⟨rfl,D2,nn2,ho_V5,hn_V5,hf_V5,hg_V5⟩
 rw[<-HK1.out]
 have HB_V5:Hid (Below W0.heap.size W0 V5):=HB_V4.out.trans (bel_grown hg_V5 HHC.out.mge HB_V4.out.size)
 have HA_V5:=hid ((hg_V5.block A (blk_lt HA_V4.out) (fun e=>by injection e with e;exact HNE.out e)).trans HA_V4.out)
 have HT_V5:Hid (V5.heap[T]?=some (.cells (mkV m).toArray 45)):=(hg_V5.block T (blk_lt HT_V4.out) (fun e=>by injection e with e;obtain⟨es,clock,hq,_⟩:=HO_V4.out;have ht:=HT_V4.out;rw[e,hq] at ht;cases ht)).trans HT_V4.out
 have HO_V5:=hid ho_V5
 have HN2:Hid (nn2<=i+1):=Nat.le_trans hn_V5 (Nat.succ_le_succ HHC.out.nfew)
 have HF2:=hid hf_V5
 clear ho_V5 hn_V5 hf_V5 hg_V5 HB_V4 HA_V4 HT_V4 HO_V4
 go_wp2_with fail
 refine wp_region_held_drew (S:=fun X=>Below V5.heap.size V5 X) (by kernel_rfl) (Below.refl _ _).drew (fun hS_V6=>?_)
 have hd_V6:Below V5.heap.size V5 V5.drew:=(Below.refl _ _).drew
 generalize V5.drew=V6 at *
 simp only[List.size_toArray,List.length_cons,List.length_nil,Nat.reduceAdd]
 have HC2:=hid (fun X (hX:Below V5.heap.size V5 X)=>(Joins.cell_of_block (blk_later HA_V5.out hX) 2).trans (show _=some (Value.slice (some ⟨b,off,none⟩) mn mc) from rfl))
 have HL1:=hid (fun X (hX:Below V5.heap.size V5 X)=>mk_hd (HYR.out X (Bn HB_V5.out hX)))
 have HL2:=hid (fun X (hX:Below V5.heap.size V5 X)=>mk_hd (blk_range (blk_later HT_V5.out hX)))
 refine Ord.take (i:=0) (d:=55) (v:=?vQ0) rfl rfl (by as_aux_lemma=>kernel_rfl) (by as_aux_lemma=>kernel_rfl) (by as_aux_lemma=>kernel_rfl) (fun _ _ _ h=>h) (by rfl) ?hQ0 (by assumption) ?_
 case hQ0=>intro wx hSw;go_simp;try with_reducible rfl
 try simp only[List.setIfInBounds_toArray,List.set_cons_zero,List.set_cons_succ]
 refine Ord.take (i:=1) (d:=56) (v:=?vQ1) rfl rfl (by as_aux_lemma=>kernel_rfl) (by as_aux_lemma=>kernel_rfl) (by as_aux_lemma=>kernel_rfl) (fun _ _ _ h=>h) (by rfl) ?hQ1 (by assumption) ?_
 case hQ1=>intro wx hSw;go_simp;try with_reducible rfl
 try simp only[List.setIfInBounds_toArray,List.set_cons_zero,List.set_cons_succ]
 refine Ord.take (i:=2) (d:=57) (v:=?vQ2) rfl rfl (by as_aux_lemma=>kernel_rfl) (by as_aux_lemma=>kernel_rfl) (by as_aux_lemma=>kernel_rfl) (fun _ _ _ h=>h) (by rfl) ?hQ2 (by assumption) ?_
 case hQ2=>intro wx hSw;go_simp;try with_reducible rfl
 try simp only[List.setIfInBounds_toArray,List.set_cons_zero,List.set_cons_succ]
 refine Ord.take (i:=3) (d:=58) (v:= .slice (some ⟨b,off,none⟩) mn mc) rfl rfl (by as_aux_lemma=>kernel_rfl) (by as_aux_lemma=>kernel_rfl) (by as_aux_lemma=>kernel_rfl) (fun _ _ _ h=>h) (by rfl) ?hQ3 (by assumption) ?_
 case hQ3=>intro wx hSw;have hc:=HC2.out _ hSw;go_simp;try with_reducible rfl
 try simp only[List.setIfInBounds_toArray,List.set_cons_zero,List.set_cons_succ]
 refine Ord.take (i:=4) (d:=59) (v:=?vQ4) rfl rfl (by as_aux_lemma=>kernel_rfl) (by as_aux_lemma=>kernel_rfl) (by as_aux_lemma=>kernel_rfl) (fun _ _ _ h=>h) (by rfl) ?hQ4 (by assumption) ?_
 case hQ4=>intro wx hSw;go_simp;try with_reducible rfl
 try simp only[List.setIfInBounds_toArray,List.set_cons_zero,List.set_cons_succ]
 refine Ord.take (i:=5) (d:=60) (v:=?vQ5) rfl rfl (by as_aux_lemma=>kernel_rfl) (by as_aux_lemma=>kernel_rfl) (by as_aux_lemma=>kernel_rfl) (fun _ _ _ h=>h) (by rfl) ?hQ5 (by assumption) ?_
 case hQ5=>intro wx hSw;go_simp;try with_reducible rfl
 try simp only[List.setIfInBounds_toArray,List.set_cons_zero,List.set_cons_succ]
 refine Ord.take (i:=6) (d:=61) (v:=?vQ6) rfl rfl (by as_aux_lemma=>kernel_rfl) (by as_aux_lemma=>kernel_rfl) (by as_aux_lemma=>kernel_rfl) (fun _ _ _ h=>h) (by rfl) ?hQ6 (by assumption) ?_
 case hQ6=>intro wx hSw;go_simp;try with_reducible rfl
 try simp only[List.setIfInBounds_toArray,List.set_cons_zero,List.set_cons_succ]
 refine Ord.take (i:=7) (d:=62) (v:= .agg (hdV y.2.1).toArray) rfl rfl (by as_aux_lemma=>kernel_rfl) (by as_aux_lemma=>kernel_rfl) (by as_aux_lemma=>kernel_rfl) (fun _ _ _ h=>h) (by rfl) ?hQ7 (by assumption) ?_
 case hQ7=>intro wx hSw;exact exec_load 27 (.tmp 61) rfl b (off+k1*67+1) rfl (run_loadVar_mid wx b (off+k1*67+1) 27 (hdV y.2.1) _ (HL1.out _ hSw) Tryd.underlying27 rfl (by rw[HYL.out];exact Tryd.size27))
 try simp only[List.setIfInBounds_toArray,List.set_cons_zero,List.set_cons_succ]
 refine Ord.take (i:=8) (d:=63) (v:=?vQ8) rfl rfl (by as_aux_lemma=>kernel_rfl) (by as_aux_lemma=>kernel_rfl) (by as_aux_lemma=>kernel_rfl) (fun _ _ _ h=>h) (by rfl) ?hQ8 (by assumption) ?_
 case hQ8=>intro wx hSw;go_simp;try with_reducible rfl
 try simp only[List.setIfInBounds_toArray,List.set_cons_zero,List.set_cons_succ]
 refine Ord.take (i:=9) (d:=64) (v:= .agg (hdV m.2.1).toArray) rfl rfl (by as_aux_lemma=>kernel_rfl) (by as_aux_lemma=>kernel_rfl) (by as_aux_lemma=>kernel_rfl) (fun _ _ _ h=>h) (by rfl) ?hQ9 (by assumption) ?_
 case hQ9=>intro wx hSw;exact exec_load 27 (.tmp 63) rfl T 1 rfl (run_loadVar_mid wx T 1 27 (hdV m.2.1) _ (HL2.out _ hSw) Tryd.underlying27 rfl (by rw[HHL.out];exact Tryd.size27))
 try simp only[List.setIfInBounds_toArray,List.set_cons_zero,List.set_cons_succ]
 refine Ord.take (i:=10) (d:=65) (v:= .bool true) rfl rfl (by as_aux_lemma=>kernel_rfl) (by as_aux_lemma=>kernel_rfl) (by as_aux_lemma=>kernel_rfl) (fun _ _ _ h=>h) (by rfl) ?hQ10 (by assumption) ?_
 case hQ10=>intro wx hSw;exact run_neq_op rfl rfl rfl guard55 (HEQ.out _)
 try simp only[List.setIfInBounds_toArray,List.set_cons_zero,List.set_cons_succ]
 refine wpAnyH_done (by as_aux_lemma=>kernel_rfl) ?_ _
 have hb_V6:=hd_V6
 clear hS_V6 hd_V6 HC2 HL1 HL2
 have HB_V6:=hid (Bn HB_V5.out hb_V6)
 have HA_V6:=hid (blk_later HA_V5.out hb_V6)
 have HT_V6:=hid (blk_later HT_V5.out hb_V6)
 have HO_V6:=hid (HO_V5.out.kept (grown_bel (r:=none) hb_V6) (by simp))
 clear hb_V6 HB_V5 HA_V5 HT_V5 HO_V5
 go_wp2_with (first | refine wpList_store_Z rfl 40 _ _ rfl rfl A 4 [(.slice ka kn kc),(.slice ha hn hc),(.slice (some ⟨b,off,none⟩) mn mc),.map (some mp)] [.int .i64 5,.int .i64 fI,.int .i64 fK] [] 74 [.int .i64 3,.int .i64 (k1:Int),.int .i64 (i:Int)] rfl rfl rfl HA_V6.out rfl Tryd.size40 (fun v hv=>by simp at hv;rcases hv with rfl | rfl | rfl<;>rfl) ?_ | fail)
 intro V7 HAs_V7 HG_V7
 have HB_V7:Hid (Below W0.heap.size W0 V7):=HB_V6.out.trans (bel_grown HG_V7.out HHC.out.age HB_V6.out.size)
 have HA_V7:Hid (V7.heap[A]?=some (.cells (auC (.slice ka kn kc) (.slice ha hn hc) (.slice (some ⟨b,off,none⟩) mn mc) mp (3,(k1:Int),(i:Int))) 74)):=HAs_V7.out
 have HT_V7:Hid (V7.heap[T]?=some (.cells (mkV m).toArray 45)):=(HG_V7.out.block T (blk_lt HT_V6.out) (fun e=>by injection e with e;exact HTA.out e.symm)).trans HT_V6.out
 have HO_V7:=hid (HO_V6.out.kept HG_V7.out (by intro e;injection e with e;exact HNE.out e.symm))
 clear HAs_V7 HG_V7 HB_V6 HA_V6 HT_V6 HO_V6
 go_wp2_with fail
 refine wp_region_held_drew (S:=fun X=>Below V7.heap.size V7 X) (by kernel_rfl) (Below.refl _ _).drew (fun hS_V8=>?_)
 have hd_V8:Below V7.heap.size V7 V7.drew:=(Below.refl _ _).drew
 generalize V7.drew=V8 at *
 simp only[List.size_toArray,List.length_cons,List.length_nil,Nat.reduceAdd]
 have HC2:=hid (fun X (hX:Below V7.heap.size V7 X)=>(Joins.cell_of_block (blk_later HA_V7.out hX) 0).trans (show _=some (Value.slice ka kn kc) from rfl))
 have HL2:=hid (fun X (hX:Below V7.heap.size V7 X)=>blk_range (blk_later HT_V7.out hX))
 refine Ord.take (i:=0) (d:=72) (v:=?vZ0) rfl rfl (by as_aux_lemma=>kernel_rfl) (by as_aux_lemma=>kernel_rfl) (by as_aux_lemma=>kernel_rfl) (fun _ _ _ h=>h) (by rfl) ?hZ0 (by assumption) ?_
 case hZ0=>intro wx hSw;go_simp;try with_reducible rfl
 try simp only[List.setIfInBounds_toArray,List.set_cons_zero,List.set_cons_succ]
 refine Ord.take (i:=1) (d:=73) (v:=?vZ1) rfl rfl (by as_aux_lemma=>kernel_rfl) (by as_aux_lemma=>kernel_rfl) (by as_aux_lemma=>kernel_rfl) (fun _ _ _ h=>h) (by rfl) ?hZ1 (by assumption) ?_
 case hZ1=>intro wx hSw;go_simp;try with_reducible rfl
 try simp only[List.setIfInBounds_toArray,List.set_cons_zero,List.set_cons_succ]
 refine Ord.take (i:=2) (d:=74) (v:=?vZ2) rfl rfl (by as_aux_lemma=>kernel_rfl) (by as_aux_lemma=>kernel_rfl) (by as_aux_lemma=>kernel_rfl) (fun _ _ _ h=>h) (by rfl) ?hZ2 (by assumption) ?_
 case hZ2=>intro wx hSw;go_simp;try with_reducible rfl
 try simp only[List.setIfInBounds_toArray,List.set_cons_zero,List.set_cons_succ]
 refine Ord.take (i:=3) (d:=75) (v:= .slice ka kn kc) rfl rfl (by as_aux_lemma=>kernel_rfl) (by as_aux_lemma=>kernel_rfl) (by as_aux_lemma=>kernel_rfl) (fun _ _ _ h=>h) (by rfl) ?hZ3 (by assumption) ?_
 case hZ3=>intro wx hSw;have hc:=HC2.out _ hSw;go_simp;try with_reducible rfl
 try simp only[List.setIfInBounds_toArray,List.set_cons_zero,List.set_cons_succ]
 refine Ord.take (i:=4) (d:=76) (v:= .agg (mkV m).toArray) rfl rfl (by as_aux_lemma=>kernel_rfl) (by as_aux_lemma=>kernel_rfl) (by as_aux_lemma=>kernel_rfl) (fun _ _ _ h=>h) (by rfl) ?hZ4 (by assumption) ?_
 case hZ4=>intro wx hSw;exact exec_load 45 (.tmp 4) rfl T 0 rfl (run_loadVar_mid wx T 0 45 (mkV m) _ (HL2.out _ hSw) Tryd.underlying45 rfl (by rw[HLM.out];exact Tryd.size45))
 try simp only[List.setIfInBounds_toArray,List.set_cons_zero,List.set_cons_succ]
 refine wpAnyH_ready (rs:= [5]) (by as_aux_lemma=>kernel_rfl) (by simp) (AllReadyH.cons rfl (fun K hK=>?_) AllReadyH.nil)
 go_simp
 have hsw:=sealed_word ka kc key m V8 (HHC.out.laid.later (Bn HB_V7.out hd_V8)) (HKR.out _ (Bn HB_V7.out hd_V8)) HHC.out.kfew HMK.out
 rw[<-HKN.out] at hsw
 refine hsw.mono ?_
 rintro _ V9 ⟨rfl,hb1⟩
 have hS_V9:Below V7.heap.size V7 V9:=Bn hS_V8 hb1
 have hd_V9:Below V7.heap.size V7 V9:=hS_V9
 rw[HFS.out]
 refine hK.out _ _ hS_V9 (fun _=>?_)
 clear hK K hsw hb1
 try simp only[List.setIfInBounds_toArray,List.set_cons_zero,List.set_cons_succ]
 refine Ord.take (i:=6) (d:=78) (v:= .bool true) rfl rfl (by as_aux_lemma=>kernel_rfl) (by as_aux_lemma=>kernel_rfl) (by as_aux_lemma=>kernel_rfl) (fun _ _ _ h=>h) (by rfl) ?hZ6 (by assumption) ?_
 case hZ6=>intro wx hSw;go_simp;try with_reducible rfl
 try simp only[List.setIfInBounds_toArray,List.set_cons_zero,List.set_cons_succ]
 refine wpAnyH_done (by as_aux_lemma=>kernel_rfl) ?_ _
 have hb_V9:=hd_V9
 clear hS_V8 hd_V8 hS_V9 hd_V9 HC2 HL2
 have HB_V9:=hid (Bn HB_V7.out hb_V9)
 have HA_V9:=hid (blk_later HA_V7.out hb_V9)
 have HT_V9:=hid (blk_later HT_V7.out hb_V9)
 have HO_V9:=hid (HO_V7.out.kept (grown_bel (r:=none) hb_V9) (by simp))
 clear hb_V9 HB_V7 HA_V7 HT_V7 HO_V7
 go_wp2_with (first | refine wpList_store_Z rfl 40 _ _ rfl rfl A 4 [(.slice ka kn kc),(.slice ha hn hc),(.slice (some ⟨b,off,none⟩) mn mc),.map (some mp)] [.int .i64 3,.int .i64 (k1:Int),.int .i64 (i:Int)] [] 74 [.int .i64 2,.int .i64 (i:Int),.int .i64 0] rfl rfl rfl HA_V9.out rfl Tryd.size40 (fun v hv=>by simp at hv;rcases hv with rfl | rfl | rfl<;>rfl) ?_ | fail)
 intro V10 HAs_V10 HG_V10
 have HB_V10:Hid (Below W0.heap.size W0 V10):=HB_V9.out.trans (bel_grown HG_V10.out HHC.out.age HB_V9.out.size)
 have HA_V10:Hid (V10.heap[A]?=some (.cells (auC (.slice ka kn kc) (.slice ha hn hc) (.slice (some ⟨b,off,none⟩) mn mc) mp (2,(i:Int),0)) 74)):=HAs_V10.out
 have HT_V10:Hid (V10.heap[T]?=some (.cells (mkV m).toArray 45)):=(HG_V10.out.block T (blk_lt HT_V9.out) (fun e=>by injection e with e;exact HTA.out e.symm)).trans HT_V9.out
 have HO_V10:=hid (HO_V9.out.kept HG_V10.out (by intro e;injection e with e;exact HNE.out e.symm))
 clear HAs_V10 HG_V10 HB_V9 HA_V9 HT_V9 HO_V9
 go_wp2
 go_end0
 exact⟨rfl,HB_V10.out,HA_V10.out,D2,nn2,HO_V10.out,HN2.out,fun _=>HF2.out⟩
set_option maxHeartbeats 6400000 in
set_option maxRecDepth 100000 in
theorem hold_5tfft(W0 w:World)(A mp nn:Nat)(ka:Option Addr)(kc:Nat)(key:List Nat)(ha:Option Addr)(hc:Nat)(hs:List Hd)(ma:Option Addr)(mc:Nat)(ms:List Mrk)(i:Nat)(D:DataW Value)(fI fK:Int)(h:Hc W0 w A mp nn ka kc key ha hc hs ma mc ms i D (5,fI,fK))(hR:decide ((ms.getD i mkZ).2.1.1<(hs.length:Int))=true)(hH:hasB hs (ms.getD i mkZ).2.1=false)(hF:decide ((ms.getD (fst1 ms i) mkZ).2.1=(ms.getD i mkZ).2.1)=true)(hS:sealedB key (ms.getD i mkZ)=true):
 Calls Tryd.prog 32 #[.pointer (some ⟨A,0,none⟩),.int .i64 (i:Int)] w (HoP W0 A mp (.slice ka key.length kc) (.slice ha hs.length hc) (.slice ma ms.length mc) ms i (4,(i:Int),0)):=by
 have hmost:=h.mrow.most
 have hroom:=h.mrow.room
 unfold maxLen at hmost
 have hilt:=h.ilt
 have HNE:=hid h.ne
 obtain⟨b,off,rfl,hbw,hcc⟩:=h.mrow.cells (by omega)
 obtain⟨m,hm⟩:∃m,m=ms.getD i mkZ:=⟨_,rfl⟩
 have hmk:MOk m:=by rw[hm];exact mk_get hilt h.mok
 have hcm:=hcc i hilt
 rw[<-hm] at hcm
 have HMR:=hid (fun X (hX:Below W0.heap.size W0 X)=>range_later hcm hX hbw)
 have HMK:=hid hmk
 have HLM:=hid (mkV_len hmk)
 have HLZ:=hid (mkV_len mkZ_ok)
 have HHL:=hid (hdV_len hmk.hd.len)
 have HMM:=hid hm
 obtain⟨mn,hmn⟩:∃n,n=ms.length:=⟨_,rfl⟩
 obtain⟨hn,hhn⟩:∃n,n=hs.length:=⟨_,rfl⟩
 obtain⟨kn,hkn⟩:∃n,n=key.length:=⟨_,rfl⟩
 have HA0:=hid h.blk
 have HKR:=hid (fun X (hX:Below W0.heap.size W0 X)=>h.krd.later hX)
 have HBW:=hid h.bel
 have HO0:=hid h.own
 have HHC:=hid h
 have him:(i:Int)<(mn:Int):=by omega
 have hi5:i<=100000:=by have:=h.mfew;omega
 rw[<-hmn,<-hhn,<-hkn] at HA0
 rw[<-hmn] at hroom
 have HMN:=hid hmn
 have HHN:=hid hhn
 have HKN:=hid hkn
 have HZ:=hid Tryd.zero45
 rw[<-hm] at hR hH hF hS
 have HFR:Hid (decide (m.2.1.1<(hn:Int))=true):=by show _=_;rw[hhn];exact hR
 have HFH:Hid (hasB hs m.2.1=false):=hH
 have HFF:Hid (decide ((ms.getD (fst1 ms i) mkZ).2.1=m.2.1)=true):=hF
 have HFS:Hid (sealedB key m=true):=hS
 clear hR hH hF hS
 have hk0:=fst1_lt hilt
 have hcf:=hcc (fst1 ms i) (by omega)
 have hyl:(ms.getD (fst1 ms i) mkZ).2.1.2.2.length=32:=(mk_get (show fst1 ms i<ms.length by omega) h.mok).hd.len
 have hkm:(fst1 ms i:Int)<(mn:Int):=by omega
 obtain⟨k1,hk1⟩:∃k,k=fst1 ms i:=⟨_,rfl⟩
 rw[<-hk1] at hcf hyl hkm hk0 HFF
 obtain⟨y,hy⟩:∃y,y=ms.getD k1 mkZ:=⟨_,rfl⟩
 rw[<-hy] at hcf hyl HFF
 have HYR:=hid (fun X (hX:Below W0.heap.size W0 X)=>range_later hcf hX hbw)
 have HYL:=hid (hdV_len hyl)
 have HEQ:=hid (fun V=>eq55 y.2.1 m.2.1 hyl HMK.out.hd.len V)
 rw[HFF.out] at HEQ
 have HK1:=hid hk1
 clear hy hyl hcf hk1
 clear h hcc hmk hcm hm hmn hhn hkn hilt
 unfold HoP
 rw[<-HMN.out,<-HHN.out,<-HKN.out]
 obtain⟨T,hT⟩:∃T,T=w.heap.size:=⟨_,rfl⟩
 have HTQ:=hid hT
 have HTA:Hid (A≠T):=by show _≠_;rw[hT];exact Nat.ne_of_lt (blk_lt HA0.out)
 have c2_w:=(Joins.cell_of_block HA0.out 2).trans (show _=some (Value.slice (some ⟨b,off,none⟩) mn mc) from rfl)
 clear hT
 go_enter Tryd.func32,Tryd.ntmps32
 go_wp2_with (first | refine wpList_load_P rfl 45 _ rfl b (off+i*67) rfl (mkV m) _ (HMR.out _ HBW.out) Tryd.underlying45 rfl (by rw[HLM.out];exact Tryd.size45) ?_ | refine wpList_alloc_W rfl 45 rfl (some 4) rfl _ HZ.out T HTQ.out ?_ | fail)
 intro V1 HG1 HBl1 HS1
 go_wp2_with (first | refine wpList_store_W rfl 45 _ _ rfl rfl T (mkV m).toArray rfl rfl 45 _ HG1.out (by rw[List.size_toArray,HLM.out];exact Tryd.size45) (by rw[List.size_toArray,List.size_toArray,HLM.out,HLZ.out]) (all_oneCell_toArray (mkV_one _)) ?_ | fail)
 intro V2 HT_V2 HGR2 HS2
 have hb_V2:Below w.heap.size w V2:=by
  rw[<-HTQ.out]
  exact HBl1.out.trans (bel_grown HGR2.out (Nat.le_refl _) (by rw[HTQ.out];exact HBl1.out.size))
 have HB_V2:=hid (Bn HBW.out hb_V2)
 have HA_V2:=hid (blk_later HA0.out hb_V2)
 have HO_V2:=hid (HO0.out.kept (grown_bel (r:=none) hb_V2) (by simp))
 have c4_V2:=(Joins.cell_of_block HA_V2.out 4).trans (show _=some (Value.int .i64 5) from rfl)
 clear hb_V2 HG1 HBl1 HS1 HGR2 HS2 HBW HA0 HO0 c2_w HTQ HMR
 go_wp2_with (first | refine wpList_load_P rfl 27 _ rfl T 1 rfl (hdV m.2.1) _ (mk_hd (blk_range HT_V2.out)) Tryd.underlying27 rfl (by rw[HHL.out];exact Tryd.size27) ?_ | fail)
 refine(reaches_word A (.slice ka kn kc) (.slice (some ⟨b,off,none⟩) mn mc) ha hn hc mp (5,fI,fK) m.2.1 V2 HA_V2.out HMK.out.hd.len).mono ?_
 rintro _ V3 ⟨rfl,hb_V3⟩
 rw[HFR.out]
 clear c4_V2
 have HB_V3:=hid (Bn HB_V2.out hb_V3)
 have HA_V3:=hid (blk_later HA_V2.out hb_V3)
 have HT_V3:=hid (blk_later HT_V2.out hb_V3)
 have HO_V3:=hid (HO_V2.out.kept (grown_bel (r:=none) hb_V3) (by simp))
 clear hb_V3 HB_V2 HA_V2 HT_V2 HO_V2
 go_wp2_with (first | refine wpList_load_g rfl 27 _ rfl T 1 rfl (hdV m.2.1) _ (mk_hd (blk_range HT_V3.out)) Tryd.underlying27 rfl (by rw[HHL.out];exact Tryd.size27) ?_ | fail)
 refine(has_word A (.slice ka kn kc) (.slice (some ⟨b,off,none⟩) mn mc) ha hn hc mp (5,fI,fK) m.2.1 hs V3 HA_V3.out HMK.out.hd.len (HHC.out.hrow.later HB_V3.out) HHN.out (of_decide_eq_true HFR.out) HHC.out.h32).mono ?_
 rintro _ V4 ⟨rfl,hb_V4⟩
 rw[HFH.out]
 have HB_V4:=hid (Bn HB_V3.out hb_V4)
 have HA_V4:=hid (blk_later HA_V3.out hb_V4)
 have HT_V4:=hid (blk_later HT_V3.out hb_V4)
 have HO_V4:=hid (HO_V3.out.kept (grown_bel (r:=none) hb_V4) (by simp))
 clear hb_V4 HB_V3 HA_V3 HT_V3 HO_V3
 go_wp2_with (first | refine wpList_store_Z rfl 40 _ _ rfl rfl A 4 [(.slice ka kn kc),(.slice ha hn hc),(.slice (some ⟨b,off,none⟩) mn mc),.map (some mp)] [.int .i64 5,.int .i64 fI,.int .i64 fK] [] 74 [.int .i64 4,.int .i64 (i:Int),.int .i64 0] rfl rfl rfl HA_V4.out rfl Tryd.size40 (fun v hv=>by simp at hv;rcases hv with rfl | rfl | rfl<;>rfl) ?_ | fail)
 intro V5 HAs_V5 HG_V5
 have HB_V5:Hid (Below W0.heap.size W0 V5):=HB_V4.out.trans (bel_grown HG_V5.out HHC.out.age HB_V4.out.size)
 have HA_V5:Hid (V5.heap[A]?=some (.cells (auC (.slice ka kn kc) (.slice ha hn hc) (.slice (some ⟨b,off,none⟩) mn mc) mp (4,(i:Int),0)) 74)):=HAs_V5.out
 have HT_V5:Hid (V5.heap[T]?=some (.cells (mkV m).toArray 45)):=(HG_V5.out.block T (blk_lt HT_V4.out) (fun e=>by injection e with e;exact HTA.out e.symm)).trans HT_V4.out
 have HO_V5:=hid (HO_V4.out.kept HG_V5.out (by intro e;injection e with e;exact HNE.out e.symm))
 clear HAs_V5 HG_V5 HB_V4 HA_V4 HT_V4 HO_V4
 go_wp2_with fail
 refine(first_word A (.slice ka kn kc) (.slice ha hn hc) (some ⟨b,off,none⟩) mn mc mp nn (4,(i:Int),0) ms i D V5 HA_V5.out (HHC.out.mrow.later HB_V5.out) HMN.out HHC.out.ilt HHC.out.mfew HHC.out.mok HO_V5.out (Nat.le_trans HHC.out.nfew (Nat.le_trans (Nat.le_of_lt HHC.out.ilt) HHC.out.mfew)) (HHC.out.fs (show(4:Int)<=5 by decide))).mono ?_
 rintro _ V6 ⟨rfl,D2,nn2,ho_V6,hn_V6,hf_V6,hg_V6⟩
 rw[<-HK1.out]
 have HB_V6:Hid (Below W0.heap.size W0 V6):=HB_V5.out.trans (bel_grown hg_V6 HHC.out.mge HB_V5.out.size)
 have HA_V6:=hid ((hg_V6.block A (blk_lt HA_V5.out) (fun e=>by injection e with e;exact HNE.out e)).trans HA_V5.out)
 have HT_V6:Hid (V6.heap[T]?=some (.cells (mkV m).toArray 45)):=(hg_V6.block T (blk_lt HT_V5.out) (fun e=>by injection e with e;obtain⟨es,clock,hq,_⟩:=HO_V5.out;have ht:=HT_V5.out;rw[e,hq] at ht;cases ht)).trans HT_V5.out
 have HO_V6:=hid ho_V6
 have HN2:Hid (nn2<=i+1):=Nat.le_trans hn_V6 (Nat.succ_le_succ HHC.out.nfew)
 have HF2:=hid hf_V6
 clear ho_V6 hn_V6 hf_V6 hg_V6 HB_V5 HA_V5 HT_V5 HO_V5
 go_wp2_with fail
 refine wp_region_held_drew (S:=fun X=>Below V6.heap.size V6 X) (by kernel_rfl) (Below.refl _ _).drew (fun hS_V7=>?_)
 have hd_V7:Below V6.heap.size V6 V6.drew:=(Below.refl _ _).drew
 generalize V6.drew=V7 at *
 simp only[List.size_toArray,List.length_cons,List.length_nil,Nat.reduceAdd]
 have HC2:=hid (fun X (hX:Below V6.heap.size V6 X)=>(Joins.cell_of_block (blk_later HA_V6.out hX) 2).trans (show _=some (Value.slice (some ⟨b,off,none⟩) mn mc) from rfl))
 have HL1:=hid (fun X (hX:Below V6.heap.size V6 X)=>mk_hd (HYR.out X (Bn HB_V6.out hX)))
 have HL2:=hid (fun X (hX:Below V6.heap.size V6 X)=>mk_hd (blk_range (blk_later HT_V6.out hX)))
 refine Ord.take (i:=0) (d:=55) (v:=?vQ0) rfl rfl (by as_aux_lemma=>kernel_rfl) (by as_aux_lemma=>kernel_rfl) (by as_aux_lemma=>kernel_rfl) (fun _ _ _ h=>h) (by rfl) ?hQ0 (by assumption) ?_
 case hQ0=>intro wx hSw;go_simp;try with_reducible rfl
 try simp only[List.setIfInBounds_toArray,List.set_cons_zero,List.set_cons_succ]
 refine Ord.take (i:=1) (d:=56) (v:=?vQ1) rfl rfl (by as_aux_lemma=>kernel_rfl) (by as_aux_lemma=>kernel_rfl) (by as_aux_lemma=>kernel_rfl) (fun _ _ _ h=>h) (by rfl) ?hQ1 (by assumption) ?_
 case hQ1=>intro wx hSw;go_simp;try with_reducible rfl
 try simp only[List.setIfInBounds_toArray,List.set_cons_zero,List.set_cons_succ]
 refine Ord.take (i:=2) (d:=57) (v:=?vQ2) rfl rfl (by as_aux_lemma=>kernel_rfl) (by as_aux_lemma=>kernel_rfl) (by as_aux_lemma=>kernel_rfl) (fun _ _ _ h=>h) (by rfl) ?hQ2 (by assumption) ?_
 case hQ2=>intro wx hSw;go_simp;try with_reducible rfl
 try simp only[List.setIfInBounds_toArray,List.set_cons_zero,List.set_cons_succ]
 refine Ord.take (i:=3) (d:=58) (v:= .slice (some ⟨b,off,none⟩) mn mc) rfl rfl (by as_aux_lemma=>kernel_rfl) (by as_aux_lemma=>kernel_rfl) (by as_aux_lemma=>kernel_rfl) (fun _ _ _ h=>h) (by rfl) ?hQ3 (by assumption) ?_
 case hQ3=>intro wx hSw;have hc:=HC2.out _ hSw;go_simp;try with_reducible rfl
 try simp only[List.setIfInBounds_toArray,List.set_cons_zero,List.set_cons_succ]
 refine Ord.take (i:=4) (d:=59) (v:=?vQ4) rfl rfl (by as_aux_lemma=>kernel_rfl) (by as_aux_lemma=>kernel_rfl) (by as_aux_lemma=>kernel_rfl) (fun _ _ _ h=>h) (by rfl) ?hQ4 (by assumption) ?_
 case hQ4=>intro wx hSw;go_simp;try with_reducible rfl
 try simp only[List.setIfInBounds_toArray,List.set_cons_zero,List.set_cons_succ]
 refine Ord.take (i:=5) (d:=60) (v:=?vQ5) rfl rfl (by as_aux_lemma=>kernel_rfl) (by as_aux_lemma=>kernel_rfl) (by as_aux_lemma=>kernel_rfl) (fun _ _ _ h=>h) (by rfl) ?hQ5 (by assumption) ?_
 case hQ5=>intro wx hSw;go_simp;try with_reducible rfl
 try simp only[List.setIfInBounds_toArray,List.set_cons_zero,List.set_cons_succ]
 refine Ord.take (i:=6) (d:=61) (v:=?vQ6) rfl rfl (by as_aux_lemma=>kernel_rfl) (by as_aux_lemma=>kernel_rfl) (by as_aux_lemma=>kernel_rfl) (fun _ _ _ h=>h) (by rfl) ?hQ6 (by assumption) ?_
 case hQ6=>intro wx hSw;go_simp;try with_reducible rfl
 try simp only[List.setIfInBounds_toArray,List.set_cons_zero,List.set_cons_succ]
 refine Ord.take (i:=7) (d:=62) (v:= .agg (hdV y.2.1).toArray) rfl rfl (by as_aux_lemma=>kernel_rfl) (by as_aux_lemma=>kernel_rfl) (by as_aux_lemma=>kernel_rfl) (fun _ _ _ h=>h) (by rfl) ?hQ7 (by assumption) ?_
 case hQ7=>intro wx hSw;exact exec_load 27 (.tmp 61) rfl b (off+k1*67+1) rfl (run_loadVar_mid wx b (off+k1*67+1) 27 (hdV y.2.1) _ (HL1.out _ hSw) Tryd.underlying27 rfl (by rw[HYL.out];exact Tryd.size27))
 try simp only[List.setIfInBounds_toArray,List.set_cons_zero,List.set_cons_succ]
 refine Ord.take (i:=8) (d:=63) (v:=?vQ8) rfl rfl (by as_aux_lemma=>kernel_rfl) (by as_aux_lemma=>kernel_rfl) (by as_aux_lemma=>kernel_rfl) (fun _ _ _ h=>h) (by rfl) ?hQ8 (by assumption) ?_
 case hQ8=>intro wx hSw;go_simp;try with_reducible rfl
 try simp only[List.setIfInBounds_toArray,List.set_cons_zero,List.set_cons_succ]
 refine Ord.take (i:=9) (d:=64) (v:= .agg (hdV m.2.1).toArray) rfl rfl (by as_aux_lemma=>kernel_rfl) (by as_aux_lemma=>kernel_rfl) (by as_aux_lemma=>kernel_rfl) (fun _ _ _ h=>h) (by rfl) ?hQ9 (by assumption) ?_
 case hQ9=>intro wx hSw;exact exec_load 27 (.tmp 63) rfl T 1 rfl (run_loadVar_mid wx T 1 27 (hdV m.2.1) _ (HL2.out _ hSw) Tryd.underlying27 rfl (by rw[HHL.out];exact Tryd.size27))
 try simp only[List.setIfInBounds_toArray,List.set_cons_zero,List.set_cons_succ]
 refine Ord.take (i:=10) (d:=65) (v:= .bool false) rfl rfl (by as_aux_lemma=>kernel_rfl) (by as_aux_lemma=>kernel_rfl) (by as_aux_lemma=>kernel_rfl) (fun _ _ _ h=>h) (by rfl) ?hQ10 (by assumption) ?_
 case hQ10=>intro wx hSw;exact run_neq_op rfl rfl rfl guard55 (HEQ.out _)
 try simp only[List.setIfInBounds_toArray,List.set_cons_zero,List.set_cons_succ]
 refine wpAnyH_done (by as_aux_lemma=>kernel_rfl) ?_ _
 have hb_V7:=hd_V7
 clear hS_V7 hd_V7 HC2 HL1 HL2
 have HB_V7:=hid (Bn HB_V6.out hb_V7)
 have HA_V7:=hid (blk_later HA_V6.out hb_V7)
 have HT_V7:=hid (blk_later HT_V6.out hb_V7)
 have HO_V7:=hid (HO_V6.out.kept (grown_bel (r:=none) hb_V7) (by simp))
 clear hb_V7 HB_V6 HA_V6 HT_V6 HO_V6
 go_wp2_with fail
 refine wp_region_held_drew (S:=fun X=>Below V7.heap.size V7 X) (by kernel_rfl) (Below.refl _ _).drew (fun hS_V8=>?_)
 have hd_V8:Below V7.heap.size V7 V7.drew:=(Below.refl _ _).drew
 generalize V7.drew=V8 at *
 simp only[List.size_toArray,List.length_cons,List.length_nil,Nat.reduceAdd]
 have HC2:=hid (fun X (hX:Below V7.heap.size V7 X)=>(Joins.cell_of_block (blk_later HA_V7.out hX) 0).trans (show _=some (Value.slice ka kn kc) from rfl))
 have HL2:=hid (fun X (hX:Below V7.heap.size V7 X)=>blk_range (blk_later HT_V7.out hX))
 refine Ord.take (i:=0) (d:=72) (v:=?vZ0) rfl rfl (by as_aux_lemma=>kernel_rfl) (by as_aux_lemma=>kernel_rfl) (by as_aux_lemma=>kernel_rfl) (fun _ _ _ h=>h) (by rfl) ?hZ0 (by assumption) ?_
 case hZ0=>intro wx hSw;go_simp;try with_reducible rfl
 try simp only[List.setIfInBounds_toArray,List.set_cons_zero,List.set_cons_succ]
 refine Ord.take (i:=1) (d:=73) (v:=?vZ1) rfl rfl (by as_aux_lemma=>kernel_rfl) (by as_aux_lemma=>kernel_rfl) (by as_aux_lemma=>kernel_rfl) (fun _ _ _ h=>h) (by rfl) ?hZ1 (by assumption) ?_
 case hZ1=>intro wx hSw;go_simp;try with_reducible rfl
 try simp only[List.setIfInBounds_toArray,List.set_cons_zero,List.set_cons_succ]
 refine Ord.take (i:=2) (d:=74) (v:=?vZ2) rfl rfl (by as_aux_lemma=>kernel_rfl) (by as_aux_lemma=>kernel_rfl) (by as_aux_lemma=>kernel_rfl) (fun _ _ _ h=>h) (by rfl) ?hZ2 (by assumption) ?_
 case hZ2=>intro wx hSw;go_simp;try with_reducible rfl
 try simp only[List.setIfInBounds_toArray,List.set_cons_zero,List.set_cons_succ]
 refine Ord.take (i:=3) (d:=75) (v:= .slice ka kn kc) rfl rfl (by as_aux_lemma=>kernel_rfl) (by as_aux_lemma=>kernel_rfl) (by as_aux_lemma=>kernel_rfl) (fun _ _ _ h=>h) (by rfl) ?hZ3 (by assumption) ?_
 case hZ3=>intro wx hSw;have hc:=HC2.out _ hSw;go_simp;try with_reducible rfl
 try simp only[List.setIfInBounds_toArray,List.set_cons_zero,List.set_cons_succ]
 refine Ord.take (i:=4) (d:=76) (v:= .agg (mkV m).toArray) rfl rfl (by as_aux_lemma=>kernel_rfl) (by as_aux_lemma=>kernel_rfl) (by as_aux_lemma=>kernel_rfl) (fun _ _ _ h=>h) (by rfl) ?hZ4 (by assumption) ?_
 case hZ4=>intro wx hSw;exact exec_load 45 (.tmp 4) rfl T 0 rfl (run_loadVar_mid wx T 0 45 (mkV m) _ (HL2.out _ hSw) Tryd.underlying45 rfl (by rw[HLM.out];exact Tryd.size45))
 try simp only[List.setIfInBounds_toArray,List.set_cons_zero,List.set_cons_succ]
 refine wpAnyH_ready (rs:= [5]) (by as_aux_lemma=>kernel_rfl) (by simp) (AllReadyH.cons rfl (fun K hK=>?_) AllReadyH.nil)
 go_simp
 have hsw:=sealed_word ka kc key m V8 (HHC.out.laid.later (Bn HB_V7.out hd_V8)) (HKR.out _ (Bn HB_V7.out hd_V8)) HHC.out.kfew HMK.out
 rw[<-HKN.out] at hsw
 refine hsw.mono ?_
 rintro _ V9 ⟨rfl,hb1⟩
 have hS_V9:Below V7.heap.size V7 V9:=Bn hS_V8 hb1
 have hd_V9:Below V7.heap.size V7 V9:=hS_V9
 rw[HFS.out]
 refine hK.out _ _ hS_V9 (fun _=>?_)
 clear hK K hsw hb1
 try simp only[List.setIfInBounds_toArray,List.set_cons_zero,List.set_cons_succ]
 refine Ord.take (i:=6) (d:=78) (v:= .bool false) rfl rfl (by as_aux_lemma=>kernel_rfl) (by as_aux_lemma=>kernel_rfl) (by as_aux_lemma=>kernel_rfl) (fun _ _ _ h=>h) (by rfl) ?hZ6 (by assumption) ?_
 case hZ6=>intro wx hSw;go_simp;try with_reducible rfl
 try simp only[List.setIfInBounds_toArray,List.set_cons_zero,List.set_cons_succ]
 refine wpAnyH_done (by as_aux_lemma=>kernel_rfl) ?_ _
 have hb_V9:=hd_V9
 clear hS_V8 hd_V8 hS_V9 hd_V9 HC2 HL2
 have HB_V9:=hid (Bn HB_V7.out hb_V9)
 have HA_V9:=hid (blk_later HA_V7.out hb_V9)
 have HT_V9:=hid (blk_later HT_V7.out hb_V9)
 have HO_V9:=hid (HO_V7.out.kept (grown_bel (r:=none) hb_V9) (by simp))
 clear hb_V9 HB_V7 HA_V7 HT_V7 HO_V7
 go_wp2
 go_end0
 exact⟨rfl,HB_V9.out,HA_V9.out,D2,nn2,HO_V9.out,HN2.out,fun _=>HF2.out⟩
set_option maxHeartbeats 6400000 in
set_option maxRecDepth 100000 in
theorem hold_5tfff(W0 w:World)(A mp nn:Nat)(ka:Option Addr)(kc:Nat)(key:List Nat)(ha:Option Addr)(hc:Nat)(hs:List Hd)(ma:Option Addr)(mc:Nat)(ms:List Mrk)(i:Nat)(D:DataW Value)(fI fK:Int)(h:Hc W0 w A mp nn ka kc key ha hc hs ma mc ms i D (5,fI,fK))(hR:decide ((ms.getD i mkZ).2.1.1<(hs.length:Int))=true)(hH:hasB hs (ms.getD i mkZ).2.1=false)(hF:decide ((ms.getD (fst1 ms i) mkZ).2.1=(ms.getD i mkZ).2.1)=true)(hS:sealedB key (ms.getD i mkZ)=false):
 Calls Tryd.prog 32 #[.pointer (some ⟨A,0,none⟩),.int .i64 (i:Int)] w (HoP W0 A mp (.slice ka key.length kc) (.slice ha hs.length hc) (.slice ma ms.length mc) ms i (2,(i:Int),0)):=by
 have hmost:=h.mrow.most
 have hroom:=h.mrow.room
 unfold maxLen at hmost
 have hilt:=h.ilt
 have HNE:=hid h.ne
 obtain⟨b,off,rfl,hbw,hcc⟩:=h.mrow.cells (by omega)
 obtain⟨m,hm⟩:∃m,m=ms.getD i mkZ:=⟨_,rfl⟩
 have hmk:MOk m:=by rw[hm];exact mk_get hilt h.mok
 have hcm:=hcc i hilt
 rw[<-hm] at hcm
 have HMR:=hid (fun X (hX:Below W0.heap.size W0 X)=>range_later hcm hX hbw)
 have HMK:=hid hmk
 have HLM:=hid (mkV_len hmk)
 have HLZ:=hid (mkV_len mkZ_ok)
 have HHL:=hid (hdV_len hmk.hd.len)
 have HMM:=hid hm
 obtain⟨mn,hmn⟩:∃n,n=ms.length:=⟨_,rfl⟩
 obtain⟨hn,hhn⟩:∃n,n=hs.length:=⟨_,rfl⟩
 obtain⟨kn,hkn⟩:∃n,n=key.length:=⟨_,rfl⟩
 have HA0:=hid h.blk
 have HKR:=hid (fun X (hX:Below W0.heap.size W0 X)=>h.krd.later hX)
 have HBW:=hid h.bel
 have HO0:=hid h.own
 have HHC:=hid h
 have him:(i:Int)<(mn:Int):=by omega
 have hi5:i<=100000:=by have:=h.mfew;omega
 rw[<-hmn,<-hhn,<-hkn] at HA0
 rw[<-hmn] at hroom
 have HMN:=hid hmn
 have HHN:=hid hhn
 have HKN:=hid hkn
 have HZ:=hid Tryd.zero45
 rw[<-hm] at hR hH hF hS
 have HFR:Hid (decide (m.2.1.1<(hn:Int))=true):=by show _=_;rw[hhn];exact hR
 have HFH:Hid (hasB hs m.2.1=false):=hH
 have HFF:Hid (decide ((ms.getD (fst1 ms i) mkZ).2.1=m.2.1)=true):=hF
 have HFS:Hid (sealedB key m=false):=hS
 clear hR hH hF hS
 have hk0:=fst1_lt hilt
 have hcf:=hcc (fst1 ms i) (by omega)
 have hyl:(ms.getD (fst1 ms i) mkZ).2.1.2.2.length=32:=(mk_get (show fst1 ms i<ms.length by omega) h.mok).hd.len
 have hkm:(fst1 ms i:Int)<(mn:Int):=by omega
 obtain⟨k1,hk1⟩:∃k,k=fst1 ms i:=⟨_,rfl⟩
 rw[<-hk1] at hcf hyl hkm hk0 HFF
 obtain⟨y,hy⟩:∃y,y=ms.getD k1 mkZ:=⟨_,rfl⟩
 rw[<-hy] at hcf hyl HFF
 have HYR:=hid (fun X (hX:Below W0.heap.size W0 X)=>range_later hcf hX hbw)
 have HYL:=hid (hdV_len hyl)
 have HEQ:=hid (fun V=>eq55 y.2.1 m.2.1 hyl HMK.out.hd.len V)
 rw[HFF.out] at HEQ
 have HK1:=hid hk1
 clear hy hyl hcf hk1
 clear h hcc hmk hcm hm hmn hhn hkn hilt
 unfold HoP
 rw[<-HMN.out,<-HHN.out,<-HKN.out]
 obtain⟨T,hT⟩:∃T,T=w.heap.size:=⟨_,rfl⟩
 have HTQ:=hid hT
 have HTA:Hid (A≠T):=by show _≠_;rw[hT];exact Nat.ne_of_lt (blk_lt HA0.out)
 have c2_w:=(Joins.cell_of_block HA0.out 2).trans (show _=some (Value.slice (some ⟨b,off,none⟩) mn mc) from rfl)
 clear hT
 go_enter Tryd.func32,Tryd.ntmps32
 go_wp2_with (first | refine wpList_load_P rfl 45 _ rfl b (off+i*67) rfl (mkV m) _ (HMR.out _ HBW.out) Tryd.underlying45 rfl (by rw[HLM.out];exact Tryd.size45) ?_ | refine wpList_alloc_W rfl 45 rfl (some 4) rfl _ HZ.out T HTQ.out ?_ | fail)
 intro V1 HG1 HBl1 HS1
 go_wp2_with (first | refine wpList_store_W rfl 45 _ _ rfl rfl T (mkV m).toArray rfl rfl 45 _ HG1.out (by rw[List.size_toArray,HLM.out];exact Tryd.size45) (by rw[List.size_toArray,List.size_toArray,HLM.out,HLZ.out]) (all_oneCell_toArray (mkV_one _)) ?_ | fail)
 intro V2 HT_V2 HGR2 HS2
 have hb_V2:Below w.heap.size w V2:=by
  rw[<-HTQ.out]
  exact HBl1.out.trans (bel_grown HGR2.out (Nat.le_refl _) (by rw[HTQ.out];exact HBl1.out.size))
 have HB_V2:=hid (Bn HBW.out hb_V2)
 have HA_V2:=hid (blk_later HA0.out hb_V2)
 have HO_V2:=hid (HO0.out.kept (grown_bel (r:=none) hb_V2) (by simp))
 have c4_V2:=(Joins.cell_of_block HA_V2.out 4).trans (show _=some (Value.int .i64 5) from rfl)
 clear hb_V2 HG1 HBl1 HS1 HGR2 HS2 HBW HA0 HO0 c2_w HTQ HMR
 go_wp2_with (first | refine wpList_load_P rfl 27 _ rfl T 1 rfl (hdV m.2.1) _ (mk_hd (blk_range HT_V2.out)) Tryd.underlying27 rfl (by rw[HHL.out];exact Tryd.size27) ?_ | fail)
 refine(reaches_word A (.slice ka kn kc) (.slice (some ⟨b,off,none⟩) mn mc) ha hn hc mp (5,fI,fK) m.2.1 V2 HA_V2.out HMK.out.hd.len).mono ?_
 rintro _ V3 ⟨rfl,hb_V3⟩
 rw[HFR.out]
 clear c4_V2
 have HB_V3:=hid (Bn HB_V2.out hb_V3)
 have HA_V3:=hid (blk_later HA_V2.out hb_V3)
 have HT_V3:=hid (blk_later HT_V2.out hb_V3)
 have HO_V3:=hid (HO_V2.out.kept (grown_bel (r:=none) hb_V3) (by simp))
 clear hb_V3 HB_V2 HA_V2 HT_V2 HO_V2
 go_wp2_with (first | refine wpList_load_g rfl 27 _ rfl T 1 rfl (hdV m.2.1) _ (mk_hd (blk_range HT_V3.out)) Tryd.underlying27 rfl (by rw[HHL.out];exact Tryd.size27) ?_ | fail)
 refine(has_word A (.slice ka kn kc) (.slice (some ⟨b,off,none⟩) mn mc) ha hn hc mp (5,fI,fK) m.2.1 hs V3 HA_V3.out HMK.out.hd.len (HHC.out.hrow.later HB_V3.out) HHN.out (of_decide_eq_true HFR.out) HHC.out.h32).mono ?_
 rintro _ V4 ⟨rfl,hb_V4⟩
 rw[HFH.out]
 have HB_V4:=hid (Bn HB_V3.out hb_V4)
 have HA_V4:=hid (blk_later HA_V3.out hb_V4)
 have HT_V4:=hid (blk_later HT_V3.out hb_V4)
 have HO_V4:=hid (HO_V3.out.kept (grown_bel (r:=none) hb_V4) (by simp))
 clear hb_V4 HB_V3 HA_V3 HT_V3 HO_V3
 go_wp2_with (first | refine wpList_store_Z rfl 40 _ _ rfl rfl A 4 [(.slice ka kn kc),(.slice ha hn hc),(.slice (some ⟨b,off,none⟩) mn mc),.map (some mp)] [.int .i64 5,.int .i64 fI,.int .i64 fK] [] 74 [.int .i64 4,.int .i64 (i:Int),.int .i64 0] rfl rfl rfl HA_V4.out rfl Tryd.size40 (fun v hv=>by simp at hv;rcases hv with rfl | rfl | rfl<;>rfl) ?_ | fail)
 intro V5 HAs_V5 HG_V5
 have HB_V5:Hid (Below W0.heap.size W0 V5):=HB_V4.out.trans (bel_grown HG_V5.out HHC.out.age HB_V4.out.size)
 have HA_V5:Hid (V5.heap[A]?=some (.cells (auC (.slice ka kn kc) (.slice ha hn hc) (.slice (some ⟨b,off,none⟩) mn mc) mp (4,(i:Int),0)) 74)):=HAs_V5.out
 have HT_V5:Hid (V5.heap[T]?=some (.cells (mkV m).toArray 45)):=(HG_V5.out.block T (blk_lt HT_V4.out) (fun e=>by injection e with e;exact HTA.out e.symm)).trans HT_V4.out
 have HO_V5:=hid (HO_V4.out.kept HG_V5.out (by intro e;injection e with e;exact HNE.out e.symm))
 clear HAs_V5 HG_V5 HB_V4 HA_V4 HT_V4 HO_V4
 go_wp2_with fail
 refine(first_word A (.slice ka kn kc) (.slice ha hn hc) (some ⟨b,off,none⟩) mn mc mp nn (4,(i:Int),0) ms i D V5 HA_V5.out (HHC.out.mrow.later HB_V5.out) HMN.out HHC.out.ilt HHC.out.mfew HHC.out.mok HO_V5.out (Nat.le_trans HHC.out.nfew (Nat.le_trans (Nat.le_of_lt HHC.out.ilt) HHC.out.mfew)) (HHC.out.fs (show(4:Int)<=5 by decide))).mono ?_
 rintro _ V6 ⟨rfl,D2,nn2,ho_V6,hn_V6,hf_V6,hg_V6⟩
 rw[<-HK1.out]
 have HB_V6:Hid (Below W0.heap.size W0 V6):=HB_V5.out.trans (bel_grown hg_V6 HHC.out.mge HB_V5.out.size)
 have HA_V6:=hid ((hg_V6.block A (blk_lt HA_V5.out) (fun e=>by injection e with e;exact HNE.out e)).trans HA_V5.out)
 have HT_V6:Hid (V6.heap[T]?=some (.cells (mkV m).toArray 45)):=(hg_V6.block T (blk_lt HT_V5.out) (fun e=>by injection e with e;obtain⟨es,clock,hq,_⟩:=HO_V5.out;have ht:=HT_V5.out;rw[e,hq] at ht;cases ht)).trans HT_V5.out
 have HO_V6:=hid ho_V6
 have HN2:Hid (nn2<=i+1):=Nat.le_trans hn_V6 (Nat.succ_le_succ HHC.out.nfew)
 have HF2:=hid hf_V6
 clear ho_V6 hn_V6 hf_V6 hg_V6 HB_V5 HA_V5 HT_V5 HO_V5
 go_wp2_with fail
 refine wp_region_held_drew (S:=fun X=>Below V6.heap.size V6 X) (by kernel_rfl) (Below.refl _ _).drew (fun hS_V7=>?_)
 have hd_V7:Below V6.heap.size V6 V6.drew:=(Below.refl _ _).drew
 generalize V6.drew=V7 at *
 simp only[List.size_toArray,List.length_cons,List.length_nil,Nat.reduceAdd]
 have HC2:=hid (fun X (hX:Below V6.heap.size V6 X)=>(Joins.cell_of_block (blk_later HA_V6.out hX) 2).trans (show _=some (Value.slice (some ⟨b,off,none⟩) mn mc) from rfl))
 have HL1:=hid (fun X (hX:Below V6.heap.size V6 X)=>mk_hd (HYR.out X (Bn HB_V6.out hX)))
 have HL2:=hid (fun X (hX:Below V6.heap.size V6 X)=>mk_hd (blk_range (blk_later HT_V6.out hX)))
 refine Ord.take (i:=0) (d:=55) (v:=?vQ0) rfl rfl (by as_aux_lemma=>kernel_rfl) (by as_aux_lemma=>kernel_rfl) (by as_aux_lemma=>kernel_rfl) (fun _ _ _ h=>h) (by rfl) ?hQ0 (by assumption) ?_
 case hQ0=>intro wx hSw;go_simp;try with_reducible rfl
 try simp only[List.setIfInBounds_toArray,List.set_cons_zero,List.set_cons_succ]
 refine Ord.take (i:=1) (d:=56) (v:=?vQ1) rfl rfl (by as_aux_lemma=>kernel_rfl) (by as_aux_lemma=>kernel_rfl) (by as_aux_lemma=>kernel_rfl) (fun _ _ _ h=>h) (by rfl) ?hQ1 (by assumption) ?_
 case hQ1=>intro wx hSw;go_simp;try with_reducible rfl
 try simp only[List.setIfInBounds_toArray,List.set_cons_zero,List.set_cons_succ]
 refine Ord.take (i:=2) (d:=57) (v:=?vQ2) rfl rfl (by as_aux_lemma=>kernel_rfl) (by as_aux_lemma=>kernel_rfl) (by as_aux_lemma=>kernel_rfl) (fun _ _ _ h=>h) (by rfl) ?hQ2 (by assumption) ?_
 case hQ2=>intro wx hSw;go_simp;try with_reducible rfl
 try simp only[List.setIfInBounds_toArray,List.set_cons_zero,List.set_cons_succ]
 refine Ord.take (i:=3) (d:=58) (v:= .slice (some ⟨b,off,none⟩) mn mc) rfl rfl (by as_aux_lemma=>kernel_rfl) (by as_aux_lemma=>kernel_rfl) (by as_aux_lemma=>kernel_rfl) (fun _ _ _ h=>h) (by rfl) ?hQ3 (by assumption) ?_
 case hQ3=>intro wx hSw;have hc:=HC2.out _ hSw;go_simp;try with_reducible rfl
 try simp only[List.setIfInBounds_toArray,List.set_cons_zero,List.set_cons_succ]
 refine Ord.take (i:=4) (d:=59) (v:=?vQ4) rfl rfl (by as_aux_lemma=>kernel_rfl) (by as_aux_lemma=>kernel_rfl) (by as_aux_lemma=>kernel_rfl) (fun _ _ _ h=>h) (by rfl) ?hQ4 (by assumption) ?_
 case hQ4=>intro wx hSw;go_simp;try with_reducible rfl
 try simp only[List.setIfInBounds_toArray,List.set_cons_zero,List.set_cons_succ]
 refine Ord.take (i:=5) (d:=60) (v:=?vQ5) rfl rfl (by as_aux_lemma=>kernel_rfl) (by as_aux_lemma=>kernel_rfl) (by as_aux_lemma=>kernel_rfl) (fun _ _ _ h=>h) (by rfl) ?hQ5 (by assumption) ?_
 case hQ5=>intro wx hSw;go_simp;try with_reducible rfl
 try simp only[List.setIfInBounds_toArray,List.set_cons_zero,List.set_cons_succ]
 refine Ord.take (i:=6) (d:=61) (v:=?vQ6) rfl rfl (by as_aux_lemma=>kernel_rfl) (by as_aux_lemma=>kernel_rfl) (by as_aux_lemma=>kernel_rfl) (fun _ _ _ h=>h) (by rfl) ?hQ6 (by assumption) ?_
 case hQ6=>intro wx hSw;go_simp;try with_reducible rfl
 try simp only[List.setIfInBounds_toArray,List.set_cons_zero,List.set_cons_succ]
 refine Ord.take (i:=7) (d:=62) (v:= .agg (hdV y.2.1).toArray) rfl rfl (by as_aux_lemma=>kernel_rfl) (by as_aux_lemma=>kernel_rfl) (by as_aux_lemma=>kernel_rfl) (fun _ _ _ h=>h) (by rfl) ?hQ7 (by assumption) ?_
 case hQ7=>intro wx hSw;exact exec_load 27 (.tmp 61) rfl b (off+k1*67+1) rfl (run_loadVar_mid wx b (off+k1*67+1) 27 (hdV y.2.1) _ (HL1.out _ hSw) Tryd.underlying27 rfl (by rw[HYL.out];exact Tryd.size27))
 try simp only[List.setIfInBounds_toArray,List.set_cons_zero,List.set_cons_succ]
 refine Ord.take (i:=8) (d:=63) (v:=?vQ8) rfl rfl (by as_aux_lemma=>kernel_rfl) (by as_aux_lemma=>kernel_rfl) (by as_aux_lemma=>kernel_rfl) (fun _ _ _ h=>h) (by rfl) ?hQ8 (by assumption) ?_
 case hQ8=>intro wx hSw;go_simp;try with_reducible rfl
 try simp only[List.setIfInBounds_toArray,List.set_cons_zero,List.set_cons_succ]
 refine Ord.take (i:=9) (d:=64) (v:= .agg (hdV m.2.1).toArray) rfl rfl (by as_aux_lemma=>kernel_rfl) (by as_aux_lemma=>kernel_rfl) (by as_aux_lemma=>kernel_rfl) (fun _ _ _ h=>h) (by rfl) ?hQ9 (by assumption) ?_
 case hQ9=>intro wx hSw;exact exec_load 27 (.tmp 63) rfl T 1 rfl (run_loadVar_mid wx T 1 27 (hdV m.2.1) _ (HL2.out _ hSw) Tryd.underlying27 rfl (by rw[HHL.out];exact Tryd.size27))
 try simp only[List.setIfInBounds_toArray,List.set_cons_zero,List.set_cons_succ]
 refine Ord.take (i:=10) (d:=65) (v:= .bool false) rfl rfl (by as_aux_lemma=>kernel_rfl) (by as_aux_lemma=>kernel_rfl) (by as_aux_lemma=>kernel_rfl) (fun _ _ _ h=>h) (by rfl) ?hQ10 (by assumption) ?_
 case hQ10=>intro wx hSw;exact run_neq_op rfl rfl rfl guard55 (HEQ.out _)
 try simp only[List.setIfInBounds_toArray,List.set_cons_zero,List.set_cons_succ]
 refine wpAnyH_done (by as_aux_lemma=>kernel_rfl) ?_ _
 have hb_V7:=hd_V7
 clear hS_V7 hd_V7 HC2 HL1 HL2
 have HB_V7:=hid (Bn HB_V6.out hb_V7)
 have HA_V7:=hid (blk_later HA_V6.out hb_V7)
 have HT_V7:=hid (blk_later HT_V6.out hb_V7)
 have HO_V7:=hid (HO_V6.out.kept (grown_bel (r:=none) hb_V7) (by simp))
 clear hb_V7 HB_V6 HA_V6 HT_V6 HO_V6
 go_wp2_with fail
 refine wp_region_held_drew (S:=fun X=>Below V7.heap.size V7 X) (by kernel_rfl) (Below.refl _ _).drew (fun hS_V8=>?_)
 have hd_V8:Below V7.heap.size V7 V7.drew:=(Below.refl _ _).drew
 generalize V7.drew=V8 at *
 simp only[List.size_toArray,List.length_cons,List.length_nil,Nat.reduceAdd]
 have HC2:=hid (fun X (hX:Below V7.heap.size V7 X)=>(Joins.cell_of_block (blk_later HA_V7.out hX) 0).trans (show _=some (Value.slice ka kn kc) from rfl))
 have HL2:=hid (fun X (hX:Below V7.heap.size V7 X)=>blk_range (blk_later HT_V7.out hX))
 refine Ord.take (i:=0) (d:=72) (v:=?vZ0) rfl rfl (by as_aux_lemma=>kernel_rfl) (by as_aux_lemma=>kernel_rfl) (by as_aux_lemma=>kernel_rfl) (fun _ _ _ h=>h) (by rfl) ?hZ0 (by assumption) ?_
 case hZ0=>intro wx hSw;go_simp;try with_reducible rfl
 try simp only[List.setIfInBounds_toArray,List.set_cons_zero,List.set_cons_succ]
 refine Ord.take (i:=1) (d:=73) (v:=?vZ1) rfl rfl (by as_aux_lemma=>kernel_rfl) (by as_aux_lemma=>kernel_rfl) (by as_aux_lemma=>kernel_rfl) (fun _ _ _ h=>h) (by rfl) ?hZ1 (by assumption) ?_
 case hZ1=>intro wx hSw;go_simp;try with_reducible rfl
 try simp only[List.setIfInBounds_toArray,List.set_cons_zero,List.set_cons_succ]
 refine Ord.take (i:=2) (d:=74) (v:=?vZ2) rfl rfl (by as_aux_lemma=>kernel_rfl) (by as_aux_lemma=>kernel_rfl) (by as_aux_lemma=>kernel_rfl) (fun _ _ _ h=>h) (by rfl) ?hZ2 (by assumption) ?_
 case hZ2=>intro wx hSw;go_simp;try with_reducible rfl
 try simp only[List.setIfInBounds_toArray,List.set_cons_zero,List.set_cons_succ]
 refine Ord.take (i:=3) (d:=75) (v:= .slice ka kn kc) rfl rfl (by as_aux_lemma=>kernel_rfl) (by as_aux_lemma=>kernel_rfl) (by as_aux_lemma=>kernel_rfl) (fun _ _ _ h=>h) (by rfl) ?hZ3 (by assumption) ?_
 case hZ3=>intro wx hSw;have hc:=HC2.out _ hSw;go_simp;try with_reducible rfl
 try simp only[List.setIfInBounds_toArray,List.set_cons_zero,List.set_cons_succ]
 refine Ord.take (i:=4) (d:=76) (v:= .agg (mkV m).toArray) rfl rfl (by as_aux_lemma=>kernel_rfl) (by as_aux_lemma=>kernel_rfl) (by as_aux_lemma=>kernel_rfl) (fun _ _ _ h=>h) (by rfl) ?hZ4 (by assumption) ?_
 case hZ4=>intro wx hSw;exact exec_load 45 (.tmp 4) rfl T 0 rfl (run_loadVar_mid wx T 0 45 (mkV m) _ (HL2.out _ hSw) Tryd.underlying45 rfl (by rw[HLM.out];exact Tryd.size45))
 try simp only[List.setIfInBounds_toArray,List.set_cons_zero,List.set_cons_succ]
 refine wpAnyH_ready (rs:= [5]) (by as_aux_lemma=>kernel_rfl) (by simp) (AllReadyH.cons rfl (fun K hK=>?_) AllReadyH.nil)
 go_simp
 have hsw:=sealed_word ka kc key m V8 (HHC.out.laid.later (Bn HB_V7.out hd_V8)) (HKR.out _ (Bn HB_V7.out hd_V8)) HHC.out.kfew HMK.out
 rw[<-HKN.out] at hsw
 refine hsw.mono ?_
 rintro _ V9 ⟨rfl,hb1⟩
 have hS_V9:Below V7.heap.size V7 V9:=Bn hS_V8 hb1
 have hd_V9:Below V7.heap.size V7 V9:=hS_V9
 rw[HFS.out]
 refine hK.out _ _ hS_V9 (fun _=>?_)
 clear hK K hsw hb1
 try simp only[List.setIfInBounds_toArray,List.set_cons_zero,List.set_cons_succ]
 refine Ord.take (i:=6) (d:=78) (v:= .bool true) rfl rfl (by as_aux_lemma=>kernel_rfl) (by as_aux_lemma=>kernel_rfl) (by as_aux_lemma=>kernel_rfl) (fun _ _ _ h=>h) (by rfl) ?hZ6 (by assumption) ?_
 case hZ6=>intro wx hSw;go_simp;try with_reducible rfl
 try simp only[List.setIfInBounds_toArray,List.set_cons_zero,List.set_cons_succ]
 refine wpAnyH_done (by as_aux_lemma=>kernel_rfl) ?_ _
 have hb_V9:=hd_V9
 clear hS_V8 hd_V8 hS_V9 hd_V9 HC2 HL2
 have HB_V9:=hid (Bn HB_V7.out hb_V9)
 have HA_V9:=hid (blk_later HA_V7.out hb_V9)
 have HT_V9:=hid (blk_later HT_V7.out hb_V9)
 have HO_V9:=hid (HO_V7.out.kept (grown_bel (r:=none) hb_V9) (by simp))
 clear hb_V9 HB_V7 HA_V7 HT_V7 HO_V7
 go_wp2_with (first | refine wpList_store_Z rfl 40 _ _ rfl rfl A 4 [(.slice ka kn kc),(.slice ha hn hc),(.slice (some ⟨b,off,none⟩) mn mc),.map (some mp)] [.int .i64 4,.int .i64 (i:Int),.int .i64 0] [] 74 [.int .i64 2,.int .i64 (i:Int),.int .i64 0] rfl rfl rfl HA_V9.out rfl Tryd.size40 (fun v hv=>by simp at hv;rcases hv with rfl | rfl | rfl<;>rfl) ?_ | fail)
 intro V10 HAs_V10 HG_V10
 have HB_V10:Hid (Below W0.heap.size W0 V10):=HB_V9.out.trans (bel_grown HG_V10.out HHC.out.age HB_V9.out.size)
 have HA_V10:Hid (V10.heap[A]?=some (.cells (auC (.slice ka kn kc) (.slice ha hn hc) (.slice (some ⟨b,off,none⟩) mn mc) mp (2,(i:Int),0)) 74)):=HAs_V10.out
 have HT_V10:Hid (V10.heap[T]?=some (.cells (mkV m).toArray 45)):=(HG_V10.out.block T (blk_lt HT_V9.out) (fun e=>by injection e with e;exact HTA.out e.symm)).trans HT_V9.out
 have HO_V10:=hid (HO_V9.out.kept HG_V10.out (by intro e;injection e with e;exact HNE.out e.symm))
 clear HAs_V10 HG_V10 HB_V9 HA_V9 HT_V9 HO_V9
 go_wp2
 go_end0
 exact⟨rfl,HB_V10.out,HA_V10.out,D2,nn2,HO_V10.out,HN2.out,fun _=>HF2.out⟩
set_option maxHeartbeats 6400000 in
set_option maxRecDepth 100000 in
theorem hold_5tftt(W0 w:World)(A mp nn:Nat)(ka:Option Addr)(kc:Nat)(key:List Nat)(ha:Option Addr)(hc:Nat)(hs:List Hd)(ma:Option Addr)(mc:Nat)(ms:List Mrk)(i:Nat)(D:DataW Value)(fI fK:Int)(h:Hc W0 w A mp nn ka kc key ha hc hs ma mc ms i D (5,fI,fK))(hR:decide ((ms.getD i mkZ).2.1.1<(hs.length:Int))=true)(hH:hasB hs (ms.getD i mkZ).2.1=false)(hF:decide ((ms.getD (fst1 ms i) mkZ).2.1=(ms.getD i mkZ).2.1)=false)(hS:sealedB key (ms.getD i mkZ)=true):
 Calls Tryd.prog 32 #[.pointer (some ⟨A,0,none⟩),.int .i64 (i:Int)] w (HoP W0 A mp (.slice ka key.length kc) (.slice ha hs.length hc) (.slice ma ms.length mc) ms i (3,(fst1 ms i:Int),(i:Int))):=by
 have hmost:=h.mrow.most
 have hroom:=h.mrow.room
 unfold maxLen at hmost
 have hilt:=h.ilt
 have HNE:=hid h.ne
 obtain⟨b,off,rfl,hbw,hcc⟩:=h.mrow.cells (by omega)
 obtain⟨m,hm⟩:∃m,m=ms.getD i mkZ:=⟨_,rfl⟩
 have hmk:MOk m:=by rw[hm];exact mk_get hilt h.mok
 have hcm:=hcc i hilt
 rw[<-hm] at hcm
 have HMR:=hid (fun X (hX:Below W0.heap.size W0 X)=>range_later hcm hX hbw)
 have HMK:=hid hmk
 have HLM:=hid (mkV_len hmk)
 have HLZ:=hid (mkV_len mkZ_ok)
 have HHL:=hid (hdV_len hmk.hd.len)
 have HMM:=hid hm
 obtain⟨mn,hmn⟩:∃n,n=ms.length:=⟨_,rfl⟩
 obtain⟨hn,hhn⟩:∃n,n=hs.length:=⟨_,rfl⟩
 obtain⟨kn,hkn⟩:∃n,n=key.length:=⟨_,rfl⟩
 have HA0:=hid h.blk
 have HKR:=hid (fun X (hX:Below W0.heap.size W0 X)=>h.krd.later hX)
 have HBW:=hid h.bel
 have HO0:=hid h.own
 have HHC:=hid h
 have him:(i:Int)<(mn:Int):=by omega
 have hi5:i<=100000:=by have:=h.mfew;omega
 rw[<-hmn,<-hhn,<-hkn] at HA0
 rw[<-hmn] at hroom
 have HMN:=hid hmn
 have HHN:=hid hhn
 have HKN:=hid hkn
 have HZ:=hid Tryd.zero45
 rw[<-hm] at hR hH hF hS
 have HFR:Hid (decide (m.2.1.1<(hn:Int))=true):=by show _=_;rw[hhn];exact hR
 have HFH:Hid (hasB hs m.2.1=false):=hH
 have HFF:Hid (decide ((ms.getD (fst1 ms i) mkZ).2.1=m.2.1)=false):=hF
 have HFS:Hid (sealedB key m=true):=hS
 clear hR hH hF hS
 have hk0:=fst1_lt hilt
 have hcf:=hcc (fst1 ms i) (by omega)
 have hyl:(ms.getD (fst1 ms i) mkZ).2.1.2.2.length=32:=(mk_get (show fst1 ms i<ms.length by omega) h.mok).hd.len
 have hkm:(fst1 ms i:Int)<(mn:Int):=by omega
 obtain⟨k1,hk1⟩:∃k,k=fst1 ms i:=⟨_,rfl⟩
 rw[<-hk1] at hcf hyl hkm hk0 HFF
 obtain⟨y,hy⟩:∃y,y=ms.getD k1 mkZ:=⟨_,rfl⟩
 rw[<-hy] at hcf hyl HFF
 have HYR:=hid (fun X (hX:Below W0.heap.size W0 X)=>range_later hcf hX hbw)
 have HYL:=hid (hdV_len hyl)
 have HEQ:=hid (fun V=>eq55 y.2.1 m.2.1 hyl HMK.out.hd.len V)
 rw[HFF.out] at HEQ
 have HK1:=hid hk1
 clear hy hyl hcf hk1
 clear h hcc hmk hcm hm hmn hhn hkn hilt
 unfold HoP
 rw[<-HMN.out,<-HHN.out,<-HKN.out]
 obtain⟨T,hT⟩:∃T,T=w.heap.size:=⟨_,rfl⟩
 have HTQ:=hid hT
 have HTA:Hid (A≠T):=by show _≠_;rw[hT];exact Nat.ne_of_lt (blk_lt HA0.out)
 have c2_w:=(Joins.cell_of_block HA0.out 2).trans (show _=some (Value.slice (some ⟨b,off,none⟩) mn mc) from rfl)
 clear hT
 go_enter Tryd.func32,Tryd.ntmps32
 go_wp2_with (first | refine wpList_load_P rfl 45 _ rfl b (off+i*67) rfl (mkV m) _ (HMR.out _ HBW.out) Tryd.underlying45 rfl (by rw[HLM.out];exact Tryd.size45) ?_ | refine wpList_alloc_W rfl 45 rfl (some 4) rfl _ HZ.out T HTQ.out ?_ | fail)
 intro V1 HG1 HBl1 HS1
 go_wp2_with (first | refine wpList_store_W rfl 45 _ _ rfl rfl T (mkV m).toArray rfl rfl 45 _ HG1.out (by rw[List.size_toArray,HLM.out];exact Tryd.size45) (by rw[List.size_toArray,List.size_toArray,HLM.out,HLZ.out]) (all_oneCell_toArray (mkV_one _)) ?_ | fail)
 intro V2 HT_V2 HGR2 HS2
 have hb_V2:Below w.heap.size w V2:=by
  rw[<-HTQ.out]
  exact HBl1.out.trans (bel_grown HGR2.out (Nat.le_refl _) (by rw[HTQ.out];exact HBl1.out.size))
 have HB_V2:=hid (Bn HBW.out hb_V2)
 have HA_V2:=hid (blk_later HA0.out hb_V2)
 have HO_V2:=hid (HO0.out.kept (grown_bel (r:=none) hb_V2) (by simp))
 have c4_V2:=(Joins.cell_of_block HA_V2.out 4).trans (show _=some (Value.int .i64 5) from rfl)
 clear hb_V2 HG1 HBl1 HS1 HGR2 HS2 HBW HA0 HO0 c2_w HTQ HMR
 go_wp2_with (first | refine wpList_load_P rfl 27 _ rfl T 1 rfl (hdV m.2.1) _ (mk_hd (blk_range HT_V2.out)) Tryd.underlying27 rfl (by rw[HHL.out];exact Tryd.size27) ?_ | fail)
 refine(reaches_word A (.slice ka kn kc) (.slice (some ⟨b,off,none⟩) mn mc) ha hn hc mp (5,fI,fK) m.2.1 V2 HA_V2.out HMK.out.hd.len).mono ?_
 rintro _ V3 ⟨rfl,hb_V3⟩
 rw[HFR.out]
 clear c4_V2
 have HB_V3:=hid (Bn HB_V2.out hb_V3)
 have HA_V3:=hid (blk_later HA_V2.out hb_V3)
 have HT_V3:=hid (blk_later HT_V2.out hb_V3)
 have HO_V3:=hid (HO_V2.out.kept (grown_bel (r:=none) hb_V3) (by simp))
 clear hb_V3 HB_V2 HA_V2 HT_V2 HO_V2
 go_wp2_with (first | refine wpList_load_g rfl 27 _ rfl T 1 rfl (hdV m.2.1) _ (mk_hd (blk_range HT_V3.out)) Tryd.underlying27 rfl (by rw[HHL.out];exact Tryd.size27) ?_ | fail)
 refine(has_word A (.slice ka kn kc) (.slice (some ⟨b,off,none⟩) mn mc) ha hn hc mp (5,fI,fK) m.2.1 hs V3 HA_V3.out HMK.out.hd.len (HHC.out.hrow.later HB_V3.out) HHN.out (of_decide_eq_true HFR.out) HHC.out.h32).mono ?_
 rintro _ V4 ⟨rfl,hb_V4⟩
 rw[HFH.out]
 have HB_V4:=hid (Bn HB_V3.out hb_V4)
 have HA_V4:=hid (blk_later HA_V3.out hb_V4)
 have HT_V4:=hid (blk_later HT_V3.out hb_V4)
 have HO_V4:=hid (HO_V3.out.kept (grown_bel (r:=none) hb_V4) (by simp))
 clear hb_V4 HB_V3 HA_V3 HT_V3 HO_V3
 go_wp2_with (first | refine wpList_store_Z rfl 40 _ _ rfl rfl A 4 [(.slice ka kn kc),(.slice ha hn hc),(.slice (some ⟨b,off,none⟩) mn mc),.map (some mp)] [.int .i64 5,.int .i64 fI,.int .i64 fK] [] 74 [.int .i64 4,.int .i64 (i:Int),.int .i64 0] rfl rfl rfl HA_V4.out rfl Tryd.size40 (fun v hv=>by simp at hv;rcases hv with rfl | rfl | rfl<;>rfl) ?_ | fail)
 intro V5 HAs_V5 HG_V5
 have HB_V5:Hid (Below W0.heap.size W0 V5):=HB_V4.out.trans (bel_grown HG_V5.out HHC.out.age HB_V4.out.size)
 have HA_V5:Hid (V5.heap[A]?=some (.cells (auC (.slice ka kn kc) (.slice ha hn hc) (.slice (some ⟨b,off,none⟩) mn mc) mp (4,(i:Int),0)) 74)):=HAs_V5.out
 have HT_V5:Hid (V5.heap[T]?=some (.cells (mkV m).toArray 45)):=(HG_V5.out.block T (blk_lt HT_V4.out) (fun e=>by injection e with e;exact HTA.out e.symm)).trans HT_V4.out
 have HO_V5:=hid (HO_V4.out.kept HG_V5.out (by intro e;injection e with e;exact HNE.out e.symm))
 clear HAs_V5 HG_V5 HB_V4 HA_V4 HT_V4 HO_V4
 go_wp2_with fail
 refine(first_word A (.slice ka kn kc) (.slice ha hn hc) (some ⟨b,off,none⟩) mn mc mp nn (4,(i:Int),0) ms i D V5 HA_V5.out (HHC.out.mrow.later HB_V5.out) HMN.out HHC.out.ilt HHC.out.mfew HHC.out.mok HO_V5.out (Nat.le_trans HHC.out.nfew (Nat.le_trans (Nat.le_of_lt HHC.out.ilt) HHC.out.mfew)) (HHC.out.fs (show(4:Int)<=5 by decide))).mono ?_
 rintro _ V6 ⟨rfl,D2,nn2,ho_V6,hn_V6,hf_V6,hg_V6⟩
 rw[<-HK1.out]
 have HB_V6:Hid (Below W0.heap.size W0 V6):=HB_V5.out.trans (bel_grown hg_V6 HHC.out.mge HB_V5.out.size)
 have HA_V6:=hid ((hg_V6.block A (blk_lt HA_V5.out) (fun e=>by injection e with e;exact HNE.out e)).trans HA_V5.out)
 have HT_V6:Hid (V6.heap[T]?=some (.cells (mkV m).toArray 45)):=(hg_V6.block T (blk_lt HT_V5.out) (fun e=>by injection e with e;obtain⟨es,clock,hq,_⟩:=HO_V5.out;have ht:=HT_V5.out;rw[e,hq] at ht;cases ht)).trans HT_V5.out
 have HO_V6:=hid ho_V6
 have HN2:Hid (nn2<=i+1):=Nat.le_trans hn_V6 (Nat.succ_le_succ HHC.out.nfew)
 have HF2:=hid hf_V6
 clear ho_V6 hn_V6 hf_V6 hg_V6 HB_V5 HA_V5 HT_V5 HO_V5
 go_wp2_with fail
 refine wp_region_held_drew (S:=fun X=>Below V6.heap.size V6 X) (by kernel_rfl) (Below.refl _ _).drew (fun hS_V7=>?_)
 have hd_V7:Below V6.heap.size V6 V6.drew:=(Below.refl _ _).drew
 generalize V6.drew=V7 at *
 simp only[List.size_toArray,List.length_cons,List.length_nil,Nat.reduceAdd]
 have HC2:=hid (fun X (hX:Below V6.heap.size V6 X)=>(Joins.cell_of_block (blk_later HA_V6.out hX) 2).trans (show _=some (Value.slice (some ⟨b,off,none⟩) mn mc) from rfl))
 have HL1:=hid (fun X (hX:Below V6.heap.size V6 X)=>mk_hd (HYR.out X (Bn HB_V6.out hX)))
 have HL2:=hid (fun X (hX:Below V6.heap.size V6 X)=>mk_hd (blk_range (blk_later HT_V6.out hX)))
 refine Ord.take (i:=0) (d:=55) (v:=?vQ0) rfl rfl (by as_aux_lemma=>kernel_rfl) (by as_aux_lemma=>kernel_rfl) (by as_aux_lemma=>kernel_rfl) (fun _ _ _ h=>h) (by rfl) ?hQ0 (by assumption) ?_
 case hQ0=>intro wx hSw;go_simp;try with_reducible rfl
 try simp only[List.setIfInBounds_toArray,List.set_cons_zero,List.set_cons_succ]
 refine Ord.take (i:=1) (d:=56) (v:=?vQ1) rfl rfl (by as_aux_lemma=>kernel_rfl) (by as_aux_lemma=>kernel_rfl) (by as_aux_lemma=>kernel_rfl) (fun _ _ _ h=>h) (by rfl) ?hQ1 (by assumption) ?_
 case hQ1=>intro wx hSw;go_simp;try with_reducible rfl
 try simp only[List.setIfInBounds_toArray,List.set_cons_zero,List.set_cons_succ]
 refine Ord.take (i:=2) (d:=57) (v:=?vQ2) rfl rfl (by as_aux_lemma=>kernel_rfl) (by as_aux_lemma=>kernel_rfl) (by as_aux_lemma=>kernel_rfl) (fun _ _ _ h=>h) (by rfl) ?hQ2 (by assumption) ?_
 case hQ2=>intro wx hSw;go_simp;try with_reducible rfl
 try simp only[List.setIfInBounds_toArray,List.set_cons_zero,List.set_cons_succ]
 refine Ord.take (i:=3) (d:=58) (v:= .slice (some ⟨b,off,none⟩) mn mc) rfl rfl (by as_aux_lemma=>kernel_rfl) (by as_aux_lemma=>kernel_rfl) (by as_aux_lemma=>kernel_rfl) (fun _ _ _ h=>h) (by rfl) ?hQ3 (by assumption) ?_
 case hQ3=>intro wx hSw;have hc:=HC2.out _ hSw;go_simp;try with_reducible rfl
 try simp only[List.setIfInBounds_toArray,List.set_cons_zero,List.set_cons_succ]
 refine Ord.take (i:=4) (d:=59) (v:=?vQ4) rfl rfl (by as_aux_lemma=>kernel_rfl) (by as_aux_lemma=>kernel_rfl) (by as_aux_lemma=>kernel_rfl) (fun _ _ _ h=>h) (by rfl) ?hQ4 (by assumption) ?_
 case hQ4=>intro wx hSw;go_simp;try with_reducible rfl
 try simp only[List.setIfInBounds_toArray,List.set_cons_zero,List.set_cons_succ]
 refine Ord.take (i:=5) (d:=60) (v:=?vQ5) rfl rfl (by as_aux_lemma=>kernel_rfl) (by as_aux_lemma=>kernel_rfl) (by as_aux_lemma=>kernel_rfl) (fun _ _ _ h=>h) (by rfl) ?hQ5 (by assumption) ?_
 case hQ5=>intro wx hSw;go_simp;try with_reducible rfl
 try simp only[List.setIfInBounds_toArray,List.set_cons_zero,List.set_cons_succ]
 refine Ord.take (i:=6) (d:=61) (v:=?vQ6) rfl rfl (by as_aux_lemma=>kernel_rfl) (by as_aux_lemma=>kernel_rfl) (by as_aux_lemma=>kernel_rfl) (fun _ _ _ h=>h) (by rfl) ?hQ6 (by assumption) ?_
 case hQ6=>intro wx hSw;go_simp;try with_reducible rfl
 try simp only[List.setIfInBounds_toArray,List.set_cons_zero,List.set_cons_succ]
 refine Ord.take (i:=7) (d:=62) (v:= .agg (hdV y.2.1).toArray) rfl rfl (by as_aux_lemma=>kernel_rfl) (by as_aux_lemma=>kernel_rfl) (by as_aux_lemma=>kernel_rfl) (fun _ _ _ h=>h) (by rfl) ?hQ7 (by assumption) ?_
 case hQ7=>intro wx hSw;exact exec_load 27 (.tmp 61) rfl b (off+k1*67+1) rfl (run_loadVar_mid wx b (off+k1*67+1) 27 (hdV y.2.1) _ (HL1.out _ hSw) Tryd.underlying27 rfl (by rw[HYL.out];exact Tryd.size27))
 try simp only[List.setIfInBounds_toArray,List.set_cons_zero,List.set_cons_succ]
 refine Ord.take (i:=8) (d:=63) (v:=?vQ8) rfl rfl (by as_aux_lemma=>kernel_rfl) (by as_aux_lemma=>kernel_rfl) (by as_aux_lemma=>kernel_rfl) (fun _ _ _ h=>h) (by rfl) ?hQ8 (by assumption) ?_
 case hQ8=>intro wx hSw;go_simp;try with_reducible rfl
 try simp only[List.setIfInBounds_toArray,List.set_cons_zero,List.set_cons_succ]
 refine Ord.take (i:=9) (d:=64) (v:= .agg (hdV m.2.1).toArray) rfl rfl (by as_aux_lemma=>kernel_rfl) (by as_aux_lemma=>kernel_rfl) (by as_aux_lemma=>kernel_rfl) (fun _ _ _ h=>h) (by rfl) ?hQ9 (by assumption) ?_
 case hQ9=>intro wx hSw;exact exec_load 27 (.tmp 63) rfl T 1 rfl (run_loadVar_mid wx T 1 27 (hdV m.2.1) _ (HL2.out _ hSw) Tryd.underlying27 rfl (by rw[HHL.out];exact Tryd.size27))
 try simp only[List.setIfInBounds_toArray,List.set_cons_zero,List.set_cons_succ]
 refine Ord.take (i:=10) (d:=65) (v:= .bool true) rfl rfl (by as_aux_lemma=>kernel_rfl) (by as_aux_lemma=>kernel_rfl) (by as_aux_lemma=>kernel_rfl) (fun _ _ _ h=>h) (by rfl) ?hQ10 (by assumption) ?_
 case hQ10=>intro wx hSw;exact run_neq_op rfl rfl rfl guard55 (HEQ.out _)
 try simp only[List.setIfInBounds_toArray,List.set_cons_zero,List.set_cons_succ]
 refine wpAnyH_done (by as_aux_lemma=>kernel_rfl) ?_ _
 have hb_V7:=hd_V7
 clear hS_V7 hd_V7 HC2 HL1 HL2
 have HB_V7:=hid (Bn HB_V6.out hb_V7)
 have HA_V7:=hid (blk_later HA_V6.out hb_V7)
 have HT_V7:=hid (blk_later HT_V6.out hb_V7)
 have HO_V7:=hid (HO_V6.out.kept (grown_bel (r:=none) hb_V7) (by simp))
 clear hb_V7 HB_V6 HA_V6 HT_V6 HO_V6
 go_wp2_with (first | refine wpList_store_Z rfl 40 _ _ rfl rfl A 4 [(.slice ka kn kc),(.slice ha hn hc),(.slice (some ⟨b,off,none⟩) mn mc),.map (some mp)] [.int .i64 4,.int .i64 (i:Int),.int .i64 0] [] 74 [.int .i64 3,.int .i64 (k1:Int),.int .i64 (i:Int)] rfl rfl rfl HA_V7.out rfl Tryd.size40 (fun v hv=>by simp at hv;rcases hv with rfl | rfl | rfl<;>rfl) ?_ | fail)
 intro V8 HAs_V8 HG_V8
 have HB_V8:Hid (Below W0.heap.size W0 V8):=HB_V7.out.trans (bel_grown HG_V8.out HHC.out.age HB_V7.out.size)
 have HA_V8:Hid (V8.heap[A]?=some (.cells (auC (.slice ka kn kc) (.slice ha hn hc) (.slice (some ⟨b,off,none⟩) mn mc) mp (3,(k1:Int),(i:Int))) 74)):=HAs_V8.out
 have HT_V8:Hid (V8.heap[T]?=some (.cells (mkV m).toArray 45)):=(HG_V8.out.block T (blk_lt HT_V7.out) (fun e=>by injection e with e;exact HTA.out e.symm)).trans HT_V7.out
 have HO_V8:=hid (HO_V7.out.kept HG_V8.out (by intro e;injection e with e;exact HNE.out e.symm))
 clear HAs_V8 HG_V8 HB_V7 HA_V7 HT_V7 HO_V7
 go_wp2_with fail
 refine wp_region_held_drew (S:=fun X=>Below V8.heap.size V8 X) (by kernel_rfl) (Below.refl _ _).drew (fun hS_V9=>?_)
 have hd_V9:Below V8.heap.size V8 V8.drew:=(Below.refl _ _).drew
 generalize V8.drew=V9 at *
 simp only[List.size_toArray,List.length_cons,List.length_nil,Nat.reduceAdd]
 have HC2:=hid (fun X (hX:Below V8.heap.size V8 X)=>(Joins.cell_of_block (blk_later HA_V8.out hX) 0).trans (show _=some (Value.slice ka kn kc) from rfl))
 have HL2:=hid (fun X (hX:Below V8.heap.size V8 X)=>blk_range (blk_later HT_V8.out hX))
 refine Ord.take (i:=0) (d:=72) (v:=?vZ0) rfl rfl (by as_aux_lemma=>kernel_rfl) (by as_aux_lemma=>kernel_rfl) (by as_aux_lemma=>kernel_rfl) (fun _ _ _ h=>h) (by rfl) ?hZ0 (by assumption) ?_
 case hZ0=>intro wx hSw;go_simp;try with_reducible rfl
 try simp only[List.setIfInBounds_toArray,List.set_cons_zero,List.set_cons_succ]
 refine Ord.take (i:=1) (d:=73) (v:=?vZ1) rfl rfl (by as_aux_lemma=>kernel_rfl) (by as_aux_lemma=>kernel_rfl) (by as_aux_lemma=>kernel_rfl) (fun _ _ _ h=>h) (by rfl) ?hZ1 (by assumption) ?_
 case hZ1=>intro wx hSw;go_simp;try with_reducible rfl
 try simp only[List.setIfInBounds_toArray,List.set_cons_zero,List.set_cons_succ]
 refine Ord.take (i:=2) (d:=74) (v:=?vZ2) rfl rfl (by as_aux_lemma=>kernel_rfl) (by as_aux_lemma=>kernel_rfl) (by as_aux_lemma=>kernel_rfl) (fun _ _ _ h=>h) (by rfl) ?hZ2 (by assumption) ?_
 case hZ2=>intro wx hSw;go_simp;try with_reducible rfl
 try simp only[List.setIfInBounds_toArray,List.set_cons_zero,List.set_cons_succ]
 refine Ord.take (i:=3) (d:=75) (v:= .slice ka kn kc) rfl rfl (by as_aux_lemma=>kernel_rfl) (by as_aux_lemma=>kernel_rfl) (by as_aux_lemma=>kernel_rfl) (fun _ _ _ h=>h) (by rfl) ?hZ3 (by assumption) ?_
 case hZ3=>intro wx hSw;have hc:=HC2.out _ hSw;go_simp;try with_reducible rfl
 try simp only[List.setIfInBounds_toArray,List.set_cons_zero,List.set_cons_succ]
 refine Ord.take (i:=4) (d:=76) (v:= .agg (mkV m).toArray) rfl rfl (by as_aux_lemma=>kernel_rfl) (by as_aux_lemma=>kernel_rfl) (by as_aux_lemma=>kernel_rfl) (fun _ _ _ h=>h) (by rfl) ?hZ4 (by assumption) ?_
 case hZ4=>intro wx hSw;exact exec_load 45 (.tmp 4) rfl T 0 rfl (run_loadVar_mid wx T 0 45 (mkV m) _ (HL2.out _ hSw) Tryd.underlying45 rfl (by rw[HLM.out];exact Tryd.size45))
 try simp only[List.setIfInBounds_toArray,List.set_cons_zero,List.set_cons_succ]
 refine wpAnyH_ready (rs:= [5]) (by as_aux_lemma=>kernel_rfl) (by simp) (AllReadyH.cons rfl (fun K hK=>?_) AllReadyH.nil)
 go_simp
 have hsw:=sealed_word ka kc key m V9 (HHC.out.laid.later (Bn HB_V8.out hd_V9)) (HKR.out _ (Bn HB_V8.out hd_V9)) HHC.out.kfew HMK.out
 rw[<-HKN.out] at hsw
 refine hsw.mono ?_
 rintro _ V10 ⟨rfl,hb1⟩
 have hS_V10:Below V8.heap.size V8 V10:=Bn hS_V9 hb1
 have hd_V10:Below V8.heap.size V8 V10:=hS_V10
 rw[HFS.out]
 refine hK.out _ _ hS_V10 (fun _=>?_)
 clear hK K hsw hb1
 try simp only[List.setIfInBounds_toArray,List.set_cons_zero,List.set_cons_succ]
 refine Ord.take (i:=6) (d:=78) (v:= .bool false) rfl rfl (by as_aux_lemma=>kernel_rfl) (by as_aux_lemma=>kernel_rfl) (by as_aux_lemma=>kernel_rfl) (fun _ _ _ h=>h) (by rfl) ?hZ6 (by assumption) ?_
 case hZ6=>intro wx hSw;go_simp;try with_reducible rfl
 try simp only[List.setIfInBounds_toArray,List.set_cons_zero,List.set_cons_succ]
 refine wpAnyH_done (by as_aux_lemma=>kernel_rfl) ?_ _
 have hb_V10:=hd_V10
 clear hS_V9 hd_V9 hS_V10 hd_V10 HC2 HL2
 have HB_V10:=hid (Bn HB_V8.out hb_V10)
 have HA_V10:=hid (blk_later HA_V8.out hb_V10)
 have HT_V10:=hid (blk_later HT_V8.out hb_V10)
 have HO_V10:=hid (HO_V8.out.kept (grown_bel (r:=none) hb_V10) (by simp))
 clear hb_V10 HB_V8 HA_V8 HT_V8 HO_V8
 go_wp2
 go_end0
 exact⟨rfl,HB_V10.out,by rw[<-HK1.out];exact HA_V10.out,D2,nn2,HO_V10.out,HN2.out,fun _=>HF2.out⟩
set_option maxHeartbeats 6400000 in
set_option maxRecDepth 100000 in
theorem hold_5tftf(W0 w:World)(A mp nn:Nat)(ka:Option Addr)(kc:Nat)(key:List Nat)(ha:Option Addr)(hc:Nat)(hs:List Hd)(ma:Option Addr)(mc:Nat)(ms:List Mrk)(i:Nat)(D:DataW Value)(fI fK:Int)(h:Hc W0 w A mp nn ka kc key ha hc hs ma mc ms i D (5,fI,fK))(hR:decide ((ms.getD i mkZ).2.1.1<(hs.length:Int))=true)(hH:hasB hs (ms.getD i mkZ).2.1=false)(hF:decide ((ms.getD (fst1 ms i) mkZ).2.1=(ms.getD i mkZ).2.1)=false)(hS:sealedB key (ms.getD i mkZ)=false):
 Calls Tryd.prog 32 #[.pointer (some ⟨A,0,none⟩),.int .i64 (i:Int)] w (HoP W0 A mp (.slice ka key.length kc) (.slice ha hs.length hc) (.slice ma ms.length mc) ms i (2,(i:Int),0)):=by
 have hmost:=h.mrow.most
 have hroom:=h.mrow.room
 unfold maxLen at hmost
 have hilt:=h.ilt
 have HNE:=hid h.ne
 obtain⟨b,off,rfl,hbw,hcc⟩:=h.mrow.cells (by omega)
 obtain⟨m,hm⟩:∃m,m=ms.getD i mkZ:=⟨_,rfl⟩
 have hmk:MOk m:=by rw[hm];exact mk_get hilt h.mok
 have hcm:=hcc i hilt
 rw[<-hm] at hcm
 have HMR:=hid (fun X (hX:Below W0.heap.size W0 X)=>range_later hcm hX hbw)
 have HMK:=hid hmk
 have HLM:=hid (mkV_len hmk)
 have HLZ:=hid (mkV_len mkZ_ok)
 have HHL:=hid (hdV_len hmk.hd.len)
 have HMM:=hid hm
 obtain⟨mn,hmn⟩:∃n,n=ms.length:=⟨_,rfl⟩
 obtain⟨hn,hhn⟩:∃n,n=hs.length:=⟨_,rfl⟩
 obtain⟨kn,hkn⟩:∃n,n=key.length:=⟨_,rfl⟩
 have HA0:=hid h.blk
 have HKR:=hid (fun X (hX:Below W0.heap.size W0 X)=>h.krd.later hX)
 have HBW:=hid h.bel
 have HO0:=hid h.own
 have HHC:=hid h
 have him:(i:Int)<(mn:Int):=by omega
 have hi5:i<=100000:=by have:=h.mfew;omega
 rw[<-hmn,<-hhn,<-hkn] at HA0
 rw[<-hmn] at hroom
 have HMN:=hid hmn
 have HHN:=hid hhn
 have HKN:=hid hkn
 have HZ:=hid Tryd.zero45
 rw[<-hm] at hR hH hF hS
 have HFR:Hid (decide (m.2.1.1<(hn:Int))=true):=by show _=_;rw[hhn];exact hR
 have HFH:Hid (hasB hs m.2.1=false):=hH
 have HFF:Hid (decide ((ms.getD (fst1 ms i) mkZ).2.1=m.2.1)=false):=hF
 have HFS:Hid (sealedB key m=false):=hS
 clear hR hH hF hS
 have hk0:=fst1_lt hilt
 have hcf:=hcc (fst1 ms i) (by omega)
 have hyl:(ms.getD (fst1 ms i) mkZ).2.1.2.2.length=32:=(mk_get (show fst1 ms i<ms.length by omega) h.mok).hd.len
 have hkm:(fst1 ms i:Int)<(mn:Int):=by omega
 obtain⟨k1,hk1⟩:∃k,k=fst1 ms i:=⟨_,rfl⟩
 rw[<-hk1] at hcf hyl hkm hk0 HFF
 obtain⟨y,hy⟩:∃y,y=ms.getD k1 mkZ:=⟨_,rfl⟩
 rw[<-hy] at hcf hyl HFF
 have HYR:=hid (fun X (hX:Below W0.heap.size W0 X)=>range_later hcf hX hbw)
 have HYL:=hid (hdV_len hyl)
 have HEQ:=hid (fun V=>eq55 y.2.1 m.2.1 hyl HMK.out.hd.len V)
 rw[HFF.out] at HEQ
 have HK1:=hid hk1
 clear hy hyl hcf hk1
 clear h hcc hmk hcm hm hmn hhn hkn hilt
 unfold HoP
 rw[<-HMN.out,<-HHN.out,<-HKN.out]
 obtain⟨T,hT⟩:∃T,T=w.heap.size:=⟨_,rfl⟩
 have HTQ:=hid hT
 have HTA:Hid (A≠T):=by show _≠_;rw[hT];exact Nat.ne_of_lt (blk_lt HA0.out)
 have c2_w:=(Joins.cell_of_block HA0.out 2).trans (show _=some (Value.slice (some ⟨b,off,none⟩) mn mc) from rfl)
 clear hT
 go_enter Tryd.func32,Tryd.ntmps32
 go_wp2_with (first | refine wpList_load_P rfl 45 _ rfl b (off+i*67) rfl (mkV m) _ (HMR.out _ HBW.out) Tryd.underlying45 rfl (by rw[HLM.out];exact Tryd.size45) ?_ | refine wpList_alloc_W rfl 45 rfl (some 4) rfl _ HZ.out T HTQ.out ?_ | fail)
 intro V1 HG1 HBl1 HS1
 go_wp2_with (first | refine wpList_store_W rfl 45 _ _ rfl rfl T (mkV m).toArray rfl rfl 45 _ HG1.out (by rw[List.size_toArray,HLM.out];exact Tryd.size45) (by rw[List.size_toArray,List.size_toArray,HLM.out,HLZ.out]) (all_oneCell_toArray (mkV_one _)) ?_ | fail)
 intro V2 HT_V2 HGR2 HS2
 have hb_V2:Below w.heap.size w V2:=by
  rw[<-HTQ.out]
  exact HBl1.out.trans (bel_grown HGR2.out (Nat.le_refl _) (by rw[HTQ.out];exact HBl1.out.size))
 have HB_V2:=hid (Bn HBW.out hb_V2)
 have HA_V2:=hid (blk_later HA0.out hb_V2)
 have HO_V2:=hid (HO0.out.kept (grown_bel (r:=none) hb_V2) (by simp))
 have c4_V2:=(Joins.cell_of_block HA_V2.out 4).trans (show _=some (Value.int .i64 5) from rfl)
 clear hb_V2 HG1 HBl1 HS1 HGR2 HS2 HBW HA0 HO0 c2_w HTQ HMR
 go_wp2_with (first | refine wpList_load_P rfl 27 _ rfl T 1 rfl (hdV m.2.1) _ (mk_hd (blk_range HT_V2.out)) Tryd.underlying27 rfl (by rw[HHL.out];exact Tryd.size27) ?_ | fail)
 refine(reaches_word A (.slice ka kn kc) (.slice (some ⟨b,off,none⟩) mn mc) ha hn hc mp (5,fI,fK) m.2.1 V2 HA_V2.out HMK.out.hd.len).mono ?_
 rintro _ V3 ⟨rfl,hb_V3⟩
 rw[HFR.out]
 clear c4_V2
 have HB_V3:=hid (Bn HB_V2.out hb_V3)
 have HA_V3:=hid (blk_later HA_V2.out hb_V3)
 have HT_V3:=hid (blk_later HT_V2.out hb_V3)
 have HO_V3:=hid (HO_V2.out.kept (grown_bel (r:=none) hb_V3) (by simp))
 clear hb_V3 HB_V2 HA_V2 HT_V2 HO_V2
 go_wp2_with (first | refine wpList_load_g rfl 27 _ rfl T 1 rfl (hdV m.2.1) _ (mk_hd (blk_range HT_V3.out)) Tryd.underlying27 rfl (by rw[HHL.out];exact Tryd.size27) ?_ | fail)
 refine(has_word A (.slice ka kn kc) (.slice (some ⟨b,off,none⟩) mn mc) ha hn hc mp (5,fI,fK) m.2.1 hs V3 HA_V3.out HMK.out.hd.len (HHC.out.hrow.later HB_V3.out) HHN.out (of_decide_eq_true HFR.out) HHC.out.h32).mono ?_
 rintro _ V4 ⟨rfl,hb_V4⟩
 rw[HFH.out]
 have HB_V4:=hid (Bn HB_V3.out hb_V4)
 have HA_V4:=hid (blk_later HA_V3.out hb_V4)
 have HT_V4:=hid (blk_later HT_V3.out hb_V4)
 have HO_V4:=hid (HO_V3.out.kept (grown_bel (r:=none) hb_V4) (by simp))
 clear hb_V4 HB_V3 HA_V3 HT_V3 HO_V3
 go_wp2_with (first | refine wpList_store_Z rfl 40 _ _ rfl rfl A 4 [(.slice ka kn kc),(.slice ha hn hc),(.slice (some ⟨b,off,none⟩) mn mc),.map (some mp)] [.int .i64 5,.int .i64 fI,.int .i64 fK] [] 74 [.int .i64 4,.int .i64 (i:Int),.int .i64 0] rfl rfl rfl HA_V4.out rfl Tryd.size40 (fun v hv=>by simp at hv;rcases hv with rfl | rfl | rfl<;>rfl) ?_ | fail)
 intro V5 HAs_V5 HG_V5
 have HB_V5:Hid (Below W0.heap.size W0 V5):=HB_V4.out.trans (bel_grown HG_V5.out HHC.out.age HB_V4.out.size)
 have HA_V5:Hid (V5.heap[A]?=some (.cells (auC (.slice ka kn kc) (.slice ha hn hc) (.slice (some ⟨b,off,none⟩) mn mc) mp (4,(i:Int),0)) 74)):=HAs_V5.out
 have HT_V5:Hid (V5.heap[T]?=some (.cells (mkV m).toArray 45)):=(HG_V5.out.block T (blk_lt HT_V4.out) (fun e=>by injection e with e;exact HTA.out e.symm)).trans HT_V4.out
 have HO_V5:=hid (HO_V4.out.kept HG_V5.out (by intro e;injection e with e;exact HNE.out e.symm))
 clear HAs_V5 HG_V5 HB_V4 HA_V4 HT_V4 HO_V4
 go_wp2_with fail
 refine(first_word A (.slice ka kn kc) (.slice ha hn hc) (some ⟨b,off,none⟩) mn mc mp nn (4,(i:Int),0) ms i D V5 HA_V5.out (HHC.out.mrow.later HB_V5.out) HMN.out HHC.out.ilt HHC.out.mfew HHC.out.mok HO_V5.out (Nat.le_trans HHC.out.nfew (Nat.le_trans (Nat.le_of_lt HHC.out.ilt) HHC.out.mfew)) (HHC.out.fs (show(4:Int)<=5 by decide))).mono ?_
 rintro _ V6 ⟨rfl,D2,nn2,ho_V6,hn_V6,hf_V6,hg_V6⟩
 rw[<-HK1.out]
 have HB_V6:Hid (Below W0.heap.size W0 V6):=HB_V5.out.trans (bel_grown hg_V6 HHC.out.mge HB_V5.out.size)
 have HA_V6:=hid ((hg_V6.block A (blk_lt HA_V5.out) (fun e=>by injection e with e;exact HNE.out e)).trans HA_V5.out)
 have HT_V6:Hid (V6.heap[T]?=some (.cells (mkV m).toArray 45)):=(hg_V6.block T (blk_lt HT_V5.out) (fun e=>by injection e with e;obtain⟨es,clock,hq,_⟩:=HO_V5.out;have ht:=HT_V5.out;rw[e,hq] at ht;cases ht)).trans HT_V5.out
 have HO_V6:=hid ho_V6
 have HN2:Hid (nn2<=i+1):=Nat.le_trans hn_V6 (Nat.succ_le_succ HHC.out.nfew)
 have HF2:=hid hf_V6
 clear ho_V6 hn_V6 hf_V6 hg_V6 HB_V5 HA_V5 HT_V5 HO_V5
 go_wp2_with fail
 refine wp_region_held_drew (S:=fun X=>Below V6.heap.size V6 X) (by kernel_rfl) (Below.refl _ _).drew (fun hS_V7=>?_)
 have hd_V7:Below V6.heap.size V6 V6.drew:=(Below.refl _ _).drew
 generalize V6.drew=V7 at *
 simp only[List.size_toArray,List.length_cons,List.length_nil,Nat.reduceAdd]
 have HC2:=hid (fun X (hX:Below V6.heap.size V6 X)=>(Joins.cell_of_block (blk_later HA_V6.out hX) 2).trans (show _=some (Value.slice (some ⟨b,off,none⟩) mn mc) from rfl))
 have HL1:=hid (fun X (hX:Below V6.heap.size V6 X)=>mk_hd (HYR.out X (Bn HB_V6.out hX)))
 have HL2:=hid (fun X (hX:Below V6.heap.size V6 X)=>mk_hd (blk_range (blk_later HT_V6.out hX)))
 refine Ord.take (i:=0) (d:=55) (v:=?vQ0) rfl rfl (by as_aux_lemma=>kernel_rfl) (by as_aux_lemma=>kernel_rfl) (by as_aux_lemma=>kernel_rfl) (fun _ _ _ h=>h) (by rfl) ?hQ0 (by assumption) ?_
 case hQ0=>intro wx hSw;go_simp;try with_reducible rfl
 try simp only[List.setIfInBounds_toArray,List.set_cons_zero,List.set_cons_succ]
 refine Ord.take (i:=1) (d:=56) (v:=?vQ1) rfl rfl (by as_aux_lemma=>kernel_rfl) (by as_aux_lemma=>kernel_rfl) (by as_aux_lemma=>kernel_rfl) (fun _ _ _ h=>h) (by rfl) ?hQ1 (by assumption) ?_
 case hQ1=>intro wx hSw;go_simp;try with_reducible rfl
 try simp only[List.setIfInBounds_toArray,List.set_cons_zero,List.set_cons_succ]
 refine Ord.take (i:=2) (d:=57) (v:=?vQ2) rfl rfl (by as_aux_lemma=>kernel_rfl) (by as_aux_lemma=>kernel_rfl) (by as_aux_lemma=>kernel_rfl) (fun _ _ _ h=>h) (by rfl) ?hQ2 (by assumption) ?_
 case hQ2=>intro wx hSw;go_simp;try with_reducible rfl
 try simp only[List.setIfInBounds_toArray,List.set_cons_zero,List.set_cons_succ]
 refine Ord.take (i:=3) (d:=58) (v:= .slice (some ⟨b,off,none⟩) mn mc) rfl rfl (by as_aux_lemma=>kernel_rfl) (by as_aux_lemma=>kernel_rfl) (by as_aux_lemma=>kernel_rfl) (fun _ _ _ h=>h) (by rfl) ?hQ3 (by assumption) ?_
 case hQ3=>intro wx hSw;have hc:=HC2.out _ hSw;go_simp;try with_reducible rfl
 try simp only[List.setIfInBounds_toArray,List.set_cons_zero,List.set_cons_succ]
 refine Ord.take (i:=4) (d:=59) (v:=?vQ4) rfl rfl (by as_aux_lemma=>kernel_rfl) (by as_aux_lemma=>kernel_rfl) (by as_aux_lemma=>kernel_rfl) (fun _ _ _ h=>h) (by rfl) ?hQ4 (by assumption) ?_
 case hQ4=>intro wx hSw;go_simp;try with_reducible rfl
 try simp only[List.setIfInBounds_toArray,List.set_cons_zero,List.set_cons_succ]
 refine Ord.take (i:=5) (d:=60) (v:=?vQ5) rfl rfl (by as_aux_lemma=>kernel_rfl) (by as_aux_lemma=>kernel_rfl) (by as_aux_lemma=>kernel_rfl) (fun _ _ _ h=>h) (by rfl) ?hQ5 (by assumption) ?_
 case hQ5=>intro wx hSw;go_simp;try with_reducible rfl
 try simp only[List.setIfInBounds_toArray,List.set_cons_zero,List.set_cons_succ]
 refine Ord.take (i:=6) (d:=61) (v:=?vQ6) rfl rfl (by as_aux_lemma=>kernel_rfl) (by as_aux_lemma=>kernel_rfl) (by as_aux_lemma=>kernel_rfl) (fun _ _ _ h=>h) (by rfl) ?hQ6 (by assumption) ?_
 case hQ6=>intro wx hSw;go_simp;try with_reducible rfl
 try simp only[List.setIfInBounds_toArray,List.set_cons_zero,List.set_cons_succ]
 refine Ord.take (i:=7) (d:=62) (v:= .agg (hdV y.2.1).toArray) rfl rfl (by as_aux_lemma=>kernel_rfl) (by as_aux_lemma=>kernel_rfl) (by as_aux_lemma=>kernel_rfl) (fun _ _ _ h=>h) (by rfl) ?hQ7 (by assumption) ?_
 case hQ7=>intro wx hSw;exact exec_load 27 (.tmp 61) rfl b (off+k1*67+1) rfl (run_loadVar_mid wx b (off+k1*67+1) 27 (hdV y.2.1) _ (HL1.out _ hSw) Tryd.underlying27 rfl (by rw[HYL.out];exact Tryd.size27))
 try simp only[List.setIfInBounds_toArray,List.set_cons_zero,List.set_cons_succ]
 refine Ord.take (i:=8) (d:=63) (v:=?vQ8) rfl rfl (by as_aux_lemma=>kernel_rfl) (by as_aux_lemma=>kernel_rfl) (by as_aux_lemma=>kernel_rfl) (fun _ _ _ h=>h) (by rfl) ?hQ8 (by assumption) ?_
 case hQ8=>intro wx hSw;go_simp;try with_reducible rfl
 try simp only[List.setIfInBounds_toArray,List.set_cons_zero,List.set_cons_succ]
 refine Ord.take (i:=9) (d:=64) (v:= .agg (hdV m.2.1).toArray) rfl rfl (by as_aux_lemma=>kernel_rfl) (by as_aux_lemma=>kernel_rfl) (by as_aux_lemma=>kernel_rfl) (fun _ _ _ h=>h) (by rfl) ?hQ9 (by assumption) ?_
 case hQ9=>intro wx hSw;exact exec_load 27 (.tmp 63) rfl T 1 rfl (run_loadVar_mid wx T 1 27 (hdV m.2.1) _ (HL2.out _ hSw) Tryd.underlying27 rfl (by rw[HHL.out];exact Tryd.size27))
 try simp only[List.setIfInBounds_toArray,List.set_cons_zero,List.set_cons_succ]
 refine Ord.take (i:=10) (d:=65) (v:= .bool true) rfl rfl (by as_aux_lemma=>kernel_rfl) (by as_aux_lemma=>kernel_rfl) (by as_aux_lemma=>kernel_rfl) (fun _ _ _ h=>h) (by rfl) ?hQ10 (by assumption) ?_
 case hQ10=>intro wx hSw;exact run_neq_op rfl rfl rfl guard55 (HEQ.out _)
 try simp only[List.setIfInBounds_toArray,List.set_cons_zero,List.set_cons_succ]
 refine wpAnyH_done (by as_aux_lemma=>kernel_rfl) ?_ _
 have hb_V7:=hd_V7
 clear hS_V7 hd_V7 HC2 HL1 HL2
 have HB_V7:=hid (Bn HB_V6.out hb_V7)
 have HA_V7:=hid (blk_later HA_V6.out hb_V7)
 have HT_V7:=hid (blk_later HT_V6.out hb_V7)
 have HO_V7:=hid (HO_V6.out.kept (grown_bel (r:=none) hb_V7) (by simp))
 clear hb_V7 HB_V6 HA_V6 HT_V6 HO_V6
 go_wp2_with (first | refine wpList_store_Z rfl 40 _ _ rfl rfl A 4 [(.slice ka kn kc),(.slice ha hn hc),(.slice (some ⟨b,off,none⟩) mn mc),.map (some mp)] [.int .i64 4,.int .i64 (i:Int),.int .i64 0] [] 74 [.int .i64 3,.int .i64 (k1:Int),.int .i64 (i:Int)] rfl rfl rfl HA_V7.out rfl Tryd.size40 (fun v hv=>by simp at hv;rcases hv with rfl | rfl | rfl<;>rfl) ?_ | fail)
 intro V8 HAs_V8 HG_V8
 have HB_V8:Hid (Below W0.heap.size W0 V8):=HB_V7.out.trans (bel_grown HG_V8.out HHC.out.age HB_V7.out.size)
 have HA_V8:Hid (V8.heap[A]?=some (.cells (auC (.slice ka kn kc) (.slice ha hn hc) (.slice (some ⟨b,off,none⟩) mn mc) mp (3,(k1:Int),(i:Int))) 74)):=HAs_V8.out
 have HT_V8:Hid (V8.heap[T]?=some (.cells (mkV m).toArray 45)):=(HG_V8.out.block T (blk_lt HT_V7.out) (fun e=>by injection e with e;exact HTA.out e.symm)).trans HT_V7.out
 have HO_V8:=hid (HO_V7.out.kept HG_V8.out (by intro e;injection e with e;exact HNE.out e.symm))
 clear HAs_V8 HG_V8 HB_V7 HA_V7 HT_V7 HO_V7
 go_wp2_with fail
 refine wp_region_held_drew (S:=fun X=>Below V8.heap.size V8 X) (by kernel_rfl) (Below.refl _ _).drew (fun hS_V9=>?_)
 have hd_V9:Below V8.heap.size V8 V8.drew:=(Below.refl _ _).drew
 generalize V8.drew=V9 at *
 simp only[List.size_toArray,List.length_cons,List.length_nil,Nat.reduceAdd]
 have HC2:=hid (fun X (hX:Below V8.heap.size V8 X)=>(Joins.cell_of_block (blk_later HA_V8.out hX) 0).trans (show _=some (Value.slice ka kn kc) from rfl))
 have HL2:=hid (fun X (hX:Below V8.heap.size V8 X)=>blk_range (blk_later HT_V8.out hX))
 refine Ord.take (i:=0) (d:=72) (v:=?vZ0) rfl rfl (by as_aux_lemma=>kernel_rfl) (by as_aux_lemma=>kernel_rfl) (by as_aux_lemma=>kernel_rfl) (fun _ _ _ h=>h) (by rfl) ?hZ0 (by assumption) ?_
 case hZ0=>intro wx hSw;go_simp;try with_reducible rfl
 try simp only[List.setIfInBounds_toArray,List.set_cons_zero,List.set_cons_succ]
 refine Ord.take (i:=1) (d:=73) (v:=?vZ1) rfl rfl (by as_aux_lemma=>kernel_rfl) (by as_aux_lemma=>kernel_rfl) (by as_aux_lemma=>kernel_rfl) (fun _ _ _ h=>h) (by rfl) ?hZ1 (by assumption) ?_
 case hZ1=>intro wx hSw;go_simp;try with_reducible rfl
 try simp only[List.setIfInBounds_toArray,List.set_cons_zero,List.set_cons_succ]
 refine Ord.take (i:=2) (d:=74) (v:=?vZ2) rfl rfl (by as_aux_lemma=>kernel_rfl) (by as_aux_lemma=>kernel_rfl) (by as_aux_lemma=>kernel_rfl) (fun _ _ _ h=>h) (by rfl) ?hZ2 (by assumption) ?_
 case hZ2=>intro wx hSw;go_simp;try with_reducible rfl
 try simp only[List.setIfInBounds_toArray,List.set_cons_zero,List.set_cons_succ]
 refine Ord.take (i:=3) (d:=75) (v:= .slice ka kn kc) rfl rfl (by as_aux_lemma=>kernel_rfl) (by as_aux_lemma=>kernel_rfl) (by as_aux_lemma=>kernel_rfl) (fun _ _ _ h=>h) (by rfl) ?hZ3 (by assumption) ?_
 case hZ3=>intro wx hSw;have hc:=HC2.out _ hSw;go_simp;try with_reducible rfl
 try simp only[List.setIfInBounds_toArray,List.set_cons_zero,List.set_cons_succ]
 refine Ord.take (i:=4) (d:=76) (v:= .agg (mkV m).toArray) rfl rfl (by as_aux_lemma=>kernel_rfl) (by as_aux_lemma=>kernel_rfl) (by as_aux_lemma=>kernel_rfl) (fun _ _ _ h=>h) (by rfl) ?hZ4 (by assumption) ?_
 case hZ4=>intro wx hSw;exact exec_load 45 (.tmp 4) rfl T 0 rfl (run_loadVar_mid wx T 0 45 (mkV m) _ (HL2.out _ hSw) Tryd.underlying45 rfl (by rw[HLM.out];exact Tryd.size45))
 try simp only[List.setIfInBounds_toArray,List.set_cons_zero,List.set_cons_succ]
 refine wpAnyH_ready (rs:= [5]) (by as_aux_lemma=>kernel_rfl) (by simp) (AllReadyH.cons rfl (fun K hK=>?_) AllReadyH.nil)
 go_simp
 have hsw:=sealed_word ka kc key m V9 (HHC.out.laid.later (Bn HB_V8.out hd_V9)) (HKR.out _ (Bn HB_V8.out hd_V9)) HHC.out.kfew HMK.out
 rw[<-HKN.out] at hsw
 refine hsw.mono ?_
 rintro _ V10 ⟨rfl,hb1⟩
 have hS_V10:Below V8.heap.size V8 V10:=Bn hS_V9 hb1
 have hd_V10:Below V8.heap.size V8 V10:=hS_V10
 rw[HFS.out]
 refine hK.out _ _ hS_V10 (fun _=>?_)
 clear hK K hsw hb1
 try simp only[List.setIfInBounds_toArray,List.set_cons_zero,List.set_cons_succ]
 refine Ord.take (i:=6) (d:=78) (v:= .bool true) rfl rfl (by as_aux_lemma=>kernel_rfl) (by as_aux_lemma=>kernel_rfl) (by as_aux_lemma=>kernel_rfl) (fun _ _ _ h=>h) (by rfl) ?hZ6 (by assumption) ?_
 case hZ6=>intro wx hSw;go_simp;try with_reducible rfl
 try simp only[List.setIfInBounds_toArray,List.set_cons_zero,List.set_cons_succ]
 refine wpAnyH_done (by as_aux_lemma=>kernel_rfl) ?_ _
 have hb_V10:=hd_V10
 clear hS_V9 hd_V9 hS_V10 hd_V10 HC2 HL2
 have HB_V10:=hid (Bn HB_V8.out hb_V10)
 have HA_V10:=hid (blk_later HA_V8.out hb_V10)
 have HT_V10:=hid (blk_later HT_V8.out hb_V10)
 have HO_V10:=hid (HO_V8.out.kept (grown_bel (r:=none) hb_V10) (by simp))
 clear hb_V10 HB_V8 HA_V8 HT_V8 HO_V8
 go_wp2_with (first | refine wpList_store_Z rfl 40 _ _ rfl rfl A 4 [(.slice ka kn kc),(.slice ha hn hc),(.slice (some ⟨b,off,none⟩) mn mc),.map (some mp)] [.int .i64 3,.int .i64 (k1:Int),.int .i64 (i:Int)] [] 74 [.int .i64 2,.int .i64 (i:Int),.int .i64 0] rfl rfl rfl HA_V10.out rfl Tryd.size40 (fun v hv=>by simp at hv;rcases hv with rfl | rfl | rfl<;>rfl) ?_ | fail)
 intro V11 HAs_V11 HG_V11
 have HB_V11:Hid (Below W0.heap.size W0 V11):=HB_V10.out.trans (bel_grown HG_V11.out HHC.out.age HB_V10.out.size)
 have HA_V11:Hid (V11.heap[A]?=some (.cells (auC (.slice ka kn kc) (.slice ha hn hc) (.slice (some ⟨b,off,none⟩) mn mc) mp (2,(i:Int),0)) 74)):=HAs_V11.out
 have HT_V11:Hid (V11.heap[T]?=some (.cells (mkV m).toArray 45)):=(HG_V11.out.block T (blk_lt HT_V10.out) (fun e=>by injection e with e;exact HTA.out e.symm)).trans HT_V10.out
 have HO_V11:=hid (HO_V10.out.kept HG_V11.out (by intro e;injection e with e;exact HNE.out e.symm))
 clear HAs_V11 HG_V11 HB_V10 HA_V10 HT_V10 HO_V10
 go_wp2
 go_end0
 exact⟨rfl,HB_V11.out,HA_V11.out,D2,nn2,HO_V11.out,HN2.out,fun _=>HF2.out⟩
end Go.Proofs.YtplinkmagnihmaaDoor
