/-
  A sealed mark: the contract of check's Make. mac's Same, and whether a mark is sealed: check's Sealed and Make. The MAC that a mark has, if it is sealed: the contract of check's seal.
-/
import Derived.Test.YtplinkmagnihmaaDoorRcJd
import Derived.Test.YtplinkmagnihmaaDoorCkB
namespace Go.Proofs.YtplinkmagnihmaaDoor
open Go.ChangeShapes Go.WideShapes Go.ChangeAt Go.RowKit Go.Deep Go.Lib
def markS:ByteArray:=⟨#[109,97,114,107]⟩
def sealK(key:List Nat)(n:Nat):List Nat:=Sh.Sha.hmac key (Sh.purposeL markS n)
def sealL(key:List Nat)(m:Mrk):List Int:=(Sh.Sha.hmac (sealK key m.1.toNat) (nats (bodB m))).map fun z:Nat=>(z:Int)
theorem sealL_len(key:List Nat)(m:Mrk):(sealL key m).length=32:=by
 unfold sealL
 rw[List.length_map]
 exact Sh.Sha.hmac_length _ _
theorem hmac_u8(key msg:List Nat)(j:Nat):(Sh.Sha.hmac key msg).getD j 0<256:=Sh.digest_lt _ j
theorem sealL_u8(key:List Nat)(m:Mrk)(j:Nat):(Lit.int .u8 ((sealL key m).getD j 0)).wf=true:=by
 unfold sealL
 have:=hmac_u8 (sealK key m.1.toNat) (nats (bodB m)) j
 rw[show((Sh.Sha.hmac (sealK key m.1.toNat) (nats (bodB m))).map fun z:Nat=>(z:Int)).getD j 0=(((Sh.Sha.hmac (sealK key m.1.toNat) (nats (bodB m))).getD j 0:Nat):Int) from by
  simp only[List.getD,List.getElem?_map]
  cases (Sh.Sha.hmac (sealK key m.1.toNat) (nats (bodB m)))[j]?<;>rfl]
 exact wf_mk_u8 (by omega) (by omega)
theorem arr_nat(l:List Nat):Sh.arr .u8 l=((l.map fun z:Nat=>(z:Int)).map (Value.int .u8)).toArray:=by simp[Sh.arr,List.map_map,Function.comp_def]
set_option maxHeartbeats 6400000 in
set_option maxRecDepth 100000 in
theorem cseal_word(a:Option Addr)(cap:Nat)(key:List Nat)(m:Mrk)(w:World)(hL:Sh.Laid w)(hr:Sh.Rd w (.slice a key.length cap) a cap key)(hk:key.length<=100000)(h:MOk m)(hm:mayM m=true):
 Calls Tryd.prog 33 #[.slice a key.length cap,.agg (mkV m).toArray] w fun e w'=>e= .returned (.agg (u8A (sealL key m)))∧Below w.heap.size w w':=by
 obtain⟨⟨hs0,hs1⟩,_,_⟩:=may_parts2 hm
 obtain⟨n,hn⟩:∃n:Nat,m.1=(n:Int):=⟨m.1.toNat,by omega⟩
 have hn1:n<=1:=by omega
 have HB1:=hid (bel_alc w (.cells (mkV m).toArray 45))
 have hbx:=heap_alc w (.cells (mkV m).toArray 45)
 have hsz:(w.alloc (.cells (mkV m).toArray 45)).heap.size=w.heap.size+1:=by simp
 obtain⟨W1,hW1⟩:∃W1,W1=w.alloc (.cells (mkV m).toArray 45):=⟨_,rfl⟩
 rw[<-hW1] at HB1 hbx hsz
 have HW1:=hid hW1
 have HBX:=hid hbx
 have HS1:=hid hsz
 have HLN:=hid (mkV_len h)
 have HLA:=hid hL
 have HKR:=hid hr
 have HKL:=hid hk
 have HBW:=hid (fun V=>body_word m V h hm)
 have HBL:=hid (bodB_len h)
 have HB8:=hid (get_u8 (bodB_u8 h hm))
 have HNE:Hid (0<(bodB m).length):=by show _<_;unfold bodB;simp
 have HSE:Hid (u8A (sealL key m)=Sh.arr .u8 (Sh.Sha.hmac (sealK key n) (nats (bodB m)))):=by show _=_;unfold sealL;rw[hn,Int.toNat_natCast];exact(arr_dig _).symm
 have HZ:=hid Tryd.zero25
 have c0:W1.cell? ⟨w.heap.size,0,none⟩=some (.int .i64 (n:Int)):=by rw[<-hn];exact mk_site (blk_range hbx)
 have HDV:=hid (fun V (q:Sh.Laid V) r=>Sh.derive_word a cap key markS n V q r hk (by decide) (by omega))
 have HDL:Hid ((sealK key n).length=32):=Sh.Sha.hmac_length _ _
 have HD8:=hid (hmac_u8 key (Sh.purposeL markS n))
 rw[HSE.out]
 clear hL hr hk h hm hs0 hs1 hn hbx hsz hW1 HSE
 obtain⟨D1,hD1⟩:∃D1,D1=sealK key n:=⟨_,rfl⟩
 have HD1:=hid hD1
 rw[<-hD1] at HDL|-
 generalize bodB m=BB at *
 obtain⟨DD,hDD⟩:∃DD,DD=Sh.arr .u8 (Sh.Sha.hmac D1 (nats BB)):=⟨_,rfl⟩
 have HDD:=hid hDD
 have HDS:Hid (DD.size=32):=by show _=_;rw[hDD,Sh.arr_size];exact Sh.Sha.hmac_length _ _
 have HDO:Hid (DD.all (·.oneCell')=true):=by show _=_;rw[hDD];exact Sh.arr_one _ _
 rw[<-hDD]
 clear hD1 hDD
 go_enter Tryd.func33,Tryd.ntmps33
 go_wp2_with (first | refine wpList_alloc_W rfl 25 rfl (some 4) rfl _ HZ.out (w.heap.size+1) (by simp) ?_ | fail)
 intro W2 HG2 HB2 HS2
 rw[<-HW1.out] at HB2
 have c02:W2.cell? ⟨w.heap.size,0,none⟩=some (.int .i64 (n:Int)):=(HB2.out.cell (p:=⟨w.heap.size,0,none⟩) (Nat.lt_succ_self _)).trans c0
 have HX2:Hid (W2.heap[w.heap.size]?=some (.cells (mkV m).toArray 45)):=(HB2.out.block _ (Nat.lt_succ_self _)).trans HBX.out
 have HW2:Hid (Below w.heap.size w W2):=HB1.out.trans (HB2.out.mono (Nat.le_succ _))
 clear c0 HB2 HBX HB1 HS1 HW1
 go_wp2_with fail
 refine(HDV.out W2 (HLA.out.later HW2.out) (HKR.out.later HW2.out)).mono ?_
 rintro _ W3 ⟨rfl,hb3⟩
 have hd1:Sh.Sha.hmac key (Sh.purposeL markS n)=D1:=HD1.out.symm
 rw[hd1] at HD8|-
 have HW3:=hid (Bn HW2.out hb3)
 have HG3:=hid (blk_later HG2.out hb3)
 have HX3:=hid (blk_later HX2.out hb3)
 obtain⟨g2,hg2⟩:∃g2,g2=W3.heap.size:=⟨_,rfl⟩
 have HGE:Hid (w.heap.size+1<g2):=by show _<_;rw[hg2];have:=hb3.size;have:=HS2.out;omega
 clear hb3 hd1 c02 HG2 HX2 HDV HS2
 go_wp2_with (first | refine wpList_alloc_W rfl 25 rfl (some 5) rfl _ HZ.out g2 hg2 ?_ | fail)
 intro W4 HG4 HB4 HS4
 go_wp2_with (first | refine wpList_store_W rfl 25 _ _ rfl rfl g2 (Sh.arr .u8 D1) rfl rfl 25 _ HG4.out (by rw[Sh.arr_size,HDL.out];exact Tryd.size25) (by rw[Sh.arr_size,HDL.out];rfl) (Sh.arr_one _ _) ?_ | fail)
 intro W5 HG5 HGR5 HS5
 have HB5:Hid (Below W3.heap.size W3 W5):=by
  show Below _ _ _
  rw[<-hg2]
  exact HB4.out.trans (bel_grown HGR5.out (Nat.le_refl _) (by rw[hg2];exact HB4.out.size))
 have HW5:=hid (Bn HW3.out HB5.out)
 have HX5:=hid (blk_later HX3.out HB5.out)
 have HZ5:=hid (blk_later HG3.out HB5.out)
 have HSK:Hid (Sh.Rd W5 (.slice (some ⟨g2,0,none⟩) 32 32) (some ⟨g2,0,none⟩) 32 D1):=Sh.Rd.block 32 HDL.out HG5.out (by decide) HD8.out
 clear HG4 HB4 HS4 HGR5 HS5 HB5 hg2 HG3 HX3 HW3
 go_wp2_with fail
 refine wp_region_held_drew (S:=fun V=>V.heap[w.heap.size]?=some (.cells (mkV m).toArray 45)∧Below w.heap.size w V) (by kernel_rfl) ⟨HX5.out,HW5.out.drew⟩ (fun hS0=>?_)
 have hd0:Below W5.heap.size W5 W5.drew:=(Below.refl _ _).drew
 generalize W5.drew=v0 at *
 simp only[List.size_toArray,List.length_cons,List.length_nil,Nat.reduceAdd]
 refine Ord.take (i:=0) (d:=11) (v:= .slice (some ⟨g2,0,none⟩) 32 32) rfl rfl (by as_aux_lemma=>kernel_rfl) (by as_aux_lemma=>kernel_rfl) (by as_aux_lemma=>kernel_rfl) (fun _ _ _ h=>h) (by rfl) ?hA0 (by assumption) ?_
 case hA0=>intro V hSw;go_simp;try with_reducible rfl
 try simp only[List.setIfInBounds_toArray,List.set_cons_zero,List.set_cons_succ]
 refine Ord.take (i:=1) (d:=12) (v:= .agg (mkV m).toArray) rfl rfl (by as_aux_lemma=>kernel_rfl) (by as_aux_lemma=>kernel_rfl) (by as_aux_lemma=>kernel_rfl) (fun _ _ _ h=>h) (by rfl) ?hA1 (by assumption) ?_
 case hA1=>intro V hSw;exact exec_load 45 (.tmp 3) rfl w.heap.size 0 rfl (run_loadVar_mid V w.heap.size 0 45 (mkV m) _ (blk_range hSw.1) Tryd.underlying45 rfl (by rw[HLN.out];exact Tryd.size45))
 try simp only[List.setIfInBounds_toArray,List.set_cons_zero,List.set_cons_succ]
 refine wpAnyH_ready (rs:= [2]) (by as_aux_lemma=>kernel_rfl) (by simp) (AllReadyH.cons rfl (fun K hK=>?_) AllReadyH.nil)
 go_simp
 refine(HBW.out v0).mono ?_
 rintro _ v1 ⟨v,rfl,ho,hb1⟩
 obtain⟨ax,cx,rfl,hrx⟩:=Ri.own ho HB8.out
 obtain⟨bx,ox,rfl,_,_⟩:=hrx.cells HNE.out
 have hS1:v1.heap[w.heap.size]?=some (.cells (mkV m).toArray 45)∧Below w.heap.size w v1:=⟨blk_later hS0.1 hb1,Bn hS0.2 hb1⟩
 have HRX:=hid hrx.rdS
 have HSK1:=hid (HSK.out.later (Bn hd0 hb1))
 have HZ1:=hid (blk_later HZ5.out (Bn hd0 hb1))
 refine hK.out _ _ hS1 (fun _=>?_)
 clear hK K ho hrx hb1
 try simp only[List.setIfInBounds_toArray,List.set_cons_zero,List.set_cons_succ]
 refine wpAnyH_ready (rs:= [3]) (by as_aux_lemma=>kernel_rfl) (by simp) (AllReadyH.cons rfl (fun K hK=>?_) AllReadyH.nil)
 go_simp
 have hb2:=bel_alc v1 (.cells #[.slice (some ⟨bx,ox,none⟩) BB.length cx] 22)
 have hS2:(v1.alloc (.cells #[.slice (some ⟨bx,ox,none⟩) BB.length cx] 22)).heap[w.heap.size]?=some (.cells (mkV m).toArray 45)∧Below w.heap.size w (v1.alloc (.cells #[.slice (some ⟨bx,ox,none⟩) BB.length cx] 22)):=⟨blk_later hS1.1 hb2,Bn hS1.2 hb2⟩
 refine hK.out _ _ hS2 (fun _=>?_)
 clear hK K
 try simp only[List.setIfInBounds_toArray,List.set_cons_zero,List.set_cons_succ]
 refine wpAnyH_ready (rs:= [4]) (by as_aux_lemma=>kernel_rfl) (by simp) (AllReadyH.cons rfl (fun K hK=>?_) AllReadyH.nil)
 go_simp
 have hmac:=Sh.macSum_word (some ⟨g2,0,none⟩) 32 D1 ⟨v1.heap.size,0,none⟩ 1 [nats BB] (v1.alloc (.cells #[.slice (some ⟨bx,ox,none⟩) BB.length cx] 22)) (HLA.out.later hS2.2) (by rw[HDL.out];exact HSK1.out.later hb2) (by rw[HDL.out];decide) (Sh.Ps.one HRX.out v1.heap.size rfl) (by simp) (by simp) (by simp[nats_len];have:=HBL.out;omega)
 rw[HDL.out,show [nats BB].flatten=nats BB from by simp,<-HDD.out] at hmac
 refine hmac.mono ?_
 rintro _ v3 ⟨rfl,hb3⟩
 have hS3:v3.heap[w.heap.size]?=some (.cells (mkV m).toArray 45)∧Below w.heap.size w v3:=⟨blk_later hS2.1 hb3,Bn hS2.2 hb3⟩
 have HZ3:=hid (blk_later HZ1.out (Bn hb2 hb3))
 refine hK.out _ _ hS3 (fun _=>?_)
 clear hK K hb2 hS2 hmac
 try simp only[List.setIfInBounds_toArray,List.set_cons_zero,List.set_cons_succ]
 refine wpAnyH_ready (rs:= [5]) (by as_aux_lemma=>kernel_rfl) (by simp) (AllReadyH.cons rfl (fun K hK=>?_) AllReadyH.nil)
 rw[if_pos (by rfl)]
 refine wp_store_row 25 _ _ rfl (w.heap.size+1) DD rfl rfl 25 _ HZ3.out (by rw[HDS.out];exact Tryd.size25) (by rw[HDS.out];rfl) HDO.out ?_
 have hS4:(v3.setRow (w.heap.size+1) DD).heap[w.heap.size]?=some (.cells (mkV m).toArray 45)∧Below w.heap.size w (v3.setRow (w.heap.size+1) DD):=⟨(other_setRow _ _ _ _ (by omega)).trans hS3.1,below_setRow hS3.2 (by omega) _⟩
 refine hK.out _ _ hS4 (fun _=>?_)
 clear hK K
 have HE4:=hid (setRow_heap _ _ _ DD _ _ HZ3.out)
 generalize v3.setRow (w.heap.size+1) DD=v4 at *
 try simp only[List.setIfInBounds_toArray,List.set_cons_zero,List.set_cons_succ]
 refine wpAnyH_done (by as_aux_lemma=>kernel_rfl) ?_ _
 have HB9:=hid hS4.2
 clear hS4 hS3 hS1 hS0
 go_wp2
 refine bodyPost_ret (results_cell_row (ty:=25) rfl _ _ _ _ _ _ _ rfl HE4.out Tryd.underlying25 rfl (by rw[HDS.out];exact Tryd.size25)) rfl ?_
 exact⟨rfl,HB9.out⟩
end Go.Proofs.YtplinkmagnihmaaDoor
namespace Go.Proofs.YtplinkmagnihmaaDoor
open Go.ChangeShapes Go.WideShapes Go.ChangeAt Go.RowKit Go.Deep Go.Lib
theorem guard25d:Tryd.prog.eqGuardType Tryd.prog.depth 25=false:=by kernel_rfl
set_option maxHeartbeats 3200000 in
set_option maxRecDepth 100000 in
theorem msame_word(a b:List Int)(w:World)(ha:a.length=32)(hb:b.length=32):Calls Tryd.prog 35 #[.agg (u8A a),.agg (u8A b)] w fun e w'=>e= .returned (.bool (decide (a=b)))∧Below w.heap.size w w':=by
 have hB1:=bel_alc w (.cells (u8A a) 25)
 have e1:=heap_alc w (.cells (u8A a) 25)
 have hB2:=bel_alc (w.alloc (.cells (u8A a) 25)) (.cells (u8A b) 25)
 have e2:=heap_alc (w.alloc (.cells (u8A a) 25)) (.cells (u8A b) 25)
 have s1:(w.alloc (.cells (u8A a) 25)).heap.size=w.heap.size+1:=by simp
 rw[s1] at e2
 have HE1:Hid (((w.alloc (.cells (u8A a) 25)).alloc (.cells (u8A b) 25)).rangeAt w.heap.size 0 (a.map (Value.int .u8))):=blk_range (blk_later e1 hB2)
 have HE2:Hid (((w.alloc (.cells (u8A a) 25)).alloc (.cells (u8A b) 25)).rangeAt (w.heap.size+1) 0 (b.map (Value.int .u8))):=blk_range e2
 have HB:=hid (Bn hB1 hB2)
 have HA:Hid ((a.map (Value.int .u8)).length=32):=by show _=_;rw[List.length_map,ha]
 have HBB:Hid ((b.map (Value.int .u8)).length=32):=by show _=_;rw[List.length_map,hb]
 obtain⟨q,hq⟩:∃q,q=decide (a=b):=⟨_,rfl⟩
 rw[<-hq]
 have hgd:=guard25d
 have heq:∀V,(Op.equalIn 10000 25 (.agg (a.map (Value.int .u8)).toArray) (.agg (b.map (Value.int .u8)).toArray)).run Tryd.prog V= .ok q V:=fun V=>by rw[hq];exact eqD 9998 a b ha hb V
 clear ha hb hB1 hB2 e1 e2 s1 hq
 obtain⟨W2,hW2⟩:∃W2,W2=(w.alloc (.cells (u8A a) 25)).alloc (.cells (u8A b) 25):=⟨_,rfl⟩
 rw[<-hW2] at HE1 HE2 HB
 have HW2:=hid hW2
 clear hW2
 generalize u8A a=A at *
 generalize u8A b=B at *
 generalize a.map (Value.int .u8)=al at *
 generalize b.map (Value.int .u8)=bl at *
 go_enter Tryd.func35,Tryd.ntmps35
 go_wp2_with (first | refine wpList_load_P rfl 25 _ rfl w.heap.size 0 rfl al _ (by rw[<-HW2.out];exact HE1.out) Tryd.underlying25 rfl (by rw[HA.out];exact Tryd.size25) ?_ | refine wpList_load_P rfl 25 _ rfl (w.heap.size+1) 0 rfl bl _ (by rw[<-HW2.out];exact HE2.out) Tryd.underlying25 rfl (by rw[HBB.out];exact Tryd.size25) ?_ | fail)
 go_ret
 exact⟨rfl,by rw[<-HW2.out];exact HB.out⟩
def sealedB(key:List Nat)(m:Mrk):Bool:=mayM m&&decide (m.2.2=sealL key m)
set_option maxHeartbeats 6400000 in
set_option maxRecDepth 100000 in
theorem sealed_word(a:Option Addr)(cap:Nat)(key:List Nat)(m:Mrk)(w:World)(hL:Sh.Laid w)(hr:Sh.Rd w (.slice a key.length cap) a cap key)(hk:key.length<=100000)(h:MOk m):
 Calls Tryd.prog 19 #[.slice a key.length cap,.agg (mkV m).toArray] w fun e w'=>e= .returned (.bool (sealedB key m))∧Below w.heap.size w w':=by
 have HB1:=hid (bel_alc w (.cells (mkV m).toArray 45))
 have hbx:=heap_alc w (.cells (mkV m).toArray 45)
 obtain⟨W1,hW1⟩:∃W1,W1=w.alloc (.cells (mkV m).toArray 45):=⟨_,rfl⟩
 rw[<-hW1] at HB1 hbx
 have HW1:=hid hW1
 have HR:=hid (fun X (hX:Below W1.heap.size W1 X)=>blk_range (blk_later hbx hX))
 have HLN:=hid (mkV_len h)
 have HML:=hid h.mlen
 have HCL:=hid h.hd.len
 have HMY:=hid (fun V=>cmay_word m V h)
 have HSL:=hid (fun V (hV:Below W1.heap.size W1 V) (hm:mayM m=true)=>cseal_word a cap key m V (hL.later (Bn HB1.out hV)) (hr.later (Bn HB1.out hV)) hk h hm)
 have HSM:=hid (fun V=>msame_word m.2.2 (sealL key m) V h.mlen (sealL_len key m))
 clear hW1 hbx hL hr hk h
 obtain⟨q,hq⟩:∃q,q=sealedB key m:=⟨_,rfl⟩
 rw[<-hq]
 obtain⟨r,hr⟩:∃r,r=mayM m:=⟨_,rfl⟩
 have HRR:=hid hr
 unfold sealedB at hq
 rw[<-hr] at hq HMY
 have HQ:=hid hq
 clear hq hr
 cases r
 ·have HQF:Hid (q=false):=HQ.out
  rw[HQF.out]
  clear HQF HQ HSL HSM
  go_enter Tryd.func19,Tryd.ntmps19
  go_wp2_with fail
  rw[<-HW1.out]
  refine wp_region_held_drew (S:=fun X=>Below W1.heap.size W1 X) (by kernel_rfl) (Below.refl _ _).drew (fun hS_v0=>?_)
  have hd_v0:Below W1.heap.size W1 W1.drew:=(Below.refl _ _).drew
  generalize W1.drew=v0 at *
  simp only[List.size_toArray,List.length_cons,List.length_nil,Nat.reduceAdd]
  clear hd_v0
  refine Ord.take (i:=0) (d:=5) (v:= .agg (mkV m).toArray) rfl rfl (by as_aux_lemma=>kernel_rfl) (by as_aux_lemma=>kernel_rfl) (by as_aux_lemma=>kernel_rfl) (fun _ _ _ h=>h) (by rfl) ?hF0 (by assumption) ?_
  case hF0=>intro wx hSw;exact exec_load 45 (.tmp 3) rfl w.heap.size 0 rfl (run_loadVar_mid wx w.heap.size 0 45 (mkV m) _ (HR.out _ hSw) Tryd.underlying45 rfl (by rw[HLN.out];exact Tryd.size45))
  try simp only[List.setIfInBounds_toArray,List.set_cons_zero,List.set_cons_succ]
  refine wpAnyH_ready (rs:= [1]) (by as_aux_lemma=>kernel_rfl) (by simp) (AllReadyH.cons rfl (fun K hK=>?_) AllReadyH.nil)
  go_simp
  refine(HMY.out v0).mono ?_
  rintro _ v1 ⟨rfl,hb_v1⟩
  have hS_v1:Below W1.heap.size W1 v1:=Bn hS_v0 hb_v1
  clear hb_v1
  refine hK.out _ _ hS_v1 (fun _=>?_)
  clear hK K
  try simp only[List.setIfInBounds_toArray,List.set_cons_zero,List.set_cons_succ]
  refine Ord.take (i:=2) (d:=7) (v:=?vF2) rfl rfl (by as_aux_lemma=>kernel_rfl) (by as_aux_lemma=>kernel_rfl) (by as_aux_lemma=>kernel_rfl) (fun _ _ _ h=>h) (by rfl) ?hF2 (by assumption) ?_
  case hF2=>intro wx hSw;go_simp;try with_reducible rfl
  try simp only[List.setIfInBounds_toArray,List.set_cons_zero,List.set_cons_succ]
  refine Ord.skip (i:=3) (d:=8) rfl rfl (by as_aux_lemma=>kernel_rfl) (by as_aux_lemma=>kernel_rfl) (by as_aux_lemma=>kernel_rfl) (fun _ _ _ h=>h) (by rfl) (by assumption) ?_
  simp only[List.setIfInBounds_toArray,List.set_cons_zero,List.set_cons_succ]
  refine Ord.skip (i:=4) (d:=9) rfl rfl (by as_aux_lemma=>kernel_rfl) (by as_aux_lemma=>kernel_rfl) (by as_aux_lemma=>kernel_rfl) (fun _ _ _ h=>h) (by rfl) (by assumption) ?_
  simp only[List.setIfInBounds_toArray,List.set_cons_zero,List.set_cons_succ]
  refine Ord.skip (i:=5) (d:=10) rfl rfl (by as_aux_lemma=>kernel_rfl) (by as_aux_lemma=>kernel_rfl) (by as_aux_lemma=>kernel_rfl) (fun _ _ _ h=>h) (by rfl) (by assumption) ?_
  simp only[List.setIfInBounds_toArray,List.set_cons_zero,List.set_cons_succ]
  refine Ord.skip (i:=6) (d:=11) rfl rfl (by as_aux_lemma=>kernel_rfl) (by as_aux_lemma=>kernel_rfl) (by as_aux_lemma=>kernel_rfl) (fun _ _ _ h=>h) (by rfl) (by assumption) ?_
  simp only[List.setIfInBounds_toArray,List.set_cons_zero,List.set_cons_succ]
  refine Ord.skip (i:=7) (d:=12) rfl rfl (by as_aux_lemma=>kernel_rfl) (by as_aux_lemma=>kernel_rfl) (by as_aux_lemma=>kernel_rfl) (fun _ _ _ h=>h) (by rfl) (by assumption) ?_
  simp only[List.setIfInBounds_toArray,List.set_cons_zero,List.set_cons_succ]
  refine Ord.skip (i:=8) (d:=13) rfl rfl (by as_aux_lemma=>kernel_rfl) (by as_aux_lemma=>kernel_rfl) (by as_aux_lemma=>kernel_rfl) (fun _ _ _ h=>h) (by rfl) (by assumption) ?_
  simp only[List.setIfInBounds_toArray,List.set_cons_zero,List.set_cons_succ]
  refine Ord.take (i:=9) (d:=14) (v:= .bool false) rfl rfl (by as_aux_lemma=>kernel_rfl) (by as_aux_lemma=>kernel_rfl) (by as_aux_lemma=>kernel_rfl) (fun _ _ _ h=>h) (by rfl) ?hF9 (by assumption) ?_
  case hF9=>intro wx hSw;go_simp;try with_reducible rfl
  try simp only[List.setIfInBounds_toArray,List.set_cons_zero,List.set_cons_succ]
  refine Ord.take (i:=10) (d:=4) (v:=?vF10) rfl rfl (by as_aux_lemma=>kernel_rfl) (by as_aux_lemma=>kernel_rfl) (by as_aux_lemma=>kernel_rfl) (fun _ _ _ h=>h) (by rfl) ?hF10 (by assumption) ?_
  case hF10=>intro wx hSw;go_simp;try with_reducible rfl
  try simp only[List.setIfInBounds_toArray,List.set_cons_zero,List.set_cons_succ]
  refine wpAnyH_done (by as_aux_lemma=>kernel_rfl) ?_ _
  have HS9:=hid (Bn HB1.out hS_v1)
  clear hS_v0 hS_v1
  go_wp2
  go_ret
  exact⟨rfl,HS9.out⟩
 ·have HQT:Hid (decide (m.2.2=sealL key m)=q):=by show _=_;rw[HQ.out];simp
  rw[HQT.out] at HSM
  have HSL2:=hid (fun V hV=>HSL.out V hV HRR.out.symm)
  clear HSL HQT HQ
  go_enter Tryd.func19,Tryd.ntmps19
  go_wp2_with fail
  rw[<-HW1.out]
  refine wp_region_held_drew (S:=fun X=>Below W1.heap.size W1 X) (by kernel_rfl) (Below.refl _ _).drew (fun hS_v0=>?_)
  have hd_v0:Below W1.heap.size W1 W1.drew:=(Below.refl _ _).drew
  generalize W1.drew=v0 at *
  simp only[List.size_toArray,List.length_cons,List.length_nil,Nat.reduceAdd]
  clear hd_v0
  refine Ord.take (i:=0) (d:=5) (v:= .agg (mkV m).toArray) rfl rfl (by as_aux_lemma=>kernel_rfl) (by as_aux_lemma=>kernel_rfl) (by as_aux_lemma=>kernel_rfl) (fun _ _ _ h=>h) (by rfl) ?hT0 (by assumption) ?_
  case hT0=>intro wx hSw;exact exec_load 45 (.tmp 3) rfl w.heap.size 0 rfl (run_loadVar_mid wx w.heap.size 0 45 (mkV m) _ (HR.out _ hSw) Tryd.underlying45 rfl (by rw[HLN.out];exact Tryd.size45))
  try simp only[List.setIfInBounds_toArray,List.set_cons_zero,List.set_cons_succ]
  refine wpAnyH_ready (rs:= [1]) (by as_aux_lemma=>kernel_rfl) (by simp) (AllReadyH.cons rfl (fun K hK=>?_) AllReadyH.nil)
  go_simp
  refine(HMY.out v0).mono ?_
  rintro _ v1 ⟨rfl,hb_v1⟩
  have hS_v1:Below W1.heap.size W1 v1:=Bn hS_v0 hb_v1
  clear hb_v1
  refine hK.out _ _ hS_v1 (fun _=>?_)
  clear hK K
  try simp only[List.setIfInBounds_toArray,List.set_cons_zero,List.set_cons_succ]
  refine Ord.take (i:=2) (d:=7) (v:=?vT2) rfl rfl (by as_aux_lemma=>kernel_rfl) (by as_aux_lemma=>kernel_rfl) (by as_aux_lemma=>kernel_rfl) (fun _ _ _ h=>h) (by rfl) ?hT2 (by assumption) ?_
  case hT2=>intro wx hSw;go_simp;try with_reducible rfl
  try simp only[List.setIfInBounds_toArray,List.set_cons_zero,List.set_cons_succ]
  refine Ord.take (i:=3) (d:=8) (v:=?vT3) rfl rfl (by as_aux_lemma=>kernel_rfl) (by as_aux_lemma=>kernel_rfl) (by as_aux_lemma=>kernel_rfl) (fun _ _ _ h=>h) (by rfl) ?hT3 (by assumption) ?_
  case hT3=>intro wx hSw;go_simp;try with_reducible rfl
  try simp only[List.setIfInBounds_toArray,List.set_cons_zero,List.set_cons_succ]
  refine Ord.take (i:=4) (d:=9) (v:= .agg (u8A m.2.2)) rfl rfl (by as_aux_lemma=>kernel_rfl) (by as_aux_lemma=>kernel_rfl) (by as_aux_lemma=>kernel_rfl) (fun _ _ _ h=>h) (by rfl) ?hT4 (by assumption) ?_
  case hT4=>intro wx hSw;exact exec_load 25 (.tmp 8) rfl w.heap.size 35 rfl (run_loadVar_mid wx w.heap.size 35 25 (m.2.2.map (Value.int .u8)) _ (mk_mac HCL.out (HR.out _ hSw)) Tryd.underlying25 rfl (by rw[List.length_map,HML.out];exact Tryd.size25))
  try simp only[List.setIfInBounds_toArray,List.set_cons_zero,List.set_cons_succ]
  refine Ord.take (i:=5) (d:=10) (v:=?vT5) rfl rfl (by as_aux_lemma=>kernel_rfl) (by as_aux_lemma=>kernel_rfl) (by as_aux_lemma=>kernel_rfl) (fun _ _ _ h=>h) (by rfl) ?hT5 (by assumption) ?_
  case hT5=>intro wx hSw;go_simp;try with_reducible rfl
  try simp only[List.setIfInBounds_toArray,List.set_cons_zero,List.set_cons_succ]
  refine Ord.take (i:=6) (d:=11) (v:= .agg (mkV m).toArray) rfl rfl (by as_aux_lemma=>kernel_rfl) (by as_aux_lemma=>kernel_rfl) (by as_aux_lemma=>kernel_rfl) (fun _ _ _ h=>h) (by rfl) ?hT6 (by assumption) ?_
  case hT6=>intro wx hSw;exact exec_load 45 (.tmp 3) rfl w.heap.size 0 rfl (run_loadVar_mid wx w.heap.size 0 45 (mkV m) _ (HR.out _ hSw) Tryd.underlying45 rfl (by rw[HLN.out];exact Tryd.size45))
  try simp only[List.setIfInBounds_toArray,List.set_cons_zero,List.set_cons_succ]
  refine wpAnyH_ready (rs:= [7]) (by as_aux_lemma=>kernel_rfl) (by simp) (AllReadyH.cons rfl (fun K hK=>?_) AllReadyH.nil)
  go_simp
  refine(HSL2.out v1 hS_v1).mono ?_
  rintro _ v2 ⟨rfl,hb_v2⟩
  have hS_v2:Below W1.heap.size W1 v2:=Bn hS_v1 hb_v2
  clear hb_v2
  refine hK.out _ _ hS_v2 (fun _=>?_)
  clear hK K
  try simp only[List.setIfInBounds_toArray,List.set_cons_zero,List.set_cons_succ]
  refine wpAnyH_ready (rs:= [8]) (by as_aux_lemma=>kernel_rfl) (by simp) (AllReadyH.cons rfl (fun K hK=>?_) AllReadyH.nil)
  go_simp
  refine(HSM.out v2).mono ?_
  rintro _ v3 ⟨rfl,hb_v3⟩
  have hS_v3:Below W1.heap.size W1 v3:=Bn hS_v2 hb_v3
  clear hb_v3
  refine hK.out _ _ hS_v3 (fun _=>?_)
  clear hK K
  try simp only[List.setIfInBounds_toArray,List.set_cons_zero,List.set_cons_succ]
  refine Ord.take (i:=9) (d:=14) (v:= .bool q) rfl rfl (by as_aux_lemma=>kernel_rfl) (by as_aux_lemma=>kernel_rfl) (by as_aux_lemma=>kernel_rfl) (fun _ _ _ h=>h) (by rfl) ?hT9 (by assumption) ?_
  case hT9=>intro wx hSw;go_simp;try with_reducible rfl
  try simp only[List.setIfInBounds_toArray,List.set_cons_zero,List.set_cons_succ]
  refine Ord.take (i:=10) (d:=4) (v:=?vT10) rfl rfl (by as_aux_lemma=>kernel_rfl) (by as_aux_lemma=>kernel_rfl) (by as_aux_lemma=>kernel_rfl) (fun _ _ _ h=>h) (by rfl) ?hT10 (by assumption) ?_
  case hT10=>intro wx hSw;go_simp;try with_reducible rfl
  try simp only[List.setIfInBounds_toArray,List.set_cons_zero,List.set_cons_succ]
  refine wpAnyH_done (by as_aux_lemma=>kernel_rfl) ?_ _
  have HS9:=hid (Bn HB1.out hS_v3)
  clear hS_v0 hS_v1 hS_v2 hS_v3
  go_wp2
  go_ret
  exact⟨rfl,HS9.out⟩
end Go.Proofs.YtplinkmagnihmaaDoor
namespace Go.Proofs.YtplinkmagnihmaaDoor
open Go.ChangeShapes Go.WideShapes Go.ChangeAt Go.RowKit Go.Deep Go.Lib
theorem wpList_store_Z{P:Program}{ops:Array Oper}{rest:List Oper}{o:Oper}{a:Act}{w:World}{Q:Exit->Act->World->Prop}(hgd:o.guard=none)(ty:TypeId)(x y:Operand)(ho:o.op= .store ty x y)(hd:o.dst=none)
 (b off:Nat) (A X Z:List Value) (t:TypeId) (cells:List Value) (hx:a.eval x= .pointer (some ⟨b,off,none⟩)) (hy:a.eval y= .agg cells.toArray) (hA:A.length=off) (hb:w.heap[b]?=some (.cells (A++X++Z).toArray t)) (hl:X.length=cells.length) (hi:(P.info? ty).map (·.size)=some cells.length)
 (h1:∀v∈cells,v.oneCell'=true)
 (h:∀W',Hid (W'.heap[b]?=some (.cells (A++cells++Z).toArray t))->Hid (w.grownBy W' (some b))->wpList P ops Q rest a W'):wpList P ops Q (o::rest) a w:=by
 subst hA
 refine wpList_store_mid hgd ty x y ho b A.length cells.toArray hx hy ?_ (by rw[List.size_toArray];exact hi) (all_oneCell_toArray h1) ?_
 ·intro j hj
  rw[List.size_toArray] at hj
  have hlt:A.length+j<(A++X++Z).length:=by simp;omega
  refine⟨?_,Joins.unfrozen_of_block hb _⟩
  rw[Joins.cell_of_block hb,List.getElem?_toArray,List.getElem?_eq_getElem hlt]
  rfl
 ·have e:a.put o.dst undef=a:=by rw[hd];rfl
  rw[e]
  refine h _ ?_ ?_
  ·have:=block_setCells b t (0,0) cells A.length w _ hb
   rw[setL_mid cells A X Z hl] at this
   exact this
  ·have hbl:=below_setCells (B:=b) (b:=b) (Nat.le_refl _) cells A.length w (Below.refl _ w)
   exact⟨hbl.os,hbl.tape,hbl.output,hbl.size,fun k _ hk=>other_setCells b k (fun e=>hk (by rw[e])) _ _ _⟩
def mkZ:Mrk:=(0,hdZ,z32)
theorem Tryd.zero45:∀w,(zeroValue 45).run Tryd.prog w= .ok (.agg (mkV mkZ).toArray) w:=fun w=>by kernel_rfl
theorem built45(s n k:Int)(d:List Int)(h:d.length=32):Tryd.prog.built 45 [(0,.int .i64 s),(1,.agg (hdV (n,k,d)).toArray)]=some (mkV (s,(n,k,d),z32)).toArray:=by
 obtain⟨a0,a1,a2,a3,a4,a5,a6,a7,a8,a9,a10,a11,a12,a13,a14,a15,a16,a17,a18,a19,a20,a21,a22,a23,a24,a25,a26,a27,a28,a29,a30,a31,rfl⟩:=list32 d h
 kernel_rfl
theorem mkZ_ok:MOk mkZ:=⟨by decide,⟨by decide,by decide,rfl,z32_u8⟩,rfl,z32_u8⟩
def mkM(key:List Nat)(s:Int)(h:Hd):Mrk:=if mayM (s,h,z32)=true then (s,h,sealL key (s,h,z32)) else mkZ
theorem mkV_apart(s:Int)(h:Hd)(d:List Int):mkV (s,h,d)=(.int .i64 s::hdV h)++d.map (Value.int .u8)++ []:=by simp[mkV]
set_option maxHeartbeats 6400000 in
set_option maxRecDepth 100000 in
theorem cmake_word(a:Option Addr)(cap:Nat)(key:List Nat)(s:Int)(x:Hd)(w:World)(hL:Sh.Laid w)(hr:Sh.Rd w (.slice a key.length cap) a cap key)(hk:key.length<=100000)(hm:MOk (s,x,z32)):
 Calls Tryd.prog 18 #[.slice a key.length cap,.int .i64 s,.agg (hdV x).toArray] w fun e w'=>e= .returned (.tuple #[.agg (mkV (mkM key s x)).toArray,.int .i64 (e160 (mayM (s,x,z32)))])∧Below w.heap.size w w':=by
 have HB1:=hid (bel_alc w (.cells (hdV x).toArray 27))
 have hbx:=heap_alc w (.cells (hdV x).toArray 27)
 have hsz:(w.alloc (.cells (hdV x).toArray 27)).heap.size=w.heap.size+1:=by simp
 obtain⟨W1,hW1⟩:∃W1,W1=w.alloc (.cells (hdV x).toArray 27):=⟨_,rfl⟩
 rw[<-hW1] at HB1 hbx hsz
 have HW1:=hid hW1
 have HHR:=hid (fun X (hX:Below W1.heap.size W1 X)=>blk_range (blk_later hbx hX))
 have HS1:=hid hsz
 have HHL:=hid (hdV_len hm.hd.len)
 have HCK:=hid (fun V=>ccheck_word (s,x,z32) V hm)
 have HSL:=hid (fun V (hV:Below w.heap.size w V) (q:mayM (s,x,z32)=true)=>cseal_word a cap key (s,x,z32) V (hL.later hV) (hr.later hV) hk hm q)
 have HLM:=hid (mkV_len hm)
 have HBU:Hid (Tryd.prog.built 45 [(0,.int .i64 s),(1,.agg (hdV x).toArray)]=some (mkV (s,x,z32)).toArray):=by
  obtain⟨n,k,d⟩:=x
  exact built45 s n k d hm.hd.len
 have HZ:=hid Tryd.zero45
 have HLZ:=hid (mkV_len mkZ_ok)
 have HSS:=hid (sealL_len key (s,x,z32))
 have HLS:Hid ((mkV (s,x,sealL key (s,x,z32))).length=67):=mkV_len ⟨hm.site,hm.hd,sealL_len _ _,sealL_u8 _ _⟩
 clear hbx hsz hW1 hL hr hk
 unfold mkM
 obtain⟨q,hq⟩:∃q,q=mayM (s,x,z32):=⟨_,rfl⟩
 rw[<-hq] at HCK HSL|-
 have HQ:=hid hq
 clear hq
 generalize sealL key (s,x,z32)=D at *
 go_enter Tryd.func18,Tryd.ntmps18
 go_wp2_with (first | refine wpList_alloc_W rfl 45 rfl (some 6) rfl _ HZ.out (w.heap.size+1) (by simp) ?_ | fail)
 intro W2 HG2 HB2 HS2
 rw[<-HW1.out] at HB2
 have HB2':Hid (Below W1.heap.size W1 W2):=by show Below _ _ _;rw[HS1.out];exact HB2.out
 have HR2:=hid (HHR.out _ HB2'.out)
 clear HB2
 obtain⟨g2,hg2⟩:∃g2,g2=W2.heap.size:=⟨_,rfl⟩
 have HGE:Hid (w.heap.size+1<g2):=by show _<_;rw[hg2,HS2.out];exact Nat.lt_succ_self _
 have HGQ:=hid hg2
 clear hg2
 go_wp2_with (first | refine wpList_load_P rfl 27 _ rfl w.heap.size 0 rfl (hdV x) _ HR2.out Tryd.underlying27 rfl (by rw[HHL.out];exact Tryd.size27) ?_ | (refine wpList_buildTo rfl 45 _ rfl (some 12) rfl (mkV (s,x,z32)).toArray (Eq.trans (congrArg (Tryd.prog.built 45) (by first | rfl | simp[go_sem])) HBU.out) ?_;refine wpList_alloc_W rfl 45 rfl (some 8) rfl _ HZ.out g2 HGQ.out ?_) | fail)
 intro W3 HG3 HB3 HS3
 go_wp2_with (first | refine wpList_store_W rfl 45 _ _ rfl rfl g2 (mkV (s,x,z32)).toArray rfl rfl 45 _ HG3.out (by rw[List.size_toArray,HLM.out];exact Tryd.size45) (by rw[List.size_toArray,List.size_toArray,HLM.out,HLZ.out]) (all_oneCell_toArray (mkV_one _)) ?_ | fail)
 intro W4 HG4 HGR4 HS4
 have HB4:Hid (Below W2.heap.size W2 W4):=by
  show Below _ _ _
  rw[<-HGQ.out]
  exact HB3.out.trans (bel_grown HGR4.out (Nat.le_refl _) (by rw[HGQ.out];exact HB3.out.size))
 have HW4:Hid (Below w.heap.size w W4):=Bn (Bn HB1.out HB2'.out) HB4.out
 have HO4:=hid (blk_later HG2.out HB4.out)
 clear HG3 HB3 HS3 HGR4 HS4 HB4 HGQ HG2 HR2 HB2' HS2
 have HR4:=hid (blk_range HG4.out)
 go_wp2_with (first | refine wpList_load_P rfl 45 _ rfl g2 0 rfl (mkV (s,x,z32)) _ HR4.out Tryd.underlying45 rfl (by rw[HLM.out];exact Tryd.size45) ?_ | fail)
 refine(HCK.out W4).mono ?_
 rintro _ W5 ⟨rfl,hb5⟩
 have HW5:=hid (Bn HW4.out hb5)
 have HO5:=hid (blk_later HO4.out hb5)
 have HG5:=hid (blk_later HG4.out hb5)
 have HR5:=hid (blk_range HG5.out)
 clear hb5 HW4 HO4 HG4 HR4
 cases q
 ·go_wp2_with (first | refine wpList_buildTo rfl 45 _ rfl (some 17) rfl (mkV mkZ).toArray (by kernel_rfl) ?_ | refine wpList_store_W rfl 45 _ _ rfl rfl (w.heap.size+1) (mkV mkZ).toArray rfl rfl 45 _ HO5.out Tryd.size45 rfl (all_oneCell_toArray (mkV_one _)) ?_ | fail)
  intro W6 HG6 HGR6 HS6
  have HW6:Hid (Below w.heap.size w W6):=HW5.out.trans (bel_grown HGR6.out (Nat.le_succ _) HW5.out.size)
  go_wp2
  refine bodyPost_ret (results_row_tmp rfl _ _ (w.heap.size+1) _ rfl (run_loadVar_mid _ _ 0 45 _ _ (blk_range HG6.out) Tryd.underlying45 rfl (by rw[HLZ.out];exact Tryd.size45))) rfl ?_
  exact⟨rfl,HW6.out⟩
 ·go_wp2_with (first | refine wpList_load_P rfl 45 _ rfl g2 0 rfl (mkV (s,x,z32)) _ HR5.out Tryd.underlying45 rfl (by rw[HLM.out];exact Tryd.size45) ?_ | fail)
  refine(HSL.out W5 HW5.out trivial).mono ?_
  rintro _ W6 ⟨rfl,hb6⟩
  have HW6:=hid (Bn HW5.out hb6)
  have HO6:=hid (blk_later HO5.out hb6)
  have HG6:Hid (W6.heap[g2]?=some (.cells ((Value.int .i64 s::hdV x)++z32.map (Value.int .u8)++ []).toArray 45)):=by
   show _=_
   rw[<-mkV_apart]
   exact blk_later HG5.out hb6
  clear hb6 HW5 HO5 HG5 HR5 HSL HCK
  have HAL:Hid ((Value.int .i64 s::hdV x).length=35):=by show _=_;rw[List.length_cons,HHL.out]
  go_wp2_with (first | refine wpList_store_Z rfl 25 _ _ rfl rfl g2 35 (Value.int .i64 s::hdV x) (z32.map (Value.int .u8)) [] 45 (D.map (Value.int .u8)) rfl rfl HAL.out HG6.out (by rw[List.length_map,List.length_map,HSS.out];rfl) (by rw[List.length_map,HSS.out];exact Tryd.size25) (fun v hv=>by obtain⟨z,_,rfl⟩:=List.mem_map.1 hv;rfl) ?_ | fail)
  intro W7 HG7 HGR7
  rw[<-mkV_apart] at HG7
  have HW7:Hid (Below w.heap.size w W7):=HW6.out.trans (bel_grown HGR7.out (by have:=HGE.out;omega) HW6.out.size)
  have HO7:Hid (W7.heap[w.heap.size+1]?=some (.cells (mkV mkZ).toArray 45)):=(HGR7.out.block _ (blk_lt HO6.out) (fun e=>by injection e with e;have:=HGE.out;omega)).trans HO6.out
  have HR7:=hid (blk_range HG7.out)
  clear HG6 HO6 HW6 HGR7
  go_wp2_with (first | refine wpList_load_P rfl 45 _ rfl g2 0 rfl (mkV (s,x,D)) _ HR7.out Tryd.underlying45 rfl (by rw[HLS.out];exact Tryd.size45) ?_ | refine wpList_store_W rfl 45 _ _ rfl rfl (w.heap.size+1) (mkV (s,x,D)).toArray rfl rfl 45 _ HO7.out (by rw[List.size_toArray,HLS.out];exact Tryd.size45) (by rw[List.size_toArray,List.size_toArray,HLS.out,HLZ.out]) (all_oneCell_toArray (mkV_one _)) ?_ | fail)
  intro W8 HG8 HGR8 HS8
  have HW8:Hid (Below w.heap.size w W8):=HW7.out.trans (bel_grown HGR8.out (Nat.le_succ _) HW7.out.size)
  go_wp2
  refine bodyPost_ret (results_row_tmp rfl _ _ (w.heap.size+1) _ rfl (run_loadVar_mid _ _ 0 45 _ _ (blk_range HG8.out) Tryd.underlying45 rfl (by rw[HLS.out];exact Tryd.size45))) rfl ?_
  exact⟨rfl,HW8.out⟩
end Go.Proofs.YtplinkmagnihmaaDoor
