/-
  CheckPrefix is proved for every input, as a tied card: two catalogues that an audit finds good by one mark have alike records up to it, or two unlike records with one chain; no condition.
-/
import Derived.Test.YtplinkmagnihmaaDoorCkJk
namespace Go.Proofs.YtplinkmagnihmaaDoor.checkPrefix
open Go.ChangeShapes Go.WideShapes Go.ChangeAt Go.RowKit Go.Deep Go.Lib
theorem take_300(l:List Nat):(l.take 300).length<=100000:=by rw[List.length_take];omega
set_option maxHeartbeats 25600000 in
set_option maxRecDepth 100000 in
theorem walk(ka:Option Addr)(kc:Nat)(key0:List Nat)(ra:Option Addr)(rc:Nat)(a0:List Rec)(rb:Option Addr)(rd:Nat)(b0:List Rec)(made:Bool)(m0:Mrk)(s0:Int)(ws:(Lit.int .u8 s0).wf=true)(w:World)(hL:Sh.Laid w)(hk:Sh.Rd w (.slice ka key0.length kc) ka kc key0)
 (hra:Rr w ra rc a0) (hrb:Rr w rb rd b0) (hm0:MOk m0) :
 Calls Tryd.prog 6 #[.slice ka key0.length kc,.slice ra a0.length rc,.slice rb b0.length rd,.bool made,.agg (mkV m0).toArray,.int .u8 s0] w fun e w'=>e= .returned (.bool true)∧Below w.heap.size w w':=by
 have hs0:=wf_u8 ws
 obtain⟨s,rfl⟩:=Int.eq_ofNat_of_zero_le hs0.1
 have hs5:s<=255:=by omega
 have HB1:=hid (bel_alc w (.cells (mkV m0).toArray 45))
 have hbx:=heap_alc w (.cells (mkV m0).toArray 45)
 have HS1:Hid ((w.alloc (.cells (mkV m0).toArray 45)).heap.size=w.heap.size+1):=by show _=_;simp
 obtain⟨U1,hU1⟩:∃U1,U1=w.alloc (.cells (mkV m0).toArray 45):=⟨_,rfl⟩
 rw[<-hU1] at HB1 hbx HS1
 have HU1:=hid hU1
 have HBX:=hid hbx
 have HLA:=hid hL
 have HAW:=hid (awake_word U1 (hL.later HB1.out))
 obtain⟨key,hkey⟩:∃key,key=key0.take 300:=⟨_,rfl⟩
 have HKF:Hid (key.length<=100000):=by show _<=_;rw[hkey];exact take_300 key0
 have HKR:Hid (Sh.Rd w (.slice ka key.length kc) ka kc key):=by show Sh.Rd _ _ _ _ _;rw[hkey];exact hk.take 300
 have HCT:=hid (fun V (hV:Below w.heap.size w V)=>ccut_word ka kc key0 V (hk.later hV))
 rw[<-hkey] at HCT
 have HFA:=hid (fun V (hV:Below w.heap.size w V)=>few2 ra rc a0 V (hra.later hV))
 have HFB:=hid (fun V (hV:Below w.heap.size w V)=>few2 rb rd b0 V (hrb.later hV))
 have hva:∀r∈firL a0,Rv w r∧r.ps.length<=60:=fun r q=>⟨hra.fits _ (firL_mem q),firL_ok q⟩
 have hvb:∀r∈firL b0,Rv w r∧r.ps.length<=60:=fun r q=>⟨hrb.fits _ (firL_mem q),firL_ok q⟩
 have hla:=firL_le a0
 have hlb:=firL_le b0
 obtain⟨A,hA⟩:∃A,A=firL a0:=⟨_,rfl⟩
 obtain⟨B,hB⟩:∃B,B=firL b0:=⟨_,rfl⟩
 rw[<-hA] at HFA hva hla
 rw[<-hB] at HFB hvb hlb
 have HVA:=hid hva
 have HVB:=hid hvb
 have HLA30:=hid hla
 have HLB30:=hid hlb
 have HML:=hid (mkV_len hm0)
 have HM0:=hid hm0
 obtain⟨kn,hkn⟩:∃k,k=key.length:=⟨_,rfl⟩
 obtain⟨kn0,hkn0⟩:∃k,k=key0.length:=⟨_,rfl⟩
 obtain⟨i45,hi45,hz45,hs45,_⟩:=info_parts Tryd.info45
 have HMW:=hid (fun V (x:Hd) (hV:Below w.heap.size w V) (hm:MOk ((0:Int),x,z32))=>cmake_word ka kc key 0 x V (HLA.out.later hV) (HKR.out.later hV) HKF.out hm)
 have HAU:=hid (fun(V:World) (l:List Rec) (a:Option Addr) (c:Nat) (M:Mrk) (N:Nat) (hV:Below w.heap.size w V) (hrr:Rr V a c l) (hn:∀r∈l,r.ps.length<=60) (hle:l.length<=30) (hM:MOk M) (hN:V.heap[N]?=some (.cells (mkV M).toArray 45))=>
  aud_word ka kc key a c l (some ⟨N,0,none⟩) 1 [M] V (HLA.out.later hV) (HKR.out.later hV) HKF.out hrr hn hle (Rw.one hN) (fun m hm=>by rw[List.mem_singleton.1 hm];exact hM) (by simp))
 rw[<-hkn0,<-hkn] at HCT
 rw[<-hkn] at HMW HAU
 rw[<-hkn0]
 generalize a0.length=an0 at *
 generalize b0.length=bn0 at *
 have HZ27:=hid Tryd.zero27
 have HZ45:=hid Tryd.zero45p
 clear hL hk hra hrb hm0 hkey hA hB hkn hkn0 hU1 hbx hva hvb hla hlb hs0 ws
 go_enter Tryd.func6,Tryd.ntmps6
 go_wp2_with fail
 rw[<-HU1.out]
 refine HAW.out.mono ?_
 rintro _ V1 ⟨rfl,hb1⟩
 have HBV1:=hid hb1
 have HBW1:=hid (Bn HB1.out hb1)
 have HX1:=hid (blk_later HBX.out hb1)
 have HSZ1:Hid (w.heap.size<V1.heap.size):=blk_lt HX1.out
 clear hb1 HAW
 go_wp2_with fail
 refine(HCT.out V1 HBW1.out).mono ?_
 rintro _ w0 ⟨rfl,hw⟩
 obtain rfl:=hw.symm
 clear hw HCT
 go_wp2_with fail
 refine(HFA.out V1 HBW1.out).mono ?_
 rintro _ V2 ⟨aa,ca,rfl,hra2,hab,hb2⟩
 have HBW2:=hid (Bn HBW1.out hb2)
 have HRA2:=hid hra2
 have HAB:Hid (∀b off,aa=some ⟨b,off,none⟩->b≠w.heap.size):=fun b off e=>by have:=hab b off e;have:=HSZ1.out;omega
 have HX2:=hid (blk_later HX1.out hb2)
 have HSZ2:Hid (w.heap.size<V2.heap.size):=blk_lt HX2.out
 clear hra2 hab hb2 HFA HX1
 go_wp2_with fail
 refine(HFB.out V2 HBW2.out).mono ?_
 rintro _ V3 ⟨ab,cb,rfl,hrb2,hbb,hb3⟩
 have HBW3:=hid (Bn HBW2.out hb3)
 have HRA3:=hid (HRA2.out.later hb3)
 have HRB3:=hid hrb2
 have HBB:Hid (∀b off,ab=some ⟨b,off,none⟩->b≠w.heap.size):=fun b off e=>by have:=hbb b off e;have:=HSZ2.out;omega
 have HX3:=hid (blk_later HX2.out hb3)
 have HSZ3:Hid (w.heap.size<V3.heap.size):=blk_lt HX3.out
 clear hrb2 hbb hb3 HFB HX2 HRA2 HBW1 HBW2 HBV1 HSZ1 HSZ2
 cases made
 ·have HSAME:=hid trivial
  obtain⟨M,hM⟩:∃M,M=m0:=⟨_,rfl⟩
  rw[<-hM] at HX3 HM0 HML
  clear hM
  obtain⟨q1,hq1⟩:∃g,g=V3.heap.size:=⟨_,rfl⟩
  have HQ1:=hid hq1
  have HRM:=hid (blk_range HX3.out)
  clear hq1
  go_wp2_with (first | refine wpList_load_P rfl 45 _ rfl w.heap.size 0 rfl (mkV M) _ HRM.out Tryd.underlying45 rfl (by rw[HML.out];exact Tryd.size45) ?_ | refine wpList_buildOne_gW rfl 28 45 _ rfl (some 58) rfl (mkV M).toArray i45 _ Tryd.underlying28 hi45 hz45 (by rw[hs45,List.size_toArray,HML.out]) (by rw[List.size_toArray,HML.out];decide) (by rw[List.size_toArray,HML.out];decide) rfl q1 HQ1.out ?_ | fail)
  intro X1 HN1 HBl1
  rw[HQ1.out] at HBl1
  have HBX1:=hid (Bn HBW3.out HBl1.out)
  have HXA1:=hid (HRA3.out.later HBl1.out)
  have HXB1:=hid (HRB3.out.later HBl1.out)
  have HXM1:=hid (blk_later HX3.out HBl1.out)
  clear HBl1 HRM HQ1 HRA3 HRB3 HX3 HBW3
  go_wp2_with fail
  refine(HAU.out X1 A aa ca M q1 HBX1.out HXA1.out (fun r q=>(HVA.out r q).2) HLA30.out HM0.out HN1.out).mono ?_
  rintro _ X2 ⟨rfl,hb2⟩
  have HBX2:=hid (Bn HBX1.out hb2)
  have HXA2:=hid (HXA1.out.later hb2)
  have HXB2:=hid (HXB1.out.later hb2)
  have HXM2:=hid (blk_later HXM1.out hb2)
  have HGA:=hid (fun(h:(audR key A [M]).1=6)=>good_has h)
  generalize (audR key A [M]).1=f1 at *
  generalize (audR key A [M]).2.1=f2 at *
  generalize (audR key A [M]).2.2=f3 at *
  clear hb2 HBX1 HXA1 HXB1 HXM1 HN1
  have hfl1:=field40 f1 f2 f3
  by_cases h6:f1=6
  ·obtain⟨q2,hq2⟩:∃g,g=X2.heap.size:=⟨_,rfl⟩
   have HQ2:=hid hq2
   have HRM:=hid (blk_range HXM2.out)
   have HGA2:=hid (HGA.out h6)
   subst h6
   clear hq2 HGA
   go_wp2_with (first | refine wpList_load_g rfl 45 _ rfl w.heap.size 0 rfl (mkV M) _ HRM.out Tryd.underlying45 rfl (by rw[HML.out];exact Tryd.size45) ?_ | refine wpList_buildOne_gW rfl 28 45 _ rfl (some 66) rfl (mkV M).toArray i45 _ Tryd.underlying28 hi45 hz45 (by rw[hs45,List.size_toArray,HML.out]) (by rw[List.size_toArray,HML.out];decide) (by rw[List.size_toArray,HML.out];decide) rfl q2 HQ2.out ?_ | fail)
   intro X3 HN3 HBl3
   rw[HQ2.out] at HBl3
   have HBX3:=hid (Bn HBX2.out HBl3.out)
   have HXA3:=hid (HXA2.out.later HBl3.out)
   have HXB3:=hid (HXB2.out.later HBl3.out)
   have HXM3:=hid (blk_later HXM2.out HBl3.out)
   clear HBl3 HRM HQ2 HBX2 HXA2 HXB2 HXM2
   go_wp2_with fail
   refine(HAU.out X3 B ab cb M q2 HBX3.out HXB3.out (fun r q=>(HVB.out r q).2) HLB30.out HM0.out HN3.out).mono ?_
   rintro _ X4 ⟨rfl,hb4⟩
   have HBX4:=hid (Bn HBX3.out hb4)
   have HXA4:=hid (HXA3.out.later hb4)
   have HXB4:=hid (HXB3.out.later hb4)
   have HXM4:=hid (blk_later HXM3.out hb4)
   have HGB:=hid (fun(h:(audR key B [M]).1=6)=>good_has h)
   generalize (audR key B [M]).1=e1 at *
   generalize (audR key B [M]).2.1=e2 at *
   generalize (audR key B [M]).2.2=e3 at *
   clear hb4 HBX3 HXA3 HXB3 HXM3 HN3 HAU
   have hfl2:=field40 e1 e2 e3
   by_cases h7:e1=6
   ·have ga:=HGA2.out.2 0 (by simp)
    have gb:=(HGB.out h7).2 0 (by simp)
    have hda:=ga.2
    have hdb:=gb.2
    unfold dhasB at hda hdb
    simp only[Bool.and_eq_true,decide_eq_true_eq] at hda hdb
    have c0:=hd_seq (mk_hd (blk_range HXM4.out))
    have hms:([M]:List Mrk).getD 0 mkZ=M:=rfl
    rw[hms] at hda hdb
    obtain⟨n,hn⟩:∃n:Nat,M.2.1.1=(n:Int):=⟨M.2.1.1.toNat,by omega⟩
    rw[hn] at c0
    rw[hn,Int.toNat_natCast] at hda hdb
    have hnA:n<=A.length:=by omega
    have hnB:n<=B.length:=by omega
    have hzA:¬((A.length:Int)<(n:Int)):=by omega
    have hzB:¬((B.length:Int)<(n:Int)):=by omega
    have hzA2:¬A.length<n:=by omega
    have hzB2:¬B.length<n:=by omega
    have HW0:Hid ((wlk hdZ (A.take n) 0).2.2=0∧(wlk hdZ (B.take n) 0).2.2=0∧(wlk hdZ (A.take n) 0).1.2.2=(wlk hdZ (B.take n) 0).1.2.2):=⟨hda.2.1,hdb.2.1,by rw[hda.2.2,hdb.2.2]⟩
    have hn30:n<=30:=Nat.le_trans hnA HLA30.out
    subst h7
    clear ga gb hda hdb hms hn HGA2 HGB HXM4
    have HSA:=hid (fun r q=>(HVA.out r q).1.psOk)
    have HSB:=hid (fun r q=>(HVB.out r q).1.psOk)
    go_wp2
    go_loopw [18] (fun x18 wr=>∃(k:Nat) (i:Int),k<=n∧x18= .int .i64 i∧i=(k:Int)-1∧Hid ((wlk hdZ (A.take k) 0).2.2=0∧(wlk hdZ (B.take k) 0).2.2=0∧(wlk hdZ (A.take k) 0).1.2.2=(wlk hdZ (B.take k) 0).1.2.2)∧Hid (Below X4.heap.size X4 wr)) (fun x18 _=>(RowKit.intOf x18+1).toNat)
    case atStart=>exact⟨n,(n:Int)-1,by omega,by go_num,rfl,HW0.out,Below.refl _ _⟩
    case round=>
     obtain⟨k,i,hk,rfl,hi0,HW,HB⟩:=hrel
     by_cases hk0:0<k
     ·obtain⟨j,rfl⟩:∃j,k=j+1:=⟨k-1,by omega⟩
      have hij:i=(j:Int):=by omega
      subst hij
      clear hi0
      have hjA:j<A.length:=by omega
      have hjB:j<B.length:=by omega
      have hjzA:(j:Int)<(A.length:Int):=by omega
      have hjzB:(j:Int)<(B.length:Int):=by omega
      obtain⟨b1,o1,rfl,hbw1,hcc1⟩:=HXA4.out.cells (by omega)
      obtain⟨b2,o2,rfl,hbw2,hcc2⟩:=HXB4.out.cells (by omega)
      have hx1:=hcc1 j hjA
      have hx2:=hcc2 j hjB
      have hv1:=HXA4.out.get hjA
      have hv2:=HXB4.out.get hjB
      have hp1:=(HVA.out _ (rec_mem hjA)).2
      have hp2:=(HVB.out _ (rec_mem hjB)).2
      have HPR:=hid (pre_step hjA hjB HW.out.1 HW.out.2.1 HW.out.2.2 HSA.out HSB.out)
      generalize A.getD j recZ=x at *
      generalize B.getD j recZ=y at *
      have HXL:=hid (Rec.cs_len hv1.len)
      have HYL:=hid (Rec.cs_len hv2.len)
      have HXR:=hid (fun X (hX:Below wr.heap.size wr X)=>range_later hx1 (Bn HB.out hX) hbw1)
      have HYR:=hid (fun X (hX:Below wr.heap.size wr X)=>range_later hx2 (Bn HB.out hX) hbw2)
      have HSM:=hid (fun X (hX:Below wr.heap.size wr X)=>dsame_word x y X (hv1.later (Bn HB.out hX)) (hv2.later (Bn HB.out hX)))
      have HTW:=hid (fun X (hX:Below wr.heap.size wr X)=>twice_word x y X (hv1.later (Bn HB.out hX)) (hv2.later (Bn HB.out hX)) (Nat.le_trans hp1 (by decide)) (Nat.le_trans hp2 (by decide)))
      clear hx1 hx2 hv1 hv2 hcc1 hcc2 hbw1 hbw2 hp1 hp2 HW
      go_wp2_with fail
      refine wp_region_held_drew (S:=fun X=>Below wr.heap.size wr X) (by kernel_rfl) (Below.refl _ _).drew (fun hS_v0=>?_)
      have hd_v0:Below wr.heap.size wr wr.drew:=(Below.refl _ _).drew
      generalize wr.drew=v0 at *
      simp only[List.size_toArray,List.length_cons,List.length_nil,Nat.reduceAdd]
      clear hd_v0
      refine Ord.take (i:=0) (d:=93) (v:=?vSa0) rfl rfl (by as_aux_lemma=>kernel_rfl) (by as_aux_lemma=>kernel_rfl) (by as_aux_lemma=>kernel_rfl) (fun _ _ _ h=>h) (by rfl) ?hSa0 (by assumption) ?_
      case hSa0=>intro wx hSw;go_simp;try with_reducible rfl
      try simp only[List.setIfInBounds_toArray,List.set_cons_zero,List.set_cons_succ]
      refine Ord.take (i:=1) (d:=94) (v:=?vSa1) rfl rfl (by as_aux_lemma=>kernel_rfl) (by as_aux_lemma=>kernel_rfl) (by as_aux_lemma=>kernel_rfl) (fun _ _ _ h=>h) (by rfl) ?hSa1 (by assumption) ?_
      case hSa1=>intro wx hSw;go_simp;try with_reducible rfl
      try simp only[List.setIfInBounds_toArray,List.set_cons_zero,List.set_cons_succ]
      refine Ord.take (i:=2) (d:=95) (v:=?vSa2) rfl rfl (by as_aux_lemma=>kernel_rfl) (by as_aux_lemma=>kernel_rfl) (by as_aux_lemma=>kernel_rfl) (fun _ _ _ h=>h) (by rfl) ?hSa2 (by assumption) ?_
      case hSa2=>intro wx hSw;go_simp;try with_reducible rfl
      try simp only[List.setIfInBounds_toArray,List.set_cons_zero,List.set_cons_succ]
      refine Ord.take (i:=3) (d:=96) (v:= .agg x.cs.toArray) rfl rfl (by as_aux_lemma=>kernel_rfl) (by as_aux_lemma=>kernel_rfl) (by as_aux_lemma=>kernel_rfl) (fun _ _ _ h=>h) (by rfl) ?hSa3 (by assumption) ?_
      case hSa3=>intro wx hSw;exact exec_load 58 (.tmp 95) rfl b1 (o1+j*38) rfl (run_loadVar_mid wx b1 (o1+j*38) 58 x.cs _ (HXR.out _ hSw) Tryd.underlying58 rfl (by rw[HXL.out];exact Tryd.size58))
      try simp only[List.setIfInBounds_toArray,List.set_cons_zero,List.set_cons_succ]
      refine Ord.take (i:=4) (d:=97) (v:=?vSa4) rfl rfl (by as_aux_lemma=>kernel_rfl) (by as_aux_lemma=>kernel_rfl) (by as_aux_lemma=>kernel_rfl) (fun _ _ _ h=>h) (by rfl) ?hSa4 (by assumption) ?_
      case hSa4=>intro wx hSw;go_simp;try with_reducible rfl
      try simp only[List.setIfInBounds_toArray,List.set_cons_zero,List.set_cons_succ]
      refine Ord.take (i:=5) (d:=98) (v:=?vSa5) rfl rfl (by as_aux_lemma=>kernel_rfl) (by as_aux_lemma=>kernel_rfl) (by as_aux_lemma=>kernel_rfl) (fun _ _ _ h=>h) (by rfl) ?hSa5 (by assumption) ?_
      case hSa5=>intro wx hSw;go_simp;try with_reducible rfl
      try simp only[List.setIfInBounds_toArray,List.set_cons_zero,List.set_cons_succ]
      refine Ord.take (i:=6) (d:=99) (v:=?vSa6) rfl rfl (by as_aux_lemma=>kernel_rfl) (by as_aux_lemma=>kernel_rfl) (by as_aux_lemma=>kernel_rfl) (fun _ _ _ h=>h) (by rfl) ?hSa6 (by assumption) ?_
      case hSa6=>intro wx hSw;go_simp;try with_reducible rfl
      try simp only[List.setIfInBounds_toArray,List.set_cons_zero,List.set_cons_succ]
      refine Ord.take (i:=7) (d:=100) (v:= .agg y.cs.toArray) rfl rfl (by as_aux_lemma=>kernel_rfl) (by as_aux_lemma=>kernel_rfl) (by as_aux_lemma=>kernel_rfl) (fun _ _ _ h=>h) (by rfl) ?hSa7 (by assumption) ?_
      case hSa7=>intro wx hSw;exact exec_load 58 (.tmp 99) rfl b2 (o2+j*38) rfl (run_loadVar_mid wx b2 (o2+j*38) 58 y.cs _ (HYR.out _ hSw) Tryd.underlying58 rfl (by rw[HYL.out];exact Tryd.size58))
      try simp only[List.setIfInBounds_toArray,List.set_cons_zero,List.set_cons_succ]
      refine wpAnyH_ready (rs:= [8]) (by as_aux_lemma=>kernel_rfl) (by simp) (AllReadyH.cons rfl (fun K hK=>?_) AllReadyH.nil)
      go_simp
      go_simp
      refine(HSM.out v0 hS_v0).mono ?_
      rintro _ v1 ⟨rfl,hb_v1⟩
      have hS_v1:Below wr.heap.size wr v1:=Bn hS_v0 hb_v1
      clear hb_v1
      refine hK.out _ _ hS_v1 (fun _=>?_)
      clear hK K
      try simp only[List.setIfInBounds_toArray,List.set_cons_zero,List.set_cons_succ]
      try simp only[List.setIfInBounds_toArray,List.set_cons_zero,List.set_cons_succ]
      refine Ord.take (i:=9) (d:=102) (v:= .bool (!sameB x y)) rfl rfl (by as_aux_lemma=>kernel_rfl) (by as_aux_lemma=>kernel_rfl) (by as_aux_lemma=>kernel_rfl) (fun _ _ _ h=>h) (by rfl) ?hSa9 (by assumption) ?_
      case hSa9=>intro wx hSw;go_simp;try with_reducible rfl
      try simp only[List.setIfInBounds_toArray,List.set_cons_zero,List.set_cons_succ]
      refine wpAnyH_done (by as_aux_lemma=>kernel_rfl) ?_ _
      have HS9:=hid hS_v1
      clear hS_v0 hS_v1
      rcases HPR.out with ⟨hsb,hw1,hw2,hw3⟩ | ⟨hsb,htw⟩
      ·rw[hsb]
       have HWN:=hid (And.intro hw1 (And.intro hw2 hw3))
       have HBN:=hid (Bn HB.out HS9.out)
       clear hsb hw1 hw2 hw3 HPR
       go_wp2
       go_round
       case rel=>first | exact⟨j,(j:Int)-1,by omega,by go_num,rfl,HWN.out,HBN.out⟩ | exact⟨_,_,_,_,_,_,_,_,_,_,_,_,_,_,_,_,_,_,_,_,_,_,_,_,_,⟨j,(j:Int)-1,by omega,by go_num,rfl,HWN.out,HBN.out⟩,rfl⟩
       case measure=>first | (simp[RowKit.intOf];done) | (simp[RowKit.intOf];omega)
      ·rw[hsb]
       have HTW2:=hid htw
       have HXQ:=hid (fun X (hX:Below v1.heap.size v1 X)=>HXR.out X (Bn HS9.out hX))
       have HYQ:=hid (fun X (hX:Below v1.heap.size v1 X)=>HYR.out X (Bn HS9.out hX))
       have HTQ:=hid (fun X (hX:Below v1.heap.size v1 X)=>HTW.out X (Bn HS9.out hX))
       rw[HTW2.out] at HTQ
       clear hsb htw HPR HXR HYR HTW
       go_wp2_with fail
       refine wp_region_held_drew (S:=fun X=>Below v1.heap.size v1 X) (by kernel_rfl) (Below.refl _ _).drew (fun hS_u0=>?_)
       have hd_u0:Below v1.heap.size v1 v1.drew:=(Below.refl _ _).drew
       generalize v1.drew=u0 at *
       simp only[List.size_toArray,List.length_cons,List.length_nil,Nat.reduceAdd]
       clear hd_u0
       refine Ord.take (i:=0) (d:=103) (v:=?vTa0) rfl rfl (by as_aux_lemma=>kernel_rfl) (by as_aux_lemma=>kernel_rfl) (by as_aux_lemma=>kernel_rfl) (fun _ _ _ h=>h) (by rfl) ?hTa0 (by assumption) ?_
       case hTa0=>intro wx hSw;go_simp;try with_reducible rfl
       try simp only[List.setIfInBounds_toArray,List.set_cons_zero,List.set_cons_succ]
       refine Ord.take (i:=1) (d:=104) (v:=?vTa1) rfl rfl (by as_aux_lemma=>kernel_rfl) (by as_aux_lemma=>kernel_rfl) (by as_aux_lemma=>kernel_rfl) (fun _ _ _ h=>h) (by rfl) ?hTa1 (by assumption) ?_
       case hTa1=>intro wx hSw;go_simp;try with_reducible rfl
       try simp only[List.setIfInBounds_toArray,List.set_cons_zero,List.set_cons_succ]
       refine Ord.take (i:=2) (d:=105) (v:=?vTa2) rfl rfl (by as_aux_lemma=>kernel_rfl) (by as_aux_lemma=>kernel_rfl) (by as_aux_lemma=>kernel_rfl) (fun _ _ _ h=>h) (by rfl) ?hTa2 (by assumption) ?_
       case hTa2=>intro wx hSw;go_simp;try with_reducible rfl
       try simp only[List.setIfInBounds_toArray,List.set_cons_zero,List.set_cons_succ]
       refine Ord.take (i:=3) (d:=106) (v:= .agg x.cs.toArray) rfl rfl (by as_aux_lemma=>kernel_rfl) (by as_aux_lemma=>kernel_rfl) (by as_aux_lemma=>kernel_rfl) (fun _ _ _ h=>h) (by rfl) ?hTa3 (by assumption) ?_
       case hTa3=>intro wx hSw;exact exec_load 58 (.tmp 105) rfl b1 (o1+j*38) rfl (run_loadVar_mid wx b1 (o1+j*38) 58 x.cs _ (HXQ.out _ hSw) Tryd.underlying58 rfl (by rw[HXL.out];exact Tryd.size58))
       try simp only[List.setIfInBounds_toArray,List.set_cons_zero,List.set_cons_succ]
       refine Ord.take (i:=4) (d:=107) (v:=?vTa4) rfl rfl (by as_aux_lemma=>kernel_rfl) (by as_aux_lemma=>kernel_rfl) (by as_aux_lemma=>kernel_rfl) (fun _ _ _ h=>h) (by rfl) ?hTa4 (by assumption) ?_
       case hTa4=>intro wx hSw;go_simp;try with_reducible rfl
       try simp only[List.setIfInBounds_toArray,List.set_cons_zero,List.set_cons_succ]
       refine Ord.take (i:=5) (d:=108) (v:=?vTa5) rfl rfl (by as_aux_lemma=>kernel_rfl) (by as_aux_lemma=>kernel_rfl) (by as_aux_lemma=>kernel_rfl) (fun _ _ _ h=>h) (by rfl) ?hTa5 (by assumption) ?_
       case hTa5=>intro wx hSw;go_simp;try with_reducible rfl
       try simp only[List.setIfInBounds_toArray,List.set_cons_zero,List.set_cons_succ]
       refine Ord.take (i:=6) (d:=109) (v:=?vTa6) rfl rfl (by as_aux_lemma=>kernel_rfl) (by as_aux_lemma=>kernel_rfl) (by as_aux_lemma=>kernel_rfl) (fun _ _ _ h=>h) (by rfl) ?hTa6 (by assumption) ?_
       case hTa6=>intro wx hSw;go_simp;try with_reducible rfl
       try simp only[List.setIfInBounds_toArray,List.set_cons_zero,List.set_cons_succ]
       refine Ord.take (i:=7) (d:=110) (v:= .agg y.cs.toArray) rfl rfl (by as_aux_lemma=>kernel_rfl) (by as_aux_lemma=>kernel_rfl) (by as_aux_lemma=>kernel_rfl) (fun _ _ _ h=>h) (by rfl) ?hTa7 (by assumption) ?_
       case hTa7=>intro wx hSw;exact exec_load 58 (.tmp 109) rfl b2 (o2+j*38) rfl (run_loadVar_mid wx b2 (o2+j*38) 58 y.cs _ (HYQ.out _ hSw) Tryd.underlying58 rfl (by rw[HYL.out];exact Tryd.size58))
       try simp only[List.setIfInBounds_toArray,List.set_cons_zero,List.set_cons_succ]
       refine wpAnyH_ready (rs:= [8]) (by as_aux_lemma=>kernel_rfl) (by simp) (AllReadyH.cons rfl (fun K hK=>?_) AllReadyH.nil)
       go_simp
       go_simp
       refine(HTQ.out u0 hS_u0).mono ?_
       rintro _ u1 ⟨rfl,hb_u1⟩
       have hS_u1:Below v1.heap.size v1 u1:=Bn hS_u0 hb_u1
       clear hb_u1
       refine hK.out _ _ hS_u1 (fun _=>?_)
       clear hK K
       try simp only[List.setIfInBounds_toArray,List.set_cons_zero,List.set_cons_succ]
       try simp only[List.setIfInBounds_toArray,List.set_cons_zero,List.set_cons_succ]
       refine Ord.take (i:=9) (d:=12) (v:=?vTa9) rfl rfl (by as_aux_lemma=>kernel_rfl) (by as_aux_lemma=>kernel_rfl) (by as_aux_lemma=>kernel_rfl) (fun _ _ _ h=>h) (by rfl) ?hTa9 (by assumption) ?_
       case hTa9=>intro wx hSw;go_simp;try with_reducible rfl
       try simp only[List.setIfInBounds_toArray,List.set_cons_zero,List.set_cons_succ]
       refine wpAnyH_done (by as_aux_lemma=>kernel_rfl) ?_ _
       have HS8:=hid hS_u1
       clear hS_u0 hS_u1
       have HBE:=hid (Bn HBX4.out (Bn (Bn HB.out HS9.out) HS8.out))
       go_wp2
       go_ret
       exact⟨rfl,HBE.out⟩
     ·have hk2:k=0:=by omega
      subst hk2
      have hi1:i= -1:=by omega
      subst hi1
      have HBE:=hid (Bn HBX4.out HB.out)
      clear hi0
      go_wp2
      go_ret
      exact⟨rfl,HBE.out⟩
   ·clear HGA2 HGB
    go_wp2
    go_ret
    exact⟨rfl,HBX4.out⟩
  ·clear HGA
   go_wp2
   go_ret
   exact⟨rfl,HBX2.out⟩
 ·obtain⟨n1,hn1⟩:∃n,n=A.length:=⟨_,rfl⟩
  obtain⟨n2,hn2⟩:∃n,n=B.length:=⟨_,rfl⟩
  have HCA:=hid (chain_word w aa ca A V3 HBW3.out (fun r q=>(HVA.out r q).1) HRA3.out)
  have HCB:=hid (fun V (hV:Below V3.heap.size V3 V)=>chain_word w ab cb B V (Bn HBW3.out hV) (fun r q=>(HVB.out r q).1) (HRB3.out.later hV))
  rw[<-hn1] at HCA|-
  rw[<-hn2] at HCB|-
  clear hn1 hn2 HVA HVB HRA3 HRB3 HAB HBB HLA30 HLB30
  clear A B
  go_wp2_with fail
  refine HCA.out.mono ?_
  rintro _ V4 ⟨a4,c4,A,rfl,hra4,hwa,hva4,hla4,hab4,hb4⟩
  have HRA4:=hid hra4
  have HWA:=hid hwa
  have HVA:=hid hva4
  have HLA30:=hid hla4
  have HAB:Hid (∀b off,a4=some ⟨b,off,none⟩->b≠w.heap.size):=fun b off e=>by have:=hab4 b off e;have:=HSZ3.out;omega
  have HB34:=hid hb4
  have HBW4:=hid (Bn HBW3.out hb4)
  have HX4:=hid (blk_later HX3.out hb4)
  have HSZ4:Hid (w.heap.size<V4.heap.size):=blk_lt HX4.out
  clear hra4 hwa hva4 hla4 hab4 hb4 HCA HX3
  go_wp2_with fail
  refine(HCB.out V4 HB34.out).mono ?_
  rintro _ V5 ⟨a5,c5,B,rfl,hrb5,hwb,hvb5,hlb5,hbb5,hb5⟩
  have HRB5:=hid hrb5
  have HVB:=hid hvb5
  have HLB30:=hid hlb5
  have HBB:Hid (∀b off,a5=some ⟨b,off,none⟩->b≠w.heap.size):=fun b off e=>by have:=hbb5 b off e;have:=HSZ4.out;omega
  have HRA5:=hid (HRA4.out.later hb5)
  have HBW5:=hid (Bn HBW4.out hb5)
  have HX5:=hid (blk_later HX4.out hb5)
  clear hrb5 hwb hvb5 hlb5 hbb5 hb5 HCB HX4 HRA4 HBW4 HB34 HSZ3 HSZ4 HBW3
  have hroomA:=HRA5.out.room
  have hmostA:=HRA5.out.most
  unfold maxLen at hmostA
  have hlaA:=HLA30.out
  obtain⟨p,hp⟩:∃p,p=s%(A.length+1):=⟨_,rfl⟩
  have hmod:=tmod_nat s A.length
  rw[<-hp] at hmod
  have hpA:p<=A.length:=by
   have:=Nat.mod_lt s (show 0<A.length+1 by omega)
   omega
  have hsl:=fun W=>slice_pre a4 A.length c4 p (Nat.le_trans hpA hroomA) W
  have hlt:(A.take p).length=p:=by rw[List.length_take];omega
  have HWK:=hid (show Calls Tryd.prog 22 #[.agg #[.int .i64 0,.int .i64 0,.int .u8 0,.int .u8 0,.int .u8 0,.int .u8 0,.int .u8 0,.int .u8 0,.int .u8 0,.int .u8 0,.int .u8 0,.int .u8 0,.int .u8 0,.int .u8 0,.int .u8 0,.int .u8 0,.int .u8 0,.int .u8 0,.int .u8 0,.int .u8 0,.int .u8 0,.int .u8 0,.int .u8 0,.int .u8 0,.int .u8 0,.int .u8 0,.int .u8 0,.int .u8 0,.int .u8 0,.int .u8 0,.int .u8 0,.int .u8 0,.int .u8 0,.int .u8 0],.slice a4 p c4] V5 (fun e w'=>e= .returned (.tuple #[.agg (hdV (wlk hdZ (A.take p) 0).1).toArray,.int .i64 ((wlk hdZ (A.take p) 0).2.1:Int),.int .i64 (wlk hdZ (A.take p) 0).2.2])∧Below V5.heap.size V5 w') from by
   have:=dwalk_word hdZ a4 c4 (A.take p) V5 rfl (HRA5.out.pre hpA) (fun r q=>Nat.le_trans (HVA.out r (List.mem_of_mem_take q)).2 (by decide))
   rw[hlt] at this
   exact this)
  have hhm:=head_may (0:Int) (.inl rfl) (A.take p) (fun r q=>(HVA.out r (List.mem_of_mem_take q)).1)
  obtain⟨x,hx⟩:∃x,x=(wlk hdZ (A.take p) 0).1:=⟨_,rfl⟩
  rw[<-hx] at HWK hhm
  generalize (wlk hdZ (A.take p) 0).2.1=y1 at *
  generalize (wlk hdZ (A.take p) 0).2.2=y2 at *
  have HMK:=hid hhm.1
  have HMY:=hid hhm.2
  have HXL:=hid (hdV_len hhm.1.hd.len)
  have HMO:Hid (MOk (mkM key 0 x)):=mkM_ok hhm.1 hhm.2
  obtain⟨M,hM⟩:∃M,M=mkM key 0 x:=⟨_,rfl⟩
  have HMQ:=hid hM
  rw[<-hM] at HMO
  have HML2:=hid (mkV_len HMO.out)
  have he0:e160 true=0:=rfl
  clear hhm hx hM hlt hp hlaA HWA
  have hA30:=HLA30.out
  go_wp2_with fail
  refine HWK.out.mono ?_
  rintro _ V6 ⟨rfl,hb6⟩
  have HRA6:=hid (HRA5.out.later hb6)
  have HRB6:=hid (HRB5.out.later hb6)
  have HX6:=hid (blk_later HX5.out hb6)
  have HBW6:=hid (Bn HBW5.out hb6)
  obtain⟨g7,hg7⟩:∃g,g=V6.heap.size:=⟨_,rfl⟩
  have HG7:=hid hg7
  clear hb6 hg7 HWK HRA5 HRB5 HX5 HBW5 hsl hmod
  go_wp2_with (first | refine wpList_alloc_W rfl 27 rfl (some 13) rfl _ HZ27.out g7 HG7.out ?_ | fail)
  intro V7 HA7 HBl7 HS7
  go_wp2_with (first | refine wpList_store_W rfl 27 _ _ rfl rfl g7 (hdV x).toArray rfl rfl 27 _ HA7.out (by rw[List.size_toArray,HXL.out];exact Tryd.size27h) (by simp only[List.size_toArray,HXL.out];rfl) (all_oneCell_toArray (show ∀u∈hdV x,u.oneCell'=true from hdL_one _ _ _)) ?_ | fail)
  intro V8 HA8 HGR8 HS8
  have HBU8:Hid (Below V6.heap.size V6 V8):=by
   show Below _ _ _
   rw[<-HG7.out]
   exact HBl7.out.trans (bel_grown HGR8.out (Nat.le_refl _) (by rw[HG7.out];exact HBl7.out.size))
  have HRA8:=hid (HRA6.out.later HBU8.out)
  have HRB8:=hid (HRB6.out.later HBU8.out)
  have HX8:=hid (blk_later HX6.out HBU8.out)
  have HBW8:=hid (Bn HBW6.out HBU8.out)
  have HR8:=hid (blk_range HA8.out)
  clear HA7 HBl7 HS7 HA8 HGR8 HS8 HBU8 HRA6 HRB6 HX6 HBW6 HG7
  go_wp2_with (first | refine wpList_load_P rfl 27 _ rfl g7 0 rfl (hdV x) _ HR8.out Tryd.underlying27 rfl (by rw[HXL.out];exact Tryd.size27h) ?_ | fail)
  refine(HMW.out V8 x HBW8.out HMK.out).mono ?_
  rintro _ V9 ⟨rfl,hb9⟩
  rw[HMY.out,he0,<-HMQ.out]
  have HRA9:=hid (HRA8.out.later hb9)
  have HRB9:=hid (HRB8.out.later hb9)
  have HX9:=hid (blk_later HX8.out hb9)
  have HBW9:=hid (Bn HBW8.out hb9)
  obtain⟨g9,hg9⟩:∃g,g=V9.heap.size:=⟨_,rfl⟩
  have HG9:=hid hg9
  clear hb9 hg9 HR8 HRA8 HRB8 HX8 HBW8
  go_wp2_with (first | refine wpList_alloc_W rfl 45 rfl (some 16) rfl _ HZ45.out g9 HG9.out ?_ | fail)
  intro V10 HA10 HBl10 HS10
  go_wp2_with (first | refine wpList_store_W rfl 45 _ _ rfl rfl g9 (mkV M).toArray rfl rfl 45 _ HA10.out (by rw[List.size_toArray,HML2.out];exact Tryd.size45) (by rw[List.size_toArray,List.size_toArray,HML2.out,mkV_len mkZ_ok]) (all_oneCell_toArray (mkV_one _)) ?_ | fail)
  intro V11 HA11 HGR11 HS11
  have HBU11:Hid (Below V9.heap.size V9 V11):=by
   show Below _ _ _
   rw[<-HG9.out]
   exact HBl10.out.trans (bel_grown HGR11.out (Nat.le_refl _) (by rw[HG9.out];exact HBl10.out.size))
  have HRA11:=hid (HRA9.out.later HBU11.out)
  have HRB11:=hid (HRB9.out.later HBU11.out)
  have HX11:=hid (blk_later HX9.out HBU11.out)
  have HBW11:=hid (Bn HBW9.out HBU11.out)
  have HR11:=hid (blk_range HA11.out)
  clear HA10 HBl10 HS10 HA11 HGR11 HS11 HBU11 HRA9 HRB9 HX9 HBW9 HG9
  go_wp2_with (first | refine wpList_load_P rfl 45 _ rfl g9 0 rfl (mkV M) _ HR11.out Tryd.underlying45 rfl (by rw[HML2.out];exact Tryd.size45) ?_ | refine wpList_store_W rfl 45 _ _ rfl rfl w.heap.size (mkV M).toArray rfl rfl 45 _ HX11.out (by rw[List.size_toArray,HML2.out];exact Tryd.size45) (by rw[List.size_toArray,List.size_toArray,HML2.out,HML.out]) (all_oneCell_toArray (mkV_one _)) ?_ | fail)
  intro V12 HX12 HGR12 HS12
  have HBW12:=hid (HBW11.out.trans (bel_grown HGR12.out (Nat.le_refl _) HBW11.out.size))
  have HRA12:=hid (HRA11.out.put HGR12.out HAB.out (fun r q=>(HVA.out r q).1.later HBW12.out))
  have HRB12:=hid (HRB11.out.put HGR12.out HBB.out (fun r q=>(HVB.out r q).1.later HBW12.out))
  clear HGR12 HS12 HRA11 HRB11 HX11 HBW11 HR11 HML HM0
  obtain⟨q1,hq1⟩:∃g,g=V12.heap.size:=⟨_,rfl⟩
  have HQ1:=hid hq1
  have HRM:=hid (blk_range HX12.out)
  clear hq1
  go_wp2_with (first | refine wpList_load_P rfl 45 _ rfl w.heap.size 0 rfl (mkV M) _ HRM.out Tryd.underlying45 rfl (by rw[HML2.out];exact Tryd.size45) ?_ | refine wpList_buildOne_gW rfl 28 45 _ rfl (some 58) rfl (mkV M).toArray i45 _ Tryd.underlying28 hi45 hz45 (by rw[hs45,List.size_toArray,HML2.out]) (by rw[List.size_toArray,HML2.out];decide) (by rw[List.size_toArray,HML2.out];decide) rfl q1 HQ1.out ?_ | fail)
  intro X1 HN1 HBl1
  rw[HQ1.out] at HBl1
  have HBX1:=hid (Bn HBW12.out HBl1.out)
  have HXA1:=hid (HRA12.out.later HBl1.out)
  have HXB1:=hid (HRB12.out.later HBl1.out)
  have HXM1:=hid (blk_later HX12.out HBl1.out)
  clear HBl1 HRM HQ1 HRA12 HRB12 HX12 HBW12
  go_wp2_with fail
  refine(HAU.out X1 A a4 c4 M q1 HBX1.out HXA1.out (fun r q=>(HVA.out r q).2) HLA30.out HMO.out HN1.out).mono ?_
  rintro _ X2 ⟨rfl,hb2⟩
  have HBX2:=hid (Bn HBX1.out hb2)
  have HXA2:=hid (HXA1.out.later hb2)
  have HXB2:=hid (HXB1.out.later hb2)
  have HXM2:=hid (blk_later HXM1.out hb2)
  have HGA:=hid (fun(h:(audR key A [M]).1=6)=>good_has h)
  generalize (audR key A [M]).1=f1 at *
  generalize (audR key A [M]).2.1=f2 at *
  generalize (audR key A [M]).2.2=f3 at *
  clear hb2 HBX1 HXA1 HXB1 HXM1 HN1
  have hfl1:=field40 f1 f2 f3
  by_cases h6:f1=6
  ·obtain⟨q2,hq2⟩:∃g,g=X2.heap.size:=⟨_,rfl⟩
   have HQ2:=hid hq2
   have HRM:=hid (blk_range HXM2.out)
   have HGA2:=hid (HGA.out h6)
   subst h6
   clear hq2 HGA
   go_wp2_with (first | refine wpList_load_g rfl 45 _ rfl w.heap.size 0 rfl (mkV M) _ HRM.out Tryd.underlying45 rfl (by rw[HML2.out];exact Tryd.size45) ?_ | refine wpList_buildOne_gW rfl 28 45 _ rfl (some 66) rfl (mkV M).toArray i45 _ Tryd.underlying28 hi45 hz45 (by rw[hs45,List.size_toArray,HML2.out]) (by rw[List.size_toArray,HML2.out];decide) (by rw[List.size_toArray,HML2.out];decide) rfl q2 HQ2.out ?_ | fail)
   intro X3 HN3 HBl3
   rw[HQ2.out] at HBl3
   have HBX3:=hid (Bn HBX2.out HBl3.out)
   have HXA3:=hid (HXA2.out.later HBl3.out)
   have HXB3:=hid (HXB2.out.later HBl3.out)
   have HXM3:=hid (blk_later HXM2.out HBl3.out)
   clear HBl3 HRM HQ2 HBX2 HXA2 HXB2 HXM2
   go_wp2_with fail
   refine(HAU.out X3 B a5 c5 M q2 HBX3.out HXB3.out (fun r q=>(HVB.out r q).2) HLB30.out HMO.out HN3.out).mono ?_
   rintro _ X4 ⟨rfl,hb4⟩
   have HBX4:=hid (Bn HBX3.out hb4)
   have HXA4:=hid (HXA3.out.later hb4)
   have HXB4:=hid (HXB3.out.later hb4)
   have HXM4:=hid (blk_later HXM3.out hb4)
   have HGB:=hid (fun(h:(audR key B [M]).1=6)=>good_has h)
   generalize (audR key B [M]).1=e1 at *
   generalize (audR key B [M]).2.1=e2 at *
   generalize (audR key B [M]).2.2=e3 at *
   clear hb4 HBX3 HXA3 HXB3 HXM3 HN3 HAU
   have hfl2:=field40 e1 e2 e3
   by_cases h7:e1=6
   ·have ga:=HGA2.out.2 0 (by simp)
    have gb:=(HGB.out h7).2 0 (by simp)
    have hda:=ga.2
    have hdb:=gb.2
    unfold dhasB at hda hdb
    simp only[Bool.and_eq_true,decide_eq_true_eq] at hda hdb
    have c0:=hd_seq (mk_hd (blk_range HXM4.out))
    have hms:([M]:List Mrk).getD 0 mkZ=M:=rfl
    rw[hms] at hda hdb
    obtain⟨n,hn⟩:∃n:Nat,M.2.1.1=(n:Int):=⟨M.2.1.1.toNat,by omega⟩
    rw[hn] at c0
    rw[hn,Int.toNat_natCast] at hda hdb
    have hnA:n<=A.length:=by omega
    have hnB:n<=B.length:=by omega
    have hzA:¬((A.length:Int)<(n:Int)):=by omega
    have hzB:¬((B.length:Int)<(n:Int)):=by omega
    have hzA2:¬A.length<n:=by omega
    have hzB2:¬B.length<n:=by omega
    have HW0:Hid ((wlk hdZ (A.take n) 0).2.2=0∧(wlk hdZ (B.take n) 0).2.2=0∧(wlk hdZ (A.take n) 0).1.2.2=(wlk hdZ (B.take n) 0).1.2.2):=⟨hda.2.1,hdb.2.1,by rw[hda.2.2,hdb.2.2]⟩
    have hn30:n<=30:=Nat.le_trans hnA HLA30.out
    subst h7
    clear ga gb hda hdb hms hn HGA2 HGB HXM4
    have HSA:=hid (fun r q=>(HVA.out r q).1.psOk)
    have HSB:=hid (fun r q=>(HVB.out r q).1.psOk)
    go_wp2
    go_loopw [18] (fun x18 wr=>∃(k:Nat) (i:Int),k<=n∧x18= .int .i64 i∧i=(k:Int)-1∧Hid ((wlk hdZ (A.take k) 0).2.2=0∧(wlk hdZ (B.take k) 0).2.2=0∧(wlk hdZ (A.take k) 0).1.2.2=(wlk hdZ (B.take k) 0).1.2.2)∧Hid (Below X4.heap.size X4 wr)) (fun x18 _=>(RowKit.intOf x18+1).toNat)
    case atStart=>exact⟨n,(n:Int)-1,by omega,by go_num,rfl,HW0.out,Below.refl _ _⟩
    case round=>
     obtain⟨k,i,hk,rfl,hi0,HW,HB⟩:=hrel
     by_cases hk0:0<k
     ·obtain⟨j,rfl⟩:∃j,k=j+1:=⟨k-1,by omega⟩
      have hij:i=(j:Int):=by omega
      subst hij
      clear hi0
      have hjA:j<A.length:=by omega
      have hjB:j<B.length:=by omega
      have hjzA:(j:Int)<(A.length:Int):=by omega
      have hjzB:(j:Int)<(B.length:Int):=by omega
      obtain⟨b1,o1,rfl,hbw1,hcc1⟩:=HXA4.out.cells (by omega)
      obtain⟨b2,o2,rfl,hbw2,hcc2⟩:=HXB4.out.cells (by omega)
      have hx1:=hcc1 j hjA
      have hx2:=hcc2 j hjB
      have hv1:=HXA4.out.get hjA
      have hv2:=HXB4.out.get hjB
      have hp1:=(HVA.out _ (rec_mem hjA)).2
      have hp2:=(HVB.out _ (rec_mem hjB)).2
      have HPR:=hid (pre_step hjA hjB HW.out.1 HW.out.2.1 HW.out.2.2 HSA.out HSB.out)
      generalize A.getD j recZ=x at *
      generalize B.getD j recZ=y at *
      have HXL:=hid (Rec.cs_len hv1.len)
      have HYL:=hid (Rec.cs_len hv2.len)
      have HXR:=hid (fun X (hX:Below wr.heap.size wr X)=>range_later hx1 (Bn HB.out hX) hbw1)
      have HYR:=hid (fun X (hX:Below wr.heap.size wr X)=>range_later hx2 (Bn HB.out hX) hbw2)
      have HSM:=hid (fun X (hX:Below wr.heap.size wr X)=>dsame_word x y X (hv1.later (Bn HB.out hX)) (hv2.later (Bn HB.out hX)))
      have HTW:=hid (fun X (hX:Below wr.heap.size wr X)=>twice_word x y X (hv1.later (Bn HB.out hX)) (hv2.later (Bn HB.out hX)) (Nat.le_trans hp1 (by decide)) (Nat.le_trans hp2 (by decide)))
      clear hx1 hx2 hv1 hv2 hcc1 hcc2 hbw1 hbw2 hp1 hp2 HW
      go_wp2_with fail
      refine wp_region_held_drew (S:=fun X=>Below wr.heap.size wr X) (by kernel_rfl) (Below.refl _ _).drew (fun hS_v0=>?_)
      have hd_v0:Below wr.heap.size wr wr.drew:=(Below.refl _ _).drew
      generalize wr.drew=v0 at *
      simp only[List.size_toArray,List.length_cons,List.length_nil,Nat.reduceAdd]
      clear hd_v0
      refine Ord.take (i:=0) (d:=93) (v:=?vSb0) rfl rfl (by as_aux_lemma=>kernel_rfl) (by as_aux_lemma=>kernel_rfl) (by as_aux_lemma=>kernel_rfl) (fun _ _ _ h=>h) (by rfl) ?hSb0 (by assumption) ?_
      case hSb0=>intro wx hSw;go_simp;try with_reducible rfl
      try simp only[List.setIfInBounds_toArray,List.set_cons_zero,List.set_cons_succ]
      refine Ord.take (i:=1) (d:=94) (v:=?vSb1) rfl rfl (by as_aux_lemma=>kernel_rfl) (by as_aux_lemma=>kernel_rfl) (by as_aux_lemma=>kernel_rfl) (fun _ _ _ h=>h) (by rfl) ?hSb1 (by assumption) ?_
      case hSb1=>intro wx hSw;go_simp;try with_reducible rfl
      try simp only[List.setIfInBounds_toArray,List.set_cons_zero,List.set_cons_succ]
      refine Ord.take (i:=2) (d:=95) (v:=?vSb2) rfl rfl (by as_aux_lemma=>kernel_rfl) (by as_aux_lemma=>kernel_rfl) (by as_aux_lemma=>kernel_rfl) (fun _ _ _ h=>h) (by rfl) ?hSb2 (by assumption) ?_
      case hSb2=>intro wx hSw;go_simp;try with_reducible rfl
      try simp only[List.setIfInBounds_toArray,List.set_cons_zero,List.set_cons_succ]
      refine Ord.take (i:=3) (d:=96) (v:= .agg x.cs.toArray) rfl rfl (by as_aux_lemma=>kernel_rfl) (by as_aux_lemma=>kernel_rfl) (by as_aux_lemma=>kernel_rfl) (fun _ _ _ h=>h) (by rfl) ?hSb3 (by assumption) ?_
      case hSb3=>intro wx hSw;exact exec_load 58 (.tmp 95) rfl b1 (o1+j*38) rfl (run_loadVar_mid wx b1 (o1+j*38) 58 x.cs _ (HXR.out _ hSw) Tryd.underlying58 rfl (by rw[HXL.out];exact Tryd.size58))
      try simp only[List.setIfInBounds_toArray,List.set_cons_zero,List.set_cons_succ]
      refine Ord.take (i:=4) (d:=97) (v:=?vSb4) rfl rfl (by as_aux_lemma=>kernel_rfl) (by as_aux_lemma=>kernel_rfl) (by as_aux_lemma=>kernel_rfl) (fun _ _ _ h=>h) (by rfl) ?hSb4 (by assumption) ?_
      case hSb4=>intro wx hSw;go_simp;try with_reducible rfl
      try simp only[List.setIfInBounds_toArray,List.set_cons_zero,List.set_cons_succ]
      refine Ord.take (i:=5) (d:=98) (v:=?vSb5) rfl rfl (by as_aux_lemma=>kernel_rfl) (by as_aux_lemma=>kernel_rfl) (by as_aux_lemma=>kernel_rfl) (fun _ _ _ h=>h) (by rfl) ?hSb5 (by assumption) ?_
      case hSb5=>intro wx hSw;go_simp;try with_reducible rfl
      try simp only[List.setIfInBounds_toArray,List.set_cons_zero,List.set_cons_succ]
      refine Ord.take (i:=6) (d:=99) (v:=?vSb6) rfl rfl (by as_aux_lemma=>kernel_rfl) (by as_aux_lemma=>kernel_rfl) (by as_aux_lemma=>kernel_rfl) (fun _ _ _ h=>h) (by rfl) ?hSb6 (by assumption) ?_
      case hSb6=>intro wx hSw;go_simp;try with_reducible rfl
      try simp only[List.setIfInBounds_toArray,List.set_cons_zero,List.set_cons_succ]
      refine Ord.take (i:=7) (d:=100) (v:= .agg y.cs.toArray) rfl rfl (by as_aux_lemma=>kernel_rfl) (by as_aux_lemma=>kernel_rfl) (by as_aux_lemma=>kernel_rfl) (fun _ _ _ h=>h) (by rfl) ?hSb7 (by assumption) ?_
      case hSb7=>intro wx hSw;exact exec_load 58 (.tmp 99) rfl b2 (o2+j*38) rfl (run_loadVar_mid wx b2 (o2+j*38) 58 y.cs _ (HYR.out _ hSw) Tryd.underlying58 rfl (by rw[HYL.out];exact Tryd.size58))
      try simp only[List.setIfInBounds_toArray,List.set_cons_zero,List.set_cons_succ]
      refine wpAnyH_ready (rs:= [8]) (by as_aux_lemma=>kernel_rfl) (by simp) (AllReadyH.cons rfl (fun K hK=>?_) AllReadyH.nil)
      go_simp
      go_simp
      refine(HSM.out v0 hS_v0).mono ?_
      rintro _ v1 ⟨rfl,hb_v1⟩
      have hS_v1:Below wr.heap.size wr v1:=Bn hS_v0 hb_v1
      clear hb_v1
      refine hK.out _ _ hS_v1 (fun _=>?_)
      clear hK K
      try simp only[List.setIfInBounds_toArray,List.set_cons_zero,List.set_cons_succ]
      try simp only[List.setIfInBounds_toArray,List.set_cons_zero,List.set_cons_succ]
      refine Ord.take (i:=9) (d:=102) (v:= .bool (!sameB x y)) rfl rfl (by as_aux_lemma=>kernel_rfl) (by as_aux_lemma=>kernel_rfl) (by as_aux_lemma=>kernel_rfl) (fun _ _ _ h=>h) (by rfl) ?hSb9 (by assumption) ?_
      case hSb9=>intro wx hSw;go_simp;try with_reducible rfl
      try simp only[List.setIfInBounds_toArray,List.set_cons_zero,List.set_cons_succ]
      refine wpAnyH_done (by as_aux_lemma=>kernel_rfl) ?_ _
      have HS9:=hid hS_v1
      clear hS_v0 hS_v1
      rcases HPR.out with ⟨hsb,hw1,hw2,hw3⟩ | ⟨hsb,htw⟩
      ·rw[hsb]
       have HWN:=hid (And.intro hw1 (And.intro hw2 hw3))
       have HBN:=hid (Bn HB.out HS9.out)
       clear hsb hw1 hw2 hw3 HPR
       go_wp2
       go_round
       case rel=>first | exact⟨j,(j:Int)-1,by omega,by go_num,rfl,HWN.out,HBN.out⟩ | exact⟨_,_,_,_,_,_,_,_,_,_,_,_,_,_,_,_,_,_,_,_,_,_,_,_,_,⟨j,(j:Int)-1,by omega,by go_num,rfl,HWN.out,HBN.out⟩,rfl⟩
       case measure=>first | (simp[RowKit.intOf];done) | (simp[RowKit.intOf];omega)
      ·rw[hsb]
       have HTW2:=hid htw
       have HXQ:=hid (fun X (hX:Below v1.heap.size v1 X)=>HXR.out X (Bn HS9.out hX))
       have HYQ:=hid (fun X (hX:Below v1.heap.size v1 X)=>HYR.out X (Bn HS9.out hX))
       have HTQ:=hid (fun X (hX:Below v1.heap.size v1 X)=>HTW.out X (Bn HS9.out hX))
       rw[HTW2.out] at HTQ
       clear hsb htw HPR HXR HYR HTW
       go_wp2_with fail
       refine wp_region_held_drew (S:=fun X=>Below v1.heap.size v1 X) (by kernel_rfl) (Below.refl _ _).drew (fun hS_u0=>?_)
       have hd_u0:Below v1.heap.size v1 v1.drew:=(Below.refl _ _).drew
       generalize v1.drew=u0 at *
       simp only[List.size_toArray,List.length_cons,List.length_nil,Nat.reduceAdd]
       clear hd_u0
       refine Ord.take (i:=0) (d:=103) (v:=?vTb0) rfl rfl (by as_aux_lemma=>kernel_rfl) (by as_aux_lemma=>kernel_rfl) (by as_aux_lemma=>kernel_rfl) (fun _ _ _ h=>h) (by rfl) ?hTb0 (by assumption) ?_
       case hTb0=>intro wx hSw;go_simp;try with_reducible rfl
       try simp only[List.setIfInBounds_toArray,List.set_cons_zero,List.set_cons_succ]
       refine Ord.take (i:=1) (d:=104) (v:=?vTb1) rfl rfl (by as_aux_lemma=>kernel_rfl) (by as_aux_lemma=>kernel_rfl) (by as_aux_lemma=>kernel_rfl) (fun _ _ _ h=>h) (by rfl) ?hTb1 (by assumption) ?_
       case hTb1=>intro wx hSw;go_simp;try with_reducible rfl
       try simp only[List.setIfInBounds_toArray,List.set_cons_zero,List.set_cons_succ]
       refine Ord.take (i:=2) (d:=105) (v:=?vTb2) rfl rfl (by as_aux_lemma=>kernel_rfl) (by as_aux_lemma=>kernel_rfl) (by as_aux_lemma=>kernel_rfl) (fun _ _ _ h=>h) (by rfl) ?hTb2 (by assumption) ?_
       case hTb2=>intro wx hSw;go_simp;try with_reducible rfl
       try simp only[List.setIfInBounds_toArray,List.set_cons_zero,List.set_cons_succ]
       refine Ord.take (i:=3) (d:=106) (v:= .agg x.cs.toArray) rfl rfl (by as_aux_lemma=>kernel_rfl) (by as_aux_lemma=>kernel_rfl) (by as_aux_lemma=>kernel_rfl) (fun _ _ _ h=>h) (by rfl) ?hTb3 (by assumption) ?_
       case hTb3=>intro wx hSw;exact exec_load 58 (.tmp 105) rfl b1 (o1+j*38) rfl (run_loadVar_mid wx b1 (o1+j*38) 58 x.cs _ (HXQ.out _ hSw) Tryd.underlying58 rfl (by rw[HXL.out];exact Tryd.size58))
       try simp only[List.setIfInBounds_toArray,List.set_cons_zero,List.set_cons_succ]
       refine Ord.take (i:=4) (d:=107) (v:=?vTb4) rfl rfl (by as_aux_lemma=>kernel_rfl) (by as_aux_lemma=>kernel_rfl) (by as_aux_lemma=>kernel_rfl) (fun _ _ _ h=>h) (by rfl) ?hTb4 (by assumption) ?_
       case hTb4=>intro wx hSw;go_simp;try with_reducible rfl
       try simp only[List.setIfInBounds_toArray,List.set_cons_zero,List.set_cons_succ]
       refine Ord.take (i:=5) (d:=108) (v:=?vTb5) rfl rfl (by as_aux_lemma=>kernel_rfl) (by as_aux_lemma=>kernel_rfl) (by as_aux_lemma=>kernel_rfl) (fun _ _ _ h=>h) (by rfl) ?hTb5 (by assumption) ?_
       case hTb5=>intro wx hSw;go_simp;try with_reducible rfl
       try simp only[List.setIfInBounds_toArray,List.set_cons_zero,List.set_cons_succ]
       refine Ord.take (i:=6) (d:=109) (v:=?vTb6) rfl rfl (by as_aux_lemma=>kernel_rfl) (by as_aux_lemma=>kernel_rfl) (by as_aux_lemma=>kernel_rfl) (fun _ _ _ h=>h) (by rfl) ?hTb6 (by assumption) ?_
       case hTb6=>intro wx hSw;go_simp;try with_reducible rfl
       try simp only[List.setIfInBounds_toArray,List.set_cons_zero,List.set_cons_succ]
       refine Ord.take (i:=7) (d:=110) (v:= .agg y.cs.toArray) rfl rfl (by as_aux_lemma=>kernel_rfl) (by as_aux_lemma=>kernel_rfl) (by as_aux_lemma=>kernel_rfl) (fun _ _ _ h=>h) (by rfl) ?hTb7 (by assumption) ?_
       case hTb7=>intro wx hSw;exact exec_load 58 (.tmp 109) rfl b2 (o2+j*38) rfl (run_loadVar_mid wx b2 (o2+j*38) 58 y.cs _ (HYQ.out _ hSw) Tryd.underlying58 rfl (by rw[HYL.out];exact Tryd.size58))
       try simp only[List.setIfInBounds_toArray,List.set_cons_zero,List.set_cons_succ]
       refine wpAnyH_ready (rs:= [8]) (by as_aux_lemma=>kernel_rfl) (by simp) (AllReadyH.cons rfl (fun K hK=>?_) AllReadyH.nil)
       go_simp
       go_simp
       refine(HTQ.out u0 hS_u0).mono ?_
       rintro _ u1 ⟨rfl,hb_u1⟩
       have hS_u1:Below v1.heap.size v1 u1:=Bn hS_u0 hb_u1
       clear hb_u1
       refine hK.out _ _ hS_u1 (fun _=>?_)
       clear hK K
       try simp only[List.setIfInBounds_toArray,List.set_cons_zero,List.set_cons_succ]
       try simp only[List.setIfInBounds_toArray,List.set_cons_zero,List.set_cons_succ]
       refine Ord.take (i:=9) (d:=12) (v:=?vTb9) rfl rfl (by as_aux_lemma=>kernel_rfl) (by as_aux_lemma=>kernel_rfl) (by as_aux_lemma=>kernel_rfl) (fun _ _ _ h=>h) (by rfl) ?hTb9 (by assumption) ?_
       case hTb9=>intro wx hSw;go_simp;try with_reducible rfl
       try simp only[List.setIfInBounds_toArray,List.set_cons_zero,List.set_cons_succ]
       refine wpAnyH_done (by as_aux_lemma=>kernel_rfl) ?_ _
       have HS8:=hid hS_u1
       clear hS_u0 hS_u1
       have HBE:=hid (Bn HBX4.out (Bn (Bn HB.out HS9.out) HS8.out))
       go_wp2
       go_ret
       exact⟨rfl,HBE.out⟩
     ·have hk2:k=0:=by omega
      subst hk2
      have hi1:i= -1:=by omega
      subst hi1
      have HBE:=hid (Bn HBX4.out HB.out)
      clear hi0
      go_wp2
      go_ret
      exact⟨rfl,HBE.out⟩
   ·clear HGA2 HGB
    go_wp2
    go_ret
    exact⟨rfl,HBX4.out⟩
  ·clear HGA
   go_wp2
   go_ret
   exact⟨rfl,HBX2.out⟩
set_option maxRecDepth 100000 in
theorem lifted(os:Os)(started:os.Started)(H:Type)(enc:TypeId×Value->H):
 ReturnsInHanded {} Tryd.checked os 6 .any (fun w args=>(Rows.checkPrefixSpec.pre enc Tryd.prog Tryd.f6 [] false w args∧laidMetH Tryd.prog laidL w)∧sizedMet enc Tryd.prog Tryd.f6 (OpenSpec.ofChange Rows.checkPrefixSpec) false w args)
  (Rows.checkPrefixSpec.post enc Tryd.prog Tryd.f6 false true false false):=by
 refine returnsInHanded_of_change_and (C:=Tryd.checked) (X:=fun w _=>laidMetH Tryd.prog laidL w) (fun _ _ _ hh h=>h.of_heap hh) own started (by kernel_rfl) Tryd.func6
  (ChangeSpec.witness_shaped (enc:=enc) (C:=Tryd.checked) (os:=os) (X:=fun w _=>laidMetH Tryd.prog laidL w) false (World.doorLaid Tryd.prog 400 os) #[.slice none 0 0,.slice none 0 0,.slice none 0 0,.bool false,.agg #[.int .i64 0,.int .i64 0,.int .i64 0,.int .u8 0,.int .u8 0,.int .u8 0,.int .u8 0,.int .u8 0,.int .u8 0,.int .u8 0,.int .u8 0,.int .u8 0,.int .u8 0,.int .u8 0,.int .u8 0,.int .u8 0,.int .u8 0,.int .u8 0,.int .u8 0,.int .u8 0,.int .u8 0,.int .u8 0,.int .u8 0,.int .u8 0,.int .u8 0,.int .u8 0,.int .u8 0,.int .u8 0,.int .u8 0,.int .u8 0,.int .u8 0,.int .u8 0,.int .u8 0,.int .u8 0,.int .u8 0,.int .u8 0,.int .u8 0,.int .u8 0,.int .u8 0,.int .u8 0,.int .u8 0,.int .u8 0,.int .u8 0,.int .u8 0,.int .u8 0,.int .u8 0,.int .u8 0,.int .u8 0,.int .u8 0,.int .u8 0,.int .u8 0,.int .u8 0,.int .u8 0,.int .u8 0,.int .u8 0,.int .u8 0,.int .u8 0,.int .u8 0,.int .u8 0,.int .u8 0,.int .u8 0,.int .u8 0,.int .u8 0,.int .u8 0,.int .u8 0,.int .u8 0,.int .u8 0],.int .u8 0] 8 rfl (World.shaped_of_RefB (by kernel_rfl) (by kernel_rfl)) (by kernel_rfl) (by kernel_rfl) (by kernel_rfl) (door_met os _)) ?_
 intro W base args ds gs before hval0 hW _ _ hL _
 have hval:∀(j:Nat) t v,Tryd.f6.params[j]?=some t->args[j]?=some v->Value.okWide Tryd.prog W .any base t v:=hval0
 have hW':=hW
 obtain⟨p,q,hA0,hV,rfl,_,_⟩:=hW
 have hA:DataW.TrodAll enc Tryd.prog W 0 (fun _=>true) true Tryd.f6.params.toList args.toList ds p:=hA0
 rw[Tryd.params6] at hA hval
 obtain⟨v0,vs0,d0,ds0,p0,q0,hargs,rfl,rfl,h0,r0⟩:=trodAll_cons hA
 obtain⟨v1,vs1,d1,ds1,p1,q1,rfl,rfl,rfl,h1,r1⟩:=trodAll_cons r0
 obtain⟨v2,vs2,d2,ds2,p2,q2,rfl,rfl,rfl,h2,r2⟩:=trodAll_cons r1
 obtain⟨v3,vs3,d3,ds3,p3,q3,rfl,rfl,rfl,h3,r3⟩:=trodAll_cons r2
 obtain⟨v4,vs4,d4,ds4,p4,q4,rfl,rfl,rfl,h4,r4⟩:=trodAll_cons r3
 obtain⟨v5,vs5,d5,ds5,p5,q5,rfl,rfl,rfl,h5,r5⟩:=trodAll_cons r4
 obtain⟨rfl,rfl,rfl⟩:=trodAll_nil r5
 obtain rfl:args= #[v0,v1,v2,v3,v4,v5]:=by cases args;simp_all
 obtain⟨rfl,rfl⟩:=trodVars_none hV
 have hlaid:=of_laid hL
 obtain⟨a5,rfl,rfl,rfl,w5⟩:=open_int Tryd.underlying5 (hval 5 5 v5 rfl rfl) h5
 obtain⟨a3,rfl,rfl,rfl⟩:=open_bool Tryd.underlying4 (hval 3 4 v3 rfl rfl) h3
 clear hA0
 simp only[List.append_nil,List.nil_append] at hW'
 have hlt0:∀x∈p0,x.block<W.heap.size:=fun x hx=>hW'.lt x (by simp[hx])
 have hk0:=h0
 obtain⟨a0,cap0,l0,rfl,hr0⟩:=open_key (hval 0 22 v0 rfl rfl) h0 hlt0
 have hlt1:∀x∈p1,x.block<W.heap.size:=fun x hx=>hW'.lt x (by simp[hx])
 have hk1:=h1
 obtain⟨a1,cap1,l1,rfl,hr1⟩:=open_recs (hval 1 23 v1 rfl rfl) h1 hlt1
 have hlt2:∀x∈p2,x.block<W.heap.size:=fun x hx=>hW'.lt x (by simp[hx])
 have hk2:=h2
 obtain⟨a2,cap2,l2,rfl,hr2⟩:=open_recs (hval 2 23 v2 rfl rfl) h2 hlt2
 have hlt4:∀x∈p4,x.block<W.heap.size:=fun x hx=>hW'.lt x (by simp[hx])
 have hk4:=h4
 obtain⟨y4,rfl,hr4⟩:=open_mark (hval 4 45 v4 rfl rfl) h4
 clear hval0
 refine(walk a0 cap0 l0 a1 cap1 l1 a2 cap2 l2 a3 y4 a5 w5 W hlaid hr0 hr1 hr2 hr4).mono fun e W' ⟨he,hb⟩=>?_
 subst he
 exact⟨_,rfl,_,_,_,[]++ [],_,[],hW',trodAll_cons_mk (shut_bool Tryd.underlying4 _) trodAll_mk0,(trodAll_cons_mk (Below.trod Tryd.laidOut (by kernel_rfl) (of_decide_eq_true (by kernel_rfl)) hk0 hb hlt0) (trodAll_cons_mk (Below.trod Tryd.laidOut (by kernel_rfl) (of_decide_eq_true (by kernel_rfl)) hk1 hb hlt1) (trodAll_cons_mk (Below.trod Tryd.laidOut (by kernel_rfl) (of_decide_eq_true (by kernel_rfl)) hk2 hb hlt2) (trodAll_cons_mk (shut_bool Tryd.underlying4 _) (trodAll_cons_mk (Below.trod Tryd.laidOut (by kernel_rfl) (of_decide_eq_true (by kernel_rfl)) hk4 hb hlt4) (trodAll_cons_mk (shut_int Tryd.underlying5 w5) trodAll_mk0)))))),rfl,hb.frame _,fun h=>by cases h⟩
theorem over:Rows.checkPrefixRow.holds Tryd.pinned (OpenSpec.ofChange Rows.checkPrefixSpec):=
 OpenClaim.holds_of_wide 6 Tryd.f6 rfl rfl rfl rfl rfl rfl rfl ⟨rfl,rfl,rfl,rfl,rfl⟩ rfl rfl rfl rfl rfl (by kernel_rfl) Tryd.func6 (by kernel_rfl)
  (of_decide_eq_true (by kernel_rfl)) (by unfold Func.isWrapper;first | (rw[if_pos (by decide +kernel)];kernel_rfl) | (rw[if_neg (by decide +kernel)];exact⟨rfl,rfl⟩))
  (fun os started H enc _=>lifted os started H enc)
theorem card:Rows.CheckPrefixCardSaid:=
 Claim7.holds_tied_plain_at .later [] [.data,.data] true (true, "6c4824eea2cfdc05c637caf113dadd9efee948d7ff46397d3b1084f8d6b5d258") false
  over (fun _ h=>by cases h) (by kernel_rfl) (fun _ h=>by cases h) checkPrefix_row_tie rfl ⟨rfl,rfl⟩ (by kernel_rfl) rfl
  (fun f fn hf hfn=>by
   obtain rfl:f=6:=Option.some.inj ((show Tryd.prog.funcNamed "saltern/salternlaw16.CheckPrefix" = some 6 by kernel_rfl).symm.trans hf) |>.symm
   obtain rfl:fn=Tryd.f6:=(Option.some.inj (Tryd.func6.symm.trans hfn)).symm
   exact⟨by kernel_rfl,fun j t ht=>by
    rw[Tryd.params6] at ht
    have hm:t ∈ [22,23,23,4,45,5]:=by simpa using Array.mem_of_getElem? ht
    have hall:([22,23,23,4,45,5].all fun u=> !Tryd.prog.wantsStandIn u)=true:=by kernel_rfl
    exact(show Tryd.prog.wantsStandIn t=false by simpa using List.all_eq_true.1 hall t hm)⟩)
  (by kernel_rfl)
end Go.Proofs.YtplinkmagnihmaaDoor.checkPrefix
namespace Go.Proofs.YtplinkmagnihmaaDoor
theorem checkPrefix_holds:Rows.CheckPrefixCardSaid:=checkPrefix.card
#print axioms checkPrefix_holds
end Go.Proofs.YtplinkmagnihmaaDoor
