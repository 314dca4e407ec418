/-
  The contract of the law's awake. A catalogue of one record and its mark: what an audit of it finds.
-/
import Derived.Test.YtplinkmagnihmaaDoorCkJd
import Derived.Test.YtplinkmagnihmaaDoorCkHa
import Derived.Test.YtplinkmagnihmaaDoorCkHb
import Derived.Lib.SlBytesConst
namespace Go.Proofs.YtplinkmagnihmaaDoor
open Go.ChangeShapes Go.WideShapes Go.ChangeAt Go.RowKit Go.Deep Go.Lib
abbrev R1:Rec:=recC none 0
def N1:Hd:=(1,1,digL (wrB R1))
def keyK:List Nat:= [107,101,121]
def M1:Mrk:=(1,N1,sealL keyK (1,N1,z32))
theorem fl1:fltO 0 0 z32 R1=0:=by decide +kernel
theorem mk1R:mkR 0 0 z32 recA=R1:=mkA none 0
theorem nx1:nxO 0 0 z32 R1=N1:=by
 unfold nxO
 rw[if_pos fl1]
 rfl
theorem hs1:hsL hdZ [R1]= [hdZ,N1]:=by
 have h:fltH hdZ R1=0:=fl1
 have h2:nxtH hdZ R1=N1:=nx1
 rw[hsL,if_pos h,h2]
 rfl
theorem digL_wf(l:List Int)(j:Nat):(Lit.int .u8 ((digL l).getD j 0)).wf=true:=wf_mk_u8 (digL_u8 l j).1 (digL_u8 l j).2
theorem n1_ok:HOk N1:=⟨rfl,rfl,digL_len _,digL_wf _⟩
theorem p1_ok:MOk (1,N1,z32):=⟨rfl,n1_ok,rfl,z32_u8⟩
theorem m1_ok:MOk M1:=⟨rfl,n1_ok,sealL_len _ _,sealL_u8 _ _⟩
theorem may1:mayM (1,N1,z32)=true:=by
 unfold mayM headB
 rw[show((1,N1,z32):Mrk).2.1=N1 from rfl,show N1.1=1 from rfl,show N1.2.1=1 from rfl]
 simp
theorem mk1:mkM keyK 1 N1=M1:=by
 unfold mkM
 rw[if_pos may1]
 rfl
theorem may_hd(s:Int)(h:Hd)(a b:List Int):mayM (s,h,a)=mayM (s,h,b):=rfl
theorem seal_hd(key:List Nat)(s:Int)(h:Hd)(a b:List Int):sealL key (s,h,a)=sealL key (s,h,b):=rfl
theorem sealed1:sealedB keyK M1=true:=by
 have h1:mayM M1=true:=(may_hd 1 N1 _ z32).trans may1
 have h2:M1.2.2=sealL keyK M1:=seal_hd keyK 1 N1 z32 _
 unfold sealedB
 rw[h1,decide_eq_true h2]
 rfl
theorem first1:fst1 [M1] 0=0:=by
 have:=fst1_lt (ms:= [M1]) (i:=0) (by simp)
 omega
theorem get1:([M1]:List Mrk).getD 0 mkZ=M1:=rfl
theorem fork1:decide ((([M1]:List Mrk).getD (fst1 [M1] 0) mkZ).2.1=(([M1]:List Mrk).getD 0 mkZ).2.1)=true:=by
 rw[first1]
 exact decide_eq_true rfl
theorem has1:hasB [hdZ,N1] N1=true:=by
 unfold hasB
 rw[show N1.1=1 from rfl]
 simp
theorem aud6:audF keyK [hdZ,N1] [M1] 1=(6,0,0):=by
 show stepA keyK [hdZ,N1] [M1] 0 (6,0,0)=_
 have hf:forkB [M1] 0=false:=by unfold forkB;rw[fork1];rfl
 unfold stepA
 rw[get1,sealed1,hf,show M1.2.1=N1 from rfl,has1,show N1.1=1 from rfl]
 simp
theorem aud5:audF keyK [hdZ] [M1] 1=(5,0,0):=by
 show stepA keyK [hdZ] [M1] 0 (6,0,0)=_
 have hf:forkB [M1] 0=false:=by unfold forkB;rw[fork1];rfl
 unfold stepA
 rw[get1,sealed1,hf,show M1.2.1=N1 from rfl,show N1.1=1 from rfl]
 simp
theorem res6:audR keyK [R1] [M1]=(6,0,0):=by
 unfold audR
 rw[hs1,if_pos (by simp)]
 exact aud6
theorem res5:audR keyK [] [M1]=(5,0,0):=by
 unfold audR
 rw[show hsL hdZ []= [hdZ] from rfl,if_pos (by simp)]
 exact aud5
theorem step6(W0 V:World)(A mp nn:Nat)(ka:Option Addr)(kc:Nat)(ha:Option Addr)(hc:Nat)(ma:Option Addr)(mc i:Nat)(D:DataW Value)(h:Hc W0 V A mp nn ka kc keyK ha hc [hdZ,N1] ma mc [M1] i D (audF keyK [hdZ,N1] [M1] i)):
 Calls Tryd.prog 32 #[.pointer (some ⟨A,0,none⟩),.int .i64 (i:Int)] V (HoP W0 A mp (.slice ka keyK.length kc) (.slice ha ([hdZ,N1]:List Hd).length hc) (.slice ma ([M1]:List Mrk).length mc) [M1] i (audF keyK [hdZ,N1] [M1] (i+1))):=by
 have hi:=h.ilt
 have:i=0:=by simp at hi;exact hi
 subst this
 rw[aud6]
 exact hold_6ttft W0 V A mp nn ka kc keyK ha hc [hdZ,N1] ma mc [M1] 0 D 0 0 h (by rw[get1];rfl) (by rw[get1];exact has1) fork1 (by rw[get1];exact sealed1)
theorem step5(W0 V:World)(A mp nn:Nat)(ka:Option Addr)(kc:Nat)(ha:Option Addr)(hc:Nat)(ma:Option Addr)(mc i:Nat)(D:DataW Value)(h:Hc W0 V A mp nn ka kc keyK ha hc [hdZ] ma mc [M1] i D (audF keyK [hdZ] [M1] i)):
 Calls Tryd.prog 32 #[.pointer (some ⟨A,0,none⟩),.int .i64 (i:Int)] V (HoP W0 A mp (.slice ka keyK.length kc) (.slice ha ([hdZ]:List Hd).length hc) (.slice ma ([M1]:List Mrk).length mc) [M1] i (audF keyK [hdZ] [M1] (i+1))):=by
 have hi:=h.ilt
 have:i=0:=by simp at hi;exact hi
 subst this
 rw[aud5]
 exact hold_6fft W0 V A mp nn ka kc keyK ha hc [hdZ] ma mc [M1] 0 D 0 0 h (by rw[get1];rfl) fork1 (by rw[get1];exact sealed1)
theorem rw_one{α:Type}{sz:Nat}{C:α->List Value}{z:α}{V:World}{g:Nat}{x:α}{t:TypeId}(h:V.heap[g]?=some (.cells (C x).toArray t)):Rw sz C z V (some ⟨g,0,none⟩) 1 [x]:=by
 refine⟨Nat.le_refl _,(by unfold maxLen;decide),(fun e=>by cases e),fun _=>⟨g,0,rfl,blk_lt h,fun j hj=>?_⟩⟩
 have hj0:j=0:=by simp at hj;exact hj
 subst hj0
 rw[Nat.zero_mul]
 exact blk_range h
theorem rr_one{V:World}{g:Nat}{x:Rec}{t:TypeId}(h:V.heap[g]?=some (.cells x.cs.toArray t))(hx:Rv V x):Rr V (some ⟨g,0,none⟩) 1 [x]:=by
 refine⟨Nat.le_refl _,(by unfold maxLen;decide),(fun e=>by cases e),(fun _=>⟨g,0,rfl,blk_lt h,fun j hj=>?_⟩),fun r hr=>by rw[List.mem_singleton.1 hr];exact hx⟩
 have hj0:j=0:=by simp at hj;exact hj
 subst hj0
 rw[Nat.zero_mul]
 exact blk_range h
theorem rr_nil(V:World):Rr V none 0 []:=⟨Nat.le_refl _,by unfold maxLen;exact Nat.zero_le _,(fun _=>rfl),fun h=>absurd h (by simp),fun r hr=>by cases hr⟩
theorem rv_R1(V:World):Rv V R1:=⟨rfl,z32_u8,rfl,rfl,rfl,rfl,by unfold maxLen;exact Nat.zero_le _,rp_nil V⟩
end Go.Proofs.YtplinkmagnihmaaDoor
namespace Go.Proofs.YtplinkmagnihmaaDoor
open Go.ChangeShapes Go.WideShapes Go.ChangeAt Go.RowKit Go.Deep Go.Lib
theorem conv22(w:World):(convert 22 22 (.slice (some ⟨w.heap.size,0,none⟩) 3 3)).run Tryd.prog (w.alloc (.cells #[.int .u8 107,.int .u8 101,.int .u8 121] 5))= .ok (.slice (some ⟨w.heap.size,0,none⟩) 3 3) (w.alloc (.cells #[.int .u8 107,.int .u8 101,.int .u8 121] 5 (3,4))):=Lib.run_convert_bytes_const w 22 5 #[.int .u8 107,.int .u8 101,.int .u8 121] 3 3 Tryd.underlying22 Tryd.underlying5
theorem key_rd(V:World):Sh.Rd (V.alloc (.cells #[.int .u8 107,.int .u8 101,.int .u8 121] 5 (3,4))) (.slice (some ⟨V.heap.size,0,none⟩) keyK.length 3) (some ⟨V.heap.size,0,none⟩) 3 keyK:=Sh.Rd.fresh V _ (3,4) keyK 3 V.heap.size rfl rfl (by decide) rfl (by decide)
theorem guard40:Tryd.prog.eqGuardType Tryd.prog.depth 40=false:=by kernel_rfl
theorem eq40_6:∀V,(Op.equalIn 10000 40 (.agg (fnV (6,0,0)).toArray) (.agg #[.int .i64 6,.int .i64 0,.int .i64 0])).run Tryd.prog V= .ok true V:=fun V=>by kernel_rfl
theorem eq40_5:∀V,(Op.equalIn 10000 40 (.agg (fnV (5,0,0)).toArray) (.agg #[.int .i64 5,.int .i64 0,.int .i64 0])).run Tryd.prog V= .ok true V:=fun V=>by kernel_rfl
theorem Tryd.info45:(Tryd.prog.info? 45).map (fun i=>(i.zero,i.size,i.bytes))=some (some (.agg (mkV mkZ).toArray),67,88):=by kernel_rfl
set_option maxHeartbeats 25600000 in
set_option maxRecDepth 100000 in
theorem awake_word(w:World)(hL:Sh.Laid w):Calls Tryd.prog 15 #[] w fun e w'=>e= .returned (.bool true)∧Below w.heap.size w w':=by
 obtain⟨i58,hi58,hz58,hs58,_⟩:=info_parts Tryd.info58
 obtain⟨i45,hi45,hz45,hs45,_⟩:=info_parts Tryd.info45
 have HL:=hid hL
 have HMK:=hid (fun V=>dmake_lead 0 0 z32 recA V rfl z32_u8 (recA_rv V) (Nat.zero_le _) (by decide) (by decide) rfl)
 have HNX:=hid (fun V=>dnext_word 0 0 z32 R1 V rfl (rv_R1 V) (Nat.zero_le _))
 rw[nx1,fl1] at HNX
 have HZR:=hid Tryd.zero58
 have HZH:=hid Tryd.zero27
 have HZM:=hid Tryd.zero45
 have HZ40:=hid Tryd.zero40
 have HSR0:Hid ((Tryd.prog.info? 58).map (·.size)=some R1.cs.length):=Tryd.size58
 have HSR1:Hid ((Tryd.prog.info? 58).map (·.size)=some R1.cs.toArray.size):=Tryd.size58
 have HSR2:Hid (recZ.cs.toArray.size=R1.cs.toArray.size):=rfl
 have HOR:=hid (all_oneCell_toArray (Rec.cs_one R1))
 have HS58:Hid (i58.size=R1.cs.toArray.size):=hs58
 have HNL:=hid (hdV_len n1_ok.len)
 have HSN0:Hid ((Tryd.prog.info? 27).map (·.size)=some (hdV N1).length):=by show _=_;rw[HNL.out];exact Tryd.size27
 have HSN1:Hid ((Tryd.prog.info? 27).map (·.size)=some (hdV N1).toArray.size):=by show _=_;rw[List.size_toArray,HNL.out];exact Tryd.size27
 have HSN2:Hid ((hdL 0 0 z32).toArray.size=(hdV N1).toArray.size):=by show _=_;rw[List.size_toArray,List.size_toArray,HNL.out];rfl
 have HON:=hid (all_oneCell_toArray (show ∀u∈hdV N1,u.oneCell'=true from hdL_one _ _ _))
 have HML:=hid (mkV_len m1_ok)
 have HSM0:Hid ((Tryd.prog.info? 45).map (·.size)=some (mkV M1).length):=by show _=_;rw[HML.out];exact Tryd.size45
 have HSM1:Hid ((Tryd.prog.info? 45).map (·.size)=some (mkV M1).toArray.size):=by show _=_;rw[List.size_toArray,HML.out];exact Tryd.size45
 have HSM2:Hid ((mkV mkZ).toArray.size=(mkV M1).toArray.size):=by show _=_;rw[List.size_toArray,List.size_toArray,HML.out,mkV_len mkZ_ok]
 have HOM:=hid (all_oneCell_toArray (mkV_one M1))
 have HS45:Hid (i45.size=(mkV M1).toArray.size):=by show _=_;rw[List.size_toArray,HML.out];exact hs45
 have HSMp:Hid (0<(mkV M1).toArray.size):=by show _<_;rw[List.size_toArray,HML.out];decide
 have HSMq:Hid ((mkV M1).toArray.size<=1000):=by show _<=_;rw[List.size_toArray,HML.out];decide
 clear hL hs58 hs45
 have hcv:=conv22
 go_enter Tryd.func15,Tryd.ntmps15
 go_wp2_with fail
 refine(HMK.out w).mono ?_
 rintro _ V1 ⟨v,e',rfl,hb1,he,hv⟩
 rw[flA] at he
 subst he
 have hv2:v= .agg R1.cs.toArray:=by
  rcases hv with ⟨h,_⟩ | ⟨_,h⟩
  ·exact absurd rfl h
  ·rw[h,mk1R]
 subst hv2
 have HB1:=hid hb1
 clear hv hb1 HMK
 obtain⟨g1,hg1⟩:∃g,g=V1.heap.size:=⟨_,rfl⟩
 have HQg1:=hid hg1
 clear hg1
 go_wp2_with (first | refine wpList_alloc_W rfl 58 rfl (some 1) rfl _ HZR.out g1 HQg1.out ?_ | fail)
 intro V2 HGV2 HBlV2 HSV2
 go_wp2_with (first | refine wpList_store_W rfl 58 _ _ rfl rfl g1 R1.cs.toArray rfl rfl 58 _ HGV2.out HSR1.out HSR2.out HOR.out ?_ | fail)
 intro V3 HGV3 HGRV3 HSV3
 have hbV3:Below V1.heap.size V1 V3:=by
  rw[<-HQg1.out]
  exact HBlV2.out.trans (bel_grown HGRV3.out (Nat.le_refl _) (by rw[HQg1.out];exact HBlV2.out.size))
 have HB3:=hid (Bn HB1.out hbV3)
 clear hbV3 HGV2 HBlV2 HSV2 HGRV3 HSV3 HB1
 have HR3:=hid (blk_range HGV3.out)
 go_wp2_with (first | refine wpList_load_P rfl 58 _ rfl g1 0 rfl R1.cs _ HR3.out Tryd.underlying58 rfl HSR0.out ?_ | fail)
 refine(HNX.out V3).mono ?_
 rintro _ V4 ⟨rfl,hb4⟩
 have HB4:=hid (Bn HB3.out hb4)
 have HG4:=hid (blk_later HGV3.out hb4)
 clear hb4 HNX HR3 HGV3 HB3
 obtain⟨g3,hg3⟩:∃g,g=V4.heap.size:=⟨_,rfl⟩
 have HQg3:=hid hg3
 clear hg3
 go_wp2_with (first | refine wpList_alloc_W rfl 27 rfl (some 3) rfl _ HZH.out g3 HQg3.out ?_ | fail)
 intro V5 HGV5 HBlV5 HSV5
 go_wp2_with (first | refine wpList_store_W rfl 27 _ _ rfl rfl g3 (hdV N1).toArray rfl rfl 27 _ HGV5.out HSN1.out HSN2.out HON.out ?_ | fail)
 intro V6 HGV6 HGRV6 HSV6
 have hbV6:Below V4.heap.size V4 V6:=by
  rw[<-HQg3.out]
  exact HBlV5.out.trans (bel_grown HGRV6.out (Nat.le_refl _) (by rw[HQg3.out];exact HBlV5.out.size))
 have HB6:=hid (Bn HB4.out hbV6)
 have HG6:=hid (blk_later HG4.out hbV6)
 clear hbV6 HGV5 HBlV5 HSV5 HGRV6 HSV6 HB4 HG4
 obtain⟨X7,hX7⟩:∃X,X=V6.alloc (.cells #[.int .u8 107,.int .u8 101,.int .u8 121] 5 (3,4)):=⟨_,rfl⟩
 have HX7:=hid hX7
 have HBX7:Hid (Below V6.heap.size V6 X7):=by show Below _ _ _;rw[hX7];exact bel_alc V6 _
 have HKB7:Hid (Sh.Rd X7 (.slice (some ⟨V6.heap.size,0,none⟩) keyK.length 3) (some ⟨V6.heap.size,0,none⟩) 3 keyK):=by show Sh.Rd _ _ _ _ _;rw[hX7];exact key_rd V6
 have HB7:=hid (Bn HB6.out HBX7.out)
 have HG7:=hid (blk_later HG6.out HBX7.out)
 have HR7:=hid (blk_range (blk_later HGV6.out HBX7.out))
 clear hX7 HB6 HG6 HGV6
 go_wp2_with (first | refine wpList_load_P rfl 27 _ rfl g3 0 rfl (hdV N1) _ (by rw[<-HX7.out];exact HR7.out) Tryd.underlying27 rfl HSN0.out ?_ | fail)
 rw[<-HX7.out]
 have hmk:=cmake_word (some ⟨V6.heap.size,0,none⟩) 3 keyK 1 N1 X7 (HL.out.later HB7.out) HKB7.out (by decide) p1_ok
 rw[mk1,may1] at hmk
 refine hmk.mono ?_
 rintro _ V8 ⟨rfl,hb8⟩
 have HB8:=hid (Bn HB7.out hb8)
 have HG8:=hid (blk_later HG7.out hb8)
 clear hmk hb8 HB7 HG7 HR7 HX7 HBX7 HKB7
 obtain⟨g5,hg5⟩:∃g,g=V8.heap.size:=⟨_,rfl⟩
 have HQg5:=hid hg5
 clear hg5
 go_wp2_with (first | refine wpList_alloc_W rfl 45 rfl (some 5) rfl _ HZM.out g5 HQg5.out ?_ | fail)
 intro V9 HGV9 HBlV9 HSV9
 go_wp2_with (first | refine wpList_store_W rfl 45 _ _ rfl rfl g5 (mkV M1).toArray rfl rfl 45 _ HGV9.out HSM1.out HSM2.out HOM.out ?_ | fail)
 intro V10 HGV10 HGRV10 HSV10
 have hbV10:Below V8.heap.size V8 V10:=by
  rw[<-HQg5.out]
  exact HBlV9.out.trans (bel_grown HGRV10.out (Nat.le_refl _) (by rw[HQg5.out];exact HBlV9.out.size))
 have HB10:=hid (Bn HB8.out hbV10)
 have HG10:=hid (blk_later HG8.out hbV10)
 clear hbV10 HGV9 HBlV9 HSV9 HGRV10 HSV10 HB8 HG8
 obtain⟨XA,hXA⟩:∃X,X=V10.alloc (.cells #[.int .u8 107,.int .u8 101,.int .u8 121] 5 (3,4)):=⟨_,rfl⟩
 obtain⟨XB,hXB⟩:∃X,X=XA.alloc (.cells R1.cs.toArray 58):=⟨_,rfl⟩
 obtain⟨XC,hXC⟩:∃X,X=XB.alloc (.cells (mkV M1).toArray 45):=⟨_,rfl⟩
 have HXA:=hid hXA
 have HXB:=hid hXB
 have HXC:=hid hXC
 have HSA:Hid (XA.heap.size=V10.heap.size+1):=by show _=_;rw[hXA];simp
 have HSB:Hid (XB.heap.size=V10.heap.size+1+1):=by show _=_;rw[hXB];simp;exact HSA.out
 have HBA:Hid (Below V10.heap.size V10 XA):=by show Below _ _ _;rw[hXA];exact bel_alc V10 _
 have HBB:Hid (Below XA.heap.size XA XB):=by show Below _ _ _;rw[hXB];exact bel_alc XA _
 have HBC:Hid (Below XB.heap.size XB XC):=by show Below _ _ _;rw[hXC];exact bel_alc XB _
 have HKA:Hid (Sh.Rd XA (.slice (some ⟨V10.heap.size,0,none⟩) keyK.length 3) (some ⟨V10.heap.size,0,none⟩) 3 keyK):=by show Sh.Rd _ _ _ _ _;rw[hXA];exact key_rd V10
 have HRB:Hid (XB.heap[V10.heap.size+1]?=some (.cells R1.cs.toArray 58)):=by show _=_;rw[hXB,<-HSA.out];exact heap_alc XA _
 have HMC:Hid (XC.heap[V10.heap.size+1+1]?=some (.cells (mkV M1).toArray 45)):=by show _=_;rw[hXC,<-HSB.out];exact heap_alc XB _
 have HBAC:Hid (Below V10.heap.size V10 XC):=Bn (Bn HBA.out HBB.out) HBC.out
 have HKC:=hid (HKA.out.later (Bn HBB.out HBC.out))
 have HRC:=hid (blk_later HRB.out HBC.out)
 have HBW:=hid (Bn HB10.out HBAC.out)
 have HR1A:=hid (blk_range (blk_later HG10.out HBA.out))
 have HR5B:=hid (blk_range (blk_later HGV10.out (Bn HBA.out HBB.out)))
 clear hXA hXB hXC
 have HAU:=hid (audit_word (some ⟨V10.heap.size,0,none⟩) 3 keyK (some ⟨V10.heap.size+1,0,none⟩) 1 [R1] (some ⟨V10.heap.size+1+1,0,none⟩) 1 [M1] XC (HL.out.later HBW.out) HKC.out (by decide) (rr_one HRC.out (rv_R1 XC)) (fun r hr=>by rw[List.mem_singleton.1 hr];exact Nat.zero_le _) (by simp) (rw_one HMC.out) (fun m hm=>by rw[List.mem_singleton.1 hm];exact m1_ok) (by simp)
  (fun W0 V A mp nn ha hc i D h=>by
   rw[hs1] at h|-
   exact step6 W0 V A mp nn _ _ ha hc _ _ i D h))
 rw[res6] at HAU
 go_wp2_with (first | refine wpList_load_P rfl 58 _ rfl g1 0 rfl R1.cs _ (by rw[<-HXA.out];exact HR1A.out) Tryd.underlying58 rfl HSR0.out ?_ | refine wpList_buildOne rfl 23 58 _ rfl (some 31) rfl R1.cs.toArray i58 _ Tryd.underlying23 hi58 hz58 HS58.out (by decide) (by decide) rfl ?_ | refine wpList_load_P rfl 45 _ rfl g5 0 rfl (mkV M1) _ (by rw[<-HXA.out,<-HXB.out];exact HR5B.out) Tryd.underlying45 rfl HSM0.out ?_ | refine wpList_buildOne rfl 28 45 _ rfl (some 33) rfl (mkV M1).toArray i45 _ Tryd.underlying28 hi45 hz45 HS45.out HSMp.out HSMq.out rfl ?_ | fail)
 rw[<-HXA.out,<-HXB.out,<-HXC.out]
 refine HAU.out.mono ?_
 rintro _ V11 ⟨rfl,hb11⟩
 have HB11:=hid (Bn HBW.out hb11)
 have HG11:=hid (blk_later HGV10.out (Bn HBAC.out hb11))
 clear hb11 HAU HR1A HR5B HRC HKC HMC HRB HKA HBA HBB HBC HBAC HSA HSB HXA HXB HXC HB10 HG10 HGV10 HBW
 obtain⟨g7,hg7⟩:∃g,g=V11.heap.size:=⟨_,rfl⟩
 have HQg7:=hid hg7
 clear hg7
 go_wp2_with (first | refine wpList_alloc_W rfl 40 rfl (some 7) rfl _ HZ40.out g7 HQg7.out ?_ | fail)
 intro V12 HGV12 HBlV12 HSV12
 go_wp2_with (first | refine wpList_store_W rfl 40 _ _ rfl rfl g7 (fnV (6,0,0)).toArray rfl rfl 40 _ HGV12.out Tryd.size40c rfl (fnV_one _) ?_ | fail)
 intro V13 HGV13 HGRV13 HSV13
 have hbV13:Below V11.heap.size V11 V13:=by
  rw[<-HQg7.out]
  exact HBlV12.out.trans (bel_grown HGRV13.out (Nat.le_refl _) (by rw[HQg7.out];exact HBlV12.out.size))
 have HB13:=hid (Bn HB11.out hbV13)
 have HG13:=hid (blk_later HG11.out hbV13)
 clear hbV13 HGV12 HBlV12 HSV12 HGRV13 HSV13 HB11 HG11
 obtain⟨XA,hXA⟩:∃X,X=V13.alloc (.cells #[.int .u8 107,.int .u8 101,.int .u8 121] 5 (3,4)):=⟨_,rfl⟩
 obtain⟨XC,hXC⟩:∃X,X=XA.alloc (.cells (mkV M1).toArray 45):=⟨_,rfl⟩
 have HXA:=hid hXA
 have HXC:=hid hXC
 have HSA:Hid (XA.heap.size=V13.heap.size+1):=by show _=_;rw[hXA];simp
 have HBA:Hid (Below V13.heap.size V13 XA):=by show Below _ _ _;rw[hXA];exact bel_alc V13 _
 have HBC:Hid (Below XA.heap.size XA XC):=by show Below _ _ _;rw[hXC];exact bel_alc XA _
 have HKA:Hid (Sh.Rd XA (.slice (some ⟨V13.heap.size,0,none⟩) keyK.length 3) (some ⟨V13.heap.size,0,none⟩) 3 keyK):=by show Sh.Rd _ _ _ _ _;rw[hXA];exact key_rd V13
 have HMC:Hid (XC.heap[V13.heap.size+1]?=some (.cells (mkV M1).toArray 45)):=by show _=_;rw[hXC,<-HSA.out];exact heap_alc XA _
 have HBAC:Hid (Below V13.heap.size V13 XC):=Bn HBA.out HBC.out
 have HKC:=hid (HKA.out.later HBC.out)
 have HBW:=hid (Bn HB13.out HBAC.out)
 have HR5B:=hid (blk_range (blk_later HG13.out HBA.out))
 clear hXA hXC
 have HAU:=hid (audit_word (some ⟨V13.heap.size,0,none⟩) 3 keyK none 0 [] (some ⟨V13.heap.size+1,0,none⟩) 1 [M1] XC (HL.out.later HBW.out) HKC.out (by decide) (rr_nil XC) (fun r hr=>by cases hr) (by simp) (rw_one HMC.out) (fun m hm=>by rw[List.mem_singleton.1 hm];exact m1_ok) (by simp)
  (fun W0 V A mp nn ha hc i D h=>step5 W0 V A mp nn _ _ ha hc _ _ i D h))
 rw[res5] at HAU
 go_wp2_with (first | refine wpList_load_P rfl 45 _ rfl g5 0 rfl (mkV M1) _ (by rw[<-HXA.out];exact HR5B.out) Tryd.underlying45 rfl HSM0.out ?_ | refine wpList_buildOne rfl 28 45 _ rfl (some 38) rfl (mkV M1).toArray i45 _ Tryd.underlying28 hi45 hz45 HS45.out HSMp.out HSMq.out rfl ?_ | fail)
 rw[<-HXA.out,<-HXC.out]
 refine HAU.out.mono ?_
 rintro _ V14 ⟨rfl,hb14⟩
 have HB14:=hid (Bn HBW.out hb14)
 have HG14:=hid (blk_later HG13.out (Bn HBAC.out hb14))
 have HF14:=hid (blk_later HGV13.out (Bn HBAC.out hb14))
 clear hb14 HAU HR5B HKC HMC HKA HBA HBC HBAC HSA HXA HXC HB13 HG13 HGV13 HBW
 obtain⟨g8,hg8⟩:∃g,g=V14.heap.size:=⟨_,rfl⟩
 have HQg8:=hid hg8
 clear hg8
 go_wp2_with (first | refine wpList_alloc_W rfl 40 rfl (some 8) rfl _ HZ40.out g8 HQg8.out ?_ | fail)
 intro V15 HGV15 HBlV15 HSV15
 go_wp2_with (first | refine wpList_store_W rfl 40 _ _ rfl rfl g8 (fnV (5,0,0)).toArray rfl rfl 40 _ HGV15.out Tryd.size40c rfl (fnV_one _) ?_ | fail)
 intro V16 HGV16 HGRV16 HSV16
 have hbV16:Below V14.heap.size V14 V16:=by
  rw[<-HQg8.out]
  exact HBlV15.out.trans (bel_grown HGRV16.out (Nat.le_refl _) (by rw[HQg8.out];exact HBlV15.out.size))
 have HB16:=hid (Bn HB14.out hbV16)
 have HG16:=hid (blk_later HG14.out hbV16)
 have HF16:=hid (blk_later HF14.out hbV16)
 clear hbV16 HGV15 HBlV15 HSV15 HGRV16 HSV16 HB14 HG14 HF14
 obtain⟨XA,hXA⟩:∃X,X=V16.alloc (.cells #[.int .u8 107,.int .u8 101,.int .u8 121] 5 (3,4)):=⟨_,rfl⟩
 have HXA:=hid hXA
 have HBA:Hid (Below V16.heap.size V16 XA):=by show Below _ _ _;rw[hXA];exact bel_alc V16 _
 have HKA:Hid (Sh.Rd XA (.slice (some ⟨V16.heap.size,0,none⟩) keyK.length 3) (some ⟨V16.heap.size,0,none⟩) 3 keyK):=by show Sh.Rd _ _ _ _ _;rw[hXA];exact key_rd V16
 have HBW:=hid (Bn HB16.out HBA.out)
 have HR5B:=hid (blk_range (blk_later HG16.out HBA.out))
 clear hXA
 have hsw:=sealed_word (some ⟨V16.heap.size,0,none⟩) 3 keyK M1 XA (HL.out.later HBW.out) HKA.out (by decide) m1_ok
 rw[sealed1] at hsw
 have HSW:=hid hsw
 clear hsw
 go_wp2_with (first | refine wpList_load_g rfl 45 _ rfl g5 0 rfl (mkV M1) _ (by rw[<-HXA.out];exact HR5B.out) Tryd.underlying45 rfl HSM0.out ?_ | fail)
 rw[<-HXA.out]
 refine HSW.out.mono ?_
 rintro _ V17 ⟨rfl,hb17⟩
 have HB17:=hid (Bn HBW.out hb17)
 have HF17:=hid (blk_range (blk_later HF16.out (Bn HBA.out hb17)))
 have HH17:=hid (blk_range (blk_later HGV16.out (Bn HBA.out hb17)))
 clear hb17 HSW HR5B HKA HBA HXA HB16 HG16 HF16 HGV16 HBW
 have hgd:=guard40
 have heq6:=eq40_6
 have heq5:=eq40_5
 go_wp2_with (first | refine wpList_load_g rfl 40 _ rfl g7 0 rfl (fnV (6,0,0)) _ HF17.out Tryd.underlying40 rfl Tryd.size40c ?_ | refine wpList_load_g rfl 40 _ rfl g8 0 rfl (fnV (5,0,0)) _ HH17.out Tryd.underlying40 rfl Tryd.size40c ?_ | fail)
 go_ret
 exact⟨rfl,HB17.out⟩
end Go.Proofs.YtplinkmagnihmaaDoor
