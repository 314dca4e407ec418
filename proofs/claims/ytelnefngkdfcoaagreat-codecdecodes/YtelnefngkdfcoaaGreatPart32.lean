/-
 What BytR lacks: the document's contracts.
-/
import Derived.Test.YtelnefngkdfcoaaGreatPart22
import Derived.Test.YtelnefngkdfcoaaGreatPart29
import Derived.Test.YtelnefngkdfcoaaGreatPart31
import Derived.Test.YtelnefngkdfcoaaGreatPart23
namespace Go.Proofs.YtelnefngkdfcoaaGreat
open Go.RowKit Lz
set_option maxHeartbeats 1600000 in
set_option maxRecDepth 100000 in
theorem bytes_ref(a:Option Addr)(cap:Nat)(l:List Tkz)(w:World)(hr:Rt w a cap l)(hn:l.length<=100000):
 Calls Tryz.prog 50 #[.slice a l.length cap] w (BytPost l w):=by
 unfold BytPost
 have hroom:=hr.room
 have hmost:=hr.most
 unfold maxLen at hmost
 have HR:=hid hr
 obtain⟨len,hle⟩:∃n,n=l.length:=⟨_,rfl⟩
 have HL:=hid hle
 rw[<-hle] at hn hroom|-
 have HF0:Hid (bytesO l=bytF [] 0 (l.drop 0)):=rfl
 obtain⟨i0,hi,hi0,hi1,hi2⟩:=info_parts Tryz.info5Z
 clear hr hle
 go_enter Tryz.func50,Tryz.ntmps50
 go_wp2
 go_loopw [5,6] (fun x5 x6 wr=>∃(k:Nat) (b:List Int),k<=len∧x6= .int .i64 (k:Int)∧b.length<=65536∧Ob wr w.heap.size x5 b∧Below w.heap.size w wr∧Hid (bytesO l=bytF b k (l.drop k))) (fun _ x6 _=>len-(intOf x6).toNat)
 case atStart=>exact⟨0,[],by omega,rfl,by simp,ob_nil _ _,Below.refl _ _,HF0⟩
 case round=>
  clear HF0
  obtain⟨k,b,hk,rfl,hbl,hown,hbel,HF⟩:=hrel
  by_cases hlt:k<len
  ·have hkz:(k:Int)<(len:Int):=by omega
   obtain⟨g,off,rfl,hbw,hc⟩:=HR.out.cells (by rw[<-HL.out];omega)
   obtain⟨c0,c1,c2⟩:=hc k (by rw[<-HL.out];exact hlt)
   have d0:=(hbel.cell (p:=⟨g,off+k*3,none⟩) hbw).trans c0
   have d1:=(hbel.cell (p:=⟨g,off+k*3+1,none⟩) hbw).trans c1
   have d2:=(hbel.cell (p:=⟨g,off+k*3+2,none⟩) hbw).trans c2
   have HFT:=hid (check_refZ (l.getD k tk0) (wr.alloc (.cells (zC (l.getD k tk0)) 63)))
   have HFC:=hid (flt_chk (l.getD k tk0) (b.length:Int) (by omega))
   have HFZ:=hid (fun h=>flt_zero (t:=l.getD k tk0) (m:=(b.length:Int)) h)
   have HGL:=hid (fun h=>grow_len (t:=l.getD k tk0) (b:=b) h)
   have HGZ:Hid (growZ b (l.getD k tk0)=if (l.getD k tk0).1=0 then b++ [(l.getD k tk0).2.2] else cpyL b (l.getD k tk0).1.toNat (l.getD k tk0).2.1.toNat):=rfl
   have HDR:Hid (bytesO l=if fltZ (l.getD k tk0) b.length=0 then bytF (growZ b (l.getD k tk0)) (k+1) (l.drop (k+1)) else ([],(k:Int),fltZ (l.getD k tk0) b.length)):=by
    show _=_
    rw[HF.out,drop_getD l k (by rw[<-HL.out];exact hlt)]
    rfl
   have hft:=HR.out.fits k (by rw[<-HL.out];exact hlt)
   have hcs:=chk_or (l.getD k tk0)
   clear hc c0 c1 c2 HF
   generalize l.getD k tk0=t at *
   have hv5:∃(a5:Option Addr) (c5:Nat),u5= .slice a5 b.length c5:=by
    rcases hown.2 with ⟨hv,h0⟩ | ⟨g',cap',cur',hv,_⟩
    ·exact⟨none,0,by rw[hv,h0]⟩
    ·exact⟨some ⟨g',0,none⟩,cap',hv⟩
   obtain⟨a5,c5,rfl⟩:=hv5
   obtain⟨d,n,x⟩:=t
   unfold zC at HFT
   dsimp only at *
   have hdw:=wf_i64 hft.1
   have hnw:=wf_i64 hft.2.1
   have HOB:=hid (own_block hown)
   have hbA:=bel_allocZ wr (.cells #[.int .i64 d,.int .i64 n,.int .u8 x] 63)
   have HOA:=hid (hown.alloc (.cells #[.int .i64 d,.int .i64 n,.int .u8 x] 63))
   have HBA:=hid (Bn hbel hbA)
   have e0:(wr.alloc (.cells #[.int .i64 d,.int .i64 n,.int .u8 x] 63)).heap[wr.heap.size]?=some (.cells #[.int .i64 d,.int .i64 n,.int .u8 x] 63 (0,0)):=heap_newZ _ _
   have HE0:=hid e0
   obtain⟨bn,hbn⟩:∃bn,bn=b.length:=⟨_,rfl⟩
   have HBN:=hid hbn
   rw[<-hbn] at HFC HFZ hbl HDR|-
   rw[<-hbn] at HOA HOB
   generalize hf:fltZ (d,n,x) (bn:Int)=f at *
   have HFE:=hid hf
   generalize chkZ (d,n,x)=c at *
   clear hbA e0 hbel hown hbn hft hf
   go_wp2_with fail
   refine HFT.out.mono ?_
   rintro _ w2 ⟨rfl,hb2⟩
   have e2:=(hb2.block wr.heap.size (by simp)).trans HE0.out
   have m0:=Joins.cell_of_block e2 0
   have m1:=Joins.cell_of_block e2 1
   have m2:=Joins.cell_of_block e2 2
   simp only[List.getElem?_toArray,List.getElem?_cons_zero,List.getElem?_cons_succ] at m0 m1 m2
   have HO2:=hid (own_laterZ HOA.out hb2)
   have HB2:=hid (Bn HBA.out hb2)
   have HE2:=hid e2
   have hsz2:wr.heap.size<w2.heap.size:=by have:=hb2.size;simp at this;omega
   clear hb2 HFT e2 HE0 HOA HBA d0 d1 d2
   rcases hcs with hc0 | hc0
   ·rw[if_neg (by omega)] at HFC
    rw[hc0]
    clear hc0
    by_cases h61:(bn:Int)<d
    ·rw[if_pos h61] at HFC
     rw[HFC.out,if_neg (by decide)] at HDR
     go_wp2
     go_ret3
     exact⟨.slice none 0 0,by rw[HDR.out];rfl,by rw[HDR.out];exact ob_nil _ _,HB2.out⟩
    ·rw[if_neg h61] at HFC
     by_cases h2:65536-(bn:Int)<n
     ·rw[if_pos h2] at HFC
      rw[HFC.out,if_neg (by decide)] at HDR
      go_wp2
      go_ret3
      exact⟨.slice none 0 0,by rw[HDR.out];rfl,by rw[HDR.out];exact ob_nil _ _,HB2.out⟩
     ·rw[if_neg h2] at HFC
      rw[if_pos HFC.out] at HDR
      have hz:=HFZ.out HFC.out
      have hgl:=HGL.out (by rw[<-HBN.out,HFE.out];exact HFC.out)
      have hwb:=HB2.out.size
      rcases hz with ⟨hd0,hn1,hm⟩ | ⟨hd1,hd2,hn1,hn2,hdm,hm⟩
      ·rw[if_pos hd0] at HGZ
       have hdb:(d==0)=true:=by simpa using hd0
       have hdz:¬(bn:Int)<d:=h61
       have hOW:=HO2.out
       clear hd0 hn1 HFZ HGL hm
       go_wp2_with (at_builtin;refine wpList_append_own _ rfl _ _ 24 rfl w.heap.size 5 i0 (.int .u8 0) 1 1 Tryz.underlying24 hi hi0 hi1 hi2 rfl (by decide) _ _ _ rfl (hOW.alloc _) ⟨w2.heap.size,0,none⟩ 1 1 [.int .u8 x] rfl rfl (one_new w2 (.int .u8 x) 5) (one_cellZ _ _) (by unfold maxLen;omega) (by omega) (by simp;omega) ?_)
       intro v' w3 hown3 hgrow3 _
       have HB3:Hid (Below w.heap.size w w3):=(Bn HB2.out (bel_allocZ w2 (.cells #[.int .u8 x] 5))).grown hgrow3 (by simp;omega) (fun g hg=>(HOB.out g hg).1)
       have HO3:Hid (Ob w3 w.heap.size v' (growZ b (d,n,x))):=by
        show World.ownsRow _ _ _ _ _ _ _
        rw[HGZ.out,List.length_append,List.map_append,<-HBN.out]
        exact hown3
       clear hown3 hgrow3 hOW m0 m1 m2
       go_wp2
       exact⟨⟨k+1,_,by omega,by go_num,hgl.1,HO3.out,HB3.out,HDR⟩,by simp[intOf];omega⟩
      ·rw[if_neg (by omega)] at HGZ
       have hdb:(d==0)=false:=by simp;omega
       obtain⟨D,hD⟩:∃D:Nat,d=(D:Int):=⟨d.toNat,by omega⟩
       obtain⟨N,hN⟩:∃N:Nat,n=(N:Int):=⟨n.toNat,by omega⟩
       subst hD
       subst hN
       simp only[Int.toNat_natCast] at HGZ
       have hDb:D<=bn:=by omega
       have hD1:1<=D:=by omega
       have hNm:bn+N<=65536:=by omega
       have HLEN:Hid (∀j,(cpyL b D j).length=bn+j):=fun j=>by rw[HBN.out];exact cpyL_len b D j
       have HOA:Hid (Ob w2 w.heap.size (.slice a5 bn c5) (cpyL b D 0)):=by
        show World.ownsRow _ _ _ _ _ _ _
        rw[show(cpyL b D 0).length=bn from by rw[HBN.out];rfl]
        exact HO2.out
       obtain⟨tb,htb⟩:∃tb,tb=wr.heap.size:=⟨_,rfl⟩
       rw[<-htb] at HE2 hsz2 m0 m1 m2|-
       have htw:w.heap.size<=w2.heap.size:=hwb
       have q1:decide (bn<D)=false:=by simp;omega
       have q2:decide ((65536:Int)-(bn:Int)<(N:Int))=false:=by simp;omega
       clear htb hdm hm hd1 hd2 hn1 hn2 HFZ HGL HO2
       go_wp2_with fail
       clear m0 m1 m2
       go_loopw [5,8] (fun y5 y8 wi=>∃j:Nat,j<=N∧y8= .int .i64 (j:Int)∧Ob wi w.heap.size y5 (cpyL b D j)∧wi.heap[tb]?=some (.cells #[.int .i64 (D:Int),.int .i64 (N:Int),.int .u8 x] 63 (0,0))∧Below w.heap.size w wi) (fun _ y8 _=>N-(intOf y8).toNat)
       case atStart=>exact⟨0,by omega,rfl,HOA.out,HE2.out,HB2.out⟩
       case round=>
        clear HOA HE2 HB2
        obtain⟨j,hj,rfl,hown,htb,hbel⟩:=hrel
        have hlen:=HLEN.out j
        have m0:=Joins.cell_of_block htb 0
        have m1:=Joins.cell_of_block htb 1
        simp only[List.getElem?_toArray,List.getElem?_cons_zero,List.getElem?_cons_succ] at m0 m1
        by_cases hlt:j<N
        ·have hjz:(j:Int)<(N:Int):=by omega
         have HST:Hid (cpyL b D (j+1)=cpyL b D j++ [(cpyL b D j).getD ((cpyL b D j).length-D) 0]):=rfl
         have hob:=own_block hown
         have hne:u5.ownBlock≠some tb:=fun e=>by
          rcases hown.2 with ⟨hv,_⟩ | ⟨g',cap',cur',hv,_,hg',_⟩
          ·rw[hv] at e;cases e
          ·rw[hv] at e
           simp only[Value.ownBlock,Option.some.injEq] at e
           rw[e,htb] at hg'
           cases hg'
         obtain⟨L,hL⟩:∃L,L+1=(cpyL b D j).length:=⟨bn+j-1,by omega⟩
         obtain⟨gg,gcap,rfl⟩:=ownsRow_succ (k:=L) (by rw[hL];exact hown)
         obtain⟨i,hi'⟩:∃i,i=(cpyL b D j).length-D:=⟨_,rfl⟩
         rw[<-hi'] at HST
         have ci:wr.cell? ⟨gg,i,none⟩=some (.int .u8 ((cpyL b D j).getD i 0)):=by
          have hown':=hown
          rw[hL] at hown'
          rw[hown'.cellAt i (by omega),List.getElem?_map,List.getElem?_eq_getElem (by omega)]
          simp[List.getD,List.getElem?_eq_getElem (show i<(cpyL b D j).length by omega)]
         obtain⟨M,hM⟩:∃M,M=L+1:=⟨_,rfl⟩
         rw[<-hM] at hown hL hob hne|-
         have hiz:(M:Int)-(D:Int)=(i:Int):=by omega
         have hiM:i<M:=by omega
         have hMl:M<=65536:=by omega
         have htl:=(Array.getElem?_eq_some_iff.1 htb).1
         have HTB:=hid htb
         have HBEL:=hid hbel
         have HOB2:=hid hob
         have HNE:=hid hne
         have hwb2:=hbel.size
         have HLM:Hid ((cpyL b D j).length=M):=hL.symm
         generalize (cpyL b D j).getD i 0=y at *
         have hown2:wr.ownsRow w.heap.size 5 1 (.slice (some ⟨gg,0,none⟩) M gcap) M ((cpyL b D j).map (Value.int .u8)):=by
          have h:wr.ownsRow w.heap.size 5 1 (.slice (some ⟨gg,0,none⟩) M gcap) (cpyL b D j).length ((cpyL b D j).map (Value.int .u8)):=hown
          rwa[HLM.out] at h
         clear hM hL hob hne htb hbel hown hlen hi' HLEN
         go_wp2_with (at_builtin;refine wpList_append_own _ rfl _ _ 24 rfl w.heap.size 5 i0 (.int .u8 0) 1 1 Tryz.underlying24 hi hi0 hi1 hi2 rfl (by decide) _ _ _ rfl (hown2.alloc _) ⟨wr.heap.size,0,none⟩ 1 1 [.int .u8 y] rfl rfl (one_new wr (.int .u8 y) 5) (one_cellZ _ _) (by unfold maxLen;omega) (by omega) (by simp;omega) ?_)
         intro v' w3 hown3 hgrow3 _
         have HB3:Hid (Below w.heap.size w w3):=(Bn HBEL.out (bel_allocZ wr (.cells #[.int .u8 y] 5))).grown hgrow3 (by simp;omega) (fun g hg=>(HOB2.out g hg).1)
         have HT3:Hid (w3.heap[tb]?=some (.cells #[.int .i64 (D:Int),.int .i64 (N:Int),.int .u8 x] 63 (0,0))):=
          (hgrow3.block tb (by simp;omega) (fun e=>HNE.out e.symm)).trans (heap_old _ _ HTB.out)
         have HO3:Hid (Ob w3 w.heap.size v' (cpyL b D (j+1))):=by
          show World.ownsRow _ _ _ _ _ _ _
          rw[HST.out,List.length_append,List.map_append,HLM.out]
          exact hown3
         clear hown3 hgrow3 hown2 ci m0 m1 HOB2 HNE HBEL HTB
         go_wp2
         exact⟨⟨j+1,by omega,by go_num,HO3.out,HT3.out,HB3.out⟩,by simp[intOf];omega⟩
        ·obtain rfl:j=N:=by omega
         have hjz:¬(j:Int)<(j:Int):=by omega
         have HOW:=hid hown
         have HBEL:=hid hbel
         clear hown hbel htb
         go_wp2
         exact⟨⟨k+1,_,by omega,by go_num,hgl.1,by rw[HGZ.out];exact HOW.out,HBEL.out,HDR⟩,by simp[intOf];omega⟩
   ·rw[if_pos (by omega)] at HFC
    rw[HFC.out,if_neg (by decide)] at HDR
    rw[hc0]
    clear hc0
    go_wp2
    go_ret3
    exact⟨.slice none 0 0,by rw[HDR.out];rfl,by rw[HDR.out];exact ob_nil _ _,HB2.out⟩
  ·obtain rfl:k=len:=by omega
   have hkz:¬(k:Int)<(k:Int):=by omega
   have HO:Hid (bytesO l=(b,0,0)):=by
    show _=_
    rw[HF.out,List.drop_eq_nil_of_le (by rw[<-HL.out];omega)]
    rfl
   go_wp2
   go_ret3
   exact⟨_,by rw[HO.out];rfl,by rw[HO.out];exact hown,hbel⟩
end Go.Proofs.YtelnefngkdfcoaaGreat
/-
 The document's Decode.
-/
namespace Go.Proofs.YtelnefngkdfcoaaGreat
open Go.RowKit Hf Lz
theorem own_nilD(w:World):(w.alloc (.cells #[] 5)).ownsRow w.heap.size 5 1 (.slice (some ⟨w.heap.size,0,none⟩) 0 0) ([]:List Int).length (([]:List Int).map (Value.int .u8)):=
 ⟨rfl,.inr ⟨w.heap.size,0,#[],rfl,Nat.le_refl _,heap_new w _,Nat.le_refl _,by unfold maxLen;omega,rfl,rfl⟩⟩
set_option maxHeartbeats 3200000 in
set_option maxRecDepth 100000 in
theorem rdec_ref(a:Option Addr)(cap:Nat)(zs:List Int)(w:World)(hr:Ri w .u8 a cap zs)(hz:zs.length<=2100):
 Calls Tryz.prog 18 #[.slice a zs.length cap] w (DecPost zs w):=by
 have HHD:=hid (rhed_ref a cap zs w hr)
 have HR:=hid hr
 have hby:∀j,0<=zs.getD j 0∧zs.getD j 0<=255:=fun j=>wf_u8 (hr.fits j)
 have HP:Hid (∀e w' o,rowO zs=o->DecPost zs w e w'=(Below w.heap.size w w'∧match o with
  | none=>e= .returned (.tuple #[.slice none 0 0,.int .i64 70])
  | some l=>∃a c,e= .returned (.tuple #[.slice a l.length c,.int .i64 0])∧Ri w' .u8 a c l)):=fun e w' o h=>by subst h;rfl
 have HRO:Hid (rowO zs=match headO zs with
  | none=>none
  | some ((n,p),rs)=>if p=true then
   match unpO rs with
   | none=>none
   | some l=>if (bytesO l).2.2=0∧(bytesO l).1.length=n then some (bytesO l).1 else none
   else if rs.length=n then some rs else none):=rfl
 have HHT:=hid (fun n p rs=>head_tail (zs:=zs) (rs:=rs) (n:=n) (p:=p) hby)
 unfold hedT at HHD
 clear hr hby
 obtain⟨len,hl⟩:∃n,n=zs.length:=⟨_,rfl⟩
 have HL:=hid hl
 rw[<-hl] at hz HHD HHT|-
 clear hl
 go_enter Tryz.func18,Tryz.ntmps18
 go_wp2_with fail
 refine HHD.out.mono ?_
 rintro _ w1 ⟨he,hb1⟩
 have HB1:=hid hb1
 clear hb1 HHD
 cases hh:headO zs with
 | none=>
   rw[hh] at he HRO
   dsimp only at he HRO
   subst he
   clear hh
   go_wp2_with fail
   go_ret2
   rw[HP.out _ _ _ HRO.out]
   exact⟨HB1.out,rfl⟩
 | some x=>
   obtain⟨⟨n,p⟩,rs⟩:=x
   rw[hh] at he HRO
   dsimp only at he HRO
   subst he
   obtain⟨t1,t2,t3⟩:=HHT.out n p rs hh
   have HV:=hid (varr_ri (n:Int) w1 (by omega) (by omega))
   obtain⟨q,hq⟩:∃q:Nat,q=1+(vint (n:Int)).length:=⟨_,rfl⟩
   have hqi:(1:Int)+(((vint (n:Int)).length:Nat):Int)=(q:Int):=by omega
   rw[<-hq] at t1 t2
   obtain⟨a2,c2,hsl,hr2⟩:=HR.out.high q (by rw[<-HL.out];exact t1)
   have hsh:=fun W=>slice_hi a len cap q t1 W
   rw[<-HL.out] at hsl
   rw[hsl] at hsh
   rw[t2] at hsh hr2
   have HR2:=hid hr2
   have hrl:rs.length<=2100:=by have:=congrArg List.length t2;rw[List.length_drop] at this;have:=HL.out;omega
   obtain⟨rl,hrl2⟩:∃n,n=rs.length:=⟨_,rfl⟩
   have HRL:=hid hrl2
   rw[<-hrl2] at hsh hrl HRO
   clear hq t2 hsl hr2 hrl2 HHT hh
   generalize (vint (n:Int)).length=vl at *
   have hn6:n<=65536:=t3
   clear t3
   go_wp2_with fail
   refine HV.out.mono ?_
   rintro _ w2 ⟨va,vc,rfl,_,hb2⟩
   have HB2:=hid (Bn HB1.out hb2)
   clear hb2 HV
   cases p with
   | false=>
     rw[if_neg (by decide)] at HRO
     by_cases hne:rl=n
     ·subst hne
      rw[if_pos rfl] at HRO
      have g1:((rl:Int) !=(rl:Int))=false:=by simp
      have HA:=hid (HR2.out.later (Bn HB2.out (bel_alloc w2 (.cells #[] 5))))
      have HO:=hid (own_nilD w2)
      have HS:Hid (w2.heap.size<=(w2.alloc (.cells #[] 5)).heap.size):=(bel_alloc w2 _).size
      have HBA:=hid (bel_alloc w2 (.cells #[] 5))
      have HN:Hid (([]:List Int).length+rs.length<=10000000):=by show _<=_;rw[<-HRL.out];simp;omega
      go_wp2_with (at_builtin;refine app_any _ rfl _ _ rfl w2.heap.size _ [] rfl HO.out a2 c2 rs (by rw[<-HRL.out];rfl) HA.out HN.out HS.out ?_)
      intro v3 w3 ho3 hg3
      have HB3:=hid (Bn HB2.out (HBA.out.grown hg3 HS.out (fun j hj=>(HO.out.lt j hj).1)))
      have ho3':w3.ownsRow w2.heap.size 5 1 v3 rs.length (rs.map (Value.int .u8)):=by simpa using ho3
      obtain⟨a3,c3,rfl,hr3⟩:=Ri.own ho3' HR2.out.fits
      have HR3:=hid hr3
      rw[<-HRL.out]
      clear ho3 hg3 ho3' hr3 HA HO HS HBA HN
      go_wp2_with fail
      go_ret2
      rw[HP.out _ _ _ HRO.out]
      exact⟨HB3.out,a3,c3,by rw[<-HRL.out];rfl,HR3.out⟩
     ·rw[if_neg hne] at HRO
      have g1:((rl:Int) !=(n:Int))=true:=by rw[bne_iff_ne];omega
      have g1n:¬rl=n:=hne
      have g1z:¬(rl:Int)=(n:Int):=by omega
      go_wp2_with fail
      go_ret2
      rw[HP.out _ _ _ HRO.out]
      exact⟨HB2.out,rfl⟩
   | true=>
     rw[if_pos rfl] at HRO
     have HU:=hid (runp_ref a2 c2 rs w2 (HR2.out.later HB2.out) (by rw[<-HRL.out];exact hrl))
     unfold UnpPost at HU
     have HUR:=hid (fun l (h:unpO rs=some l)=>unpO_rng h)
     rw[<-HRL.out] at HU HUR
     generalize unpO rs=U at *
     go_wp2_with fail
     refine HU.out.mono ?_
     rintro _ w3 ⟨hb3,he⟩
     have HB3:=hid (Bn HB2.out hb3)
     clear hb3 HU
     cases U with
     | none=>
       dsimp only at he HRO
       subst he
       go_wp2_with fail
       go_ret2
       rw[HP.out _ _ _ HRO.out]
       exact⟨HB3.out,rfl⟩
     | some l=>
       dsimp only at he HRO
       obtain⟨a4,c4,rfl,hrt⟩:=he
       obtain⟨hin,hll⟩:=HUR.out l rfl
       have HBY:=hid (bytes_ref a4 c4 l w3 hrt (by omega))
       unfold BytPost at HBY
       have H8:Hid (Bytes8 (bytesO l).1):=bytF_fit l [] 0 (fun j=>by simp;exact wf_mk_u8 (by omega) (by omega)) (fun t ht=>wf_mk_u8 (hin t ht).2.2.2.2.1 (hin t ht).2.2.2.2.2)
       clear hrt hin hll HUR
       generalize l.length=ll at *
       generalize bytesO l=B at *
       obtain⟨bs,bi,be⟩:=B
       dsimp only at HBY H8 HRO
       go_wp2_with fail
       refine HBY.out.mono ?_
       rintro _ w4 ⟨v,rfl,ho,hb4⟩
       obtain⟨a5,c5,rfl,hr5⟩:=Ri.own ho H8.out
       have HB4:=hid (Bn HB3.out hb4)
       have HR5:=hid hr5
       obtain⟨bl,hbl⟩:∃n,n=bs.length:=⟨_,rfl⟩
       have HBL:=hid hbl
       rw[<-hbl] at HRO|-
       clear hb4 ho hr5 HBY hbl
       by_cases hbe:be=0
       ·subst hbe
        by_cases hne:bl=n
        ·subst hne
         rw[if_pos ⟨rfl,rfl⟩] at HRO
         have g1:((bl:Int) !=(bl:Int))=false:=by simp
         go_wp2_with fail
         go_ret2
         rw[HP.out _ _ _ HRO.out]
         exact⟨HB4.out,a5,c5,by rw[<-HBL.out];rfl,HR5.out⟩
        ·rw[if_neg (fun h=>hne h.2)] at HRO
         have g1:((bl:Int) !=(n:Int))=true:=by rw[bne_iff_ne];omega
         have g1z:¬(bl:Int)=(n:Int):=by omega
         go_wp2_with fail
         go_ret2
         rw[HP.out _ _ _ HRO.out]
         exact⟨HB4.out,rfl⟩
       ·rw[if_neg (fun h=>hbe h.1)] at HRO
        have g0:(be != 0)=true:=by rw[bne_iff_ne];exact hbe
        clear hbe
        go_wp2_with fail
        go_ret2
        rw[HP.out _ _ _ HRO.out]
        exact⟨HB4.out,rfl⟩
end Go.Proofs.YtelnefngkdfcoaaGreat
/-
 The code's Head, whatever is handed in.
-/
namespace Go.Proofs.YtelnefngkdfcoaaGreat
open Go.RowKit Hf Lz
set_option maxHeartbeats 3200000 in
set_option maxRecDepth 100000 in
theorem hcl_ok(gb:Nat)(a:Option Addr)(cap:Nat)(zs:List Int)(w:World)(hbx:w.cell? ⟨gb,0,none⟩=some (.slice a zs.length cap))(hlt:gb<w.heap.size)(hr:Ri w .u8 a cap zs)(n:Nat)(p:Bool)(rs:List Int)(hh:headO zs=some ((n,p),rs)):
 Calls Tryz.prog 52 #[.pointer (some ⟨gb,0,none⟩)] w fun e w'=>e= .returned (.agg #[.int .i64 (n:Int),.bool p])∧Below w.heap.size w w':=by
 have eA:=heap_new w (.cells #[.int .i64 0,.bool false] 94)
 have bA:=bel_alloc w (.cells #[.int .i64 0,.bool false] 94)
 have hbx2:=(bA.cell (p:=⟨gb,0,none⟩) hlt).trans hbx
 obtain⟨len,hl⟩:∃n,n=zs.length:=⟨_,rfl⟩
 have HL:=hid hl
 rw[<-hl] at hbx2
 have e0:=heap_new (w.alloc (.cells #[.int .i64 0,.bool false] 94)) (.cells #[.slice a len cap] 80)
 have b0:=Bn bA (bel_alloc _ (.cells #[.slice a len cap] 80))
 simp only[World.size_alloc] at e0
 have eA2:=heap_old _ (.cells #[.slice a len cap] 80) eA
 have hRr:Rr w ((w.alloc (.cells #[.int .i64 0,.bool false] 94)).alloc (.cells #[.slice a len cap] 80)) (w.heap.size+1) 80 [] a cap zs:=⟨by rw[<-hl];exact e0,hr,b0,by omega⟩
 have HT:=hid (head_word w _ (w.heap.size+1) 80 [] a cap zs hRr)
 rw[hh] at HT
 have HEA:=hid eA2
 clear hr hRr eA bA e0 b0 hbx hl hh eA2
 go_enter Tryz.func52,Tryz.ntmps52
 go_wp2_with fail
 refine HT.out.mono ?_
 rintro _ w2 ⟨rfl,⟨a2,c2,hR2⟩,hF⟩
 have hE2:=(hF.same w.heap.size (Array.getElem?_eq_some_iff.1 HEA.out).1 (by omega)).trans HEA.out
 have fz0:=Joins.unfrozen_of_block hE2 0
 have fz1:=Joins.unfrozen_of_block hE2 1
 have d0:=Joins.cell_of_block hE2 0
 have d1:=Joins.cell_of_block hE2 1
 simp only[List.getElem?_toArray,List.getElem?_cons_zero,List.getElem?_cons_succ] at d0 d1
 have hX:((w2.setCell ⟨w.heap.size,0,none⟩ (.int .i64 (n:Int))).setCell ⟨w.heap.size,1,none⟩ (.bool p)).heap[w.heap.size]?=some (.cells #[.int .i64 (n:Int),.bool p] 94 (0,0)):=by
  rw[Joins.block_setCell (Joins.block_setCell hE2 _) _];simp
 have HX:=hid hX
 have HXB:=hid ((hR2.bel.setCell (p:=⟨w.heap.size,0,none⟩) (Nat.le_refl _) (.int .i64 (n:Int))).setCell (p:=⟨w.heap.size,1,none⟩) (Nat.le_refl _) (.bool p))
 clear hE2 hX hF hR2 HT
 go_wp2_with fail
 refine bodyPost_ret (results_cell_row (ty:=94) (cs:= #[.int .i64 (n:Int),.bool p]) rfl _ _ _ _ _ _ rfl HX.out Tryz.underlying94 rfl (by kernel_rfl)) rfl ?_
 exact⟨rfl,HXB.out⟩
set_option maxRecDepth 100000 in
theorem catchh_idle(p:Addr)(w:World):
 CallsD Tryz.prog 84 #[.pointer (some p)] .returning w fun e u' w'=>e= .returned (.tuple #[])∧u'= .returning∧w'=w:=by
 refine callsD_of_wpS Tryz.func84 rfl fun c₀ cs hu=>?_
 apply wpS_seq
 apply wpS_region
 simp[wpOpsS,go_sem,recoverD,hu,Tryz.ntmps84,Exit.thenS]
 refine wpS_of_wp ?_
 change Code.wp _ _ _ ⟨#[.pointer (some p),.nilIface,undef,undef,.nilIface,undef,undef,undef,undef,undef,undef,undef,undef,undef,undef],[]⟩ w
 generalize hQ:(fun(x:Exit) (a:Act) (w':World)=>bodyPostS Tryz.prog Tryz.f84 c₀ cs (fun e u' w'=>e=Ending.returned (Value.tuple #[])∧u'=FrameMode.returning∧w'=w) x a (c₀::cs) w')=Q
 go_wp2
 subst hQ
 refine⟨rfl,.returning,?_,.tuple #[],results_none rfl _ _ _,rfl,rfl,rfl⟩
 cases c₀
 simp_all
set_option maxHeartbeats 3200000 in
set_option maxRecDepth 100000 in
theorem caughth_ok(q:Addr)(w:World)(n:Int)(p:Bool)
 (hC:Calls Tryz.prog 52 #[.pointer (some q)] ((w.alloc (.cells #[.int .i64 0,.bool false] 94)).alloc (.cells #[.int .i64 0] 25)) fun e w'=>e= .returned (.agg #[.int .i64 n,.bool p])∧Below ((w.alloc (.cells #[.int .i64 0,.bool false] 94)).alloc (.cells #[.int .i64 0] 25)).heap.size ((w.alloc (.cells #[.int .i64 0,.bool false] 94)).alloc (.cells #[.int .i64 0] 25)) w') :
 Calls Tryz.prog 51 #[.func (.func 52) #[] #[.pointer (some q)]] w fun e w'=>Below w.heap.size w w'∧e= .returned (.tuple #[.agg #[.int .i64 n,.bool p],.int .i64 0]):=by
 have hmf:∀(fn:Fn) (first cap:Array Value) (w:World),(Instr.makeFunc fn first cap).run Tryz.prog w= .ok (.func fn first cap) w:=fun _ _ _ _=>rfl
 have HC:=hid hC
 have eA:=heap_new w (.cells #[.int .i64 0,.bool false] 94)
 have eB:=heap_new (w.alloc (.cells #[.int .i64 0,.bool false] 94)) (.cells #[.int .i64 0] 25)
 simp only[World.size_alloc] at eB
 have eA2:=heap_old _ (.cells #[.int .i64 0] 25) eA
 have hb0:=Bn (bel_alloc w (.cells #[.int .i64 0,.bool false] 94)) (bel_alloc _ (.cells #[.int .i64 0] 25))
 clear hC eA
 go_enter_defers Tryz.func51,Tryz.ntmps51
 go_wp2_with fail
 refine HC.out.mono ?_
 rintro _ w1 ⟨rfl,hb⟩
 have e1:=(hb.block w.heap.size (Array.getElem?_eq_some_iff.1 eA2).1).trans eA2
 have e2:=(hb.block (w.heap.size+1) (Array.getElem?_eq_some_iff.1 eB).1).trans eB
 have fz0:=Joins.unfrozen_of_block e1 0
 have fz1:=Joins.unfrozen_of_block e1 1
 have d0:=Joins.cell_of_block e1 0
 have d1:=Joins.cell_of_block e1 1
 have fz2:=Joins.unfrozen_of_block e2 0
 have d2:=Joins.cell_of_block e2 0
 simp only[List.getElem?_toArray,List.getElem?_cons_zero,List.getElem?_cons_succ] at d0 d1 d2
 have hA:((w1.setCell ⟨w.heap.size,0,none⟩ (.int .i64 n)).setCell ⟨w.heap.size,1,none⟩ (.bool p)).heap[w.heap.size]?=some (.cells #[.int .i64 n,.bool p] 94 (0,0)):=by
  rw[Joins.block_setCell (Joins.block_setCell e1 _) _];simp
 have e2':((w1.setCell ⟨w.heap.size,0,none⟩ (.int .i64 n)).setCell ⟨w.heap.size,1,none⟩ (.bool p)).heap[w.heap.size+1]?=some (.cells #[.int .i64 0] 25 (0,0)):=
  (heap_put_other (Joins.block_setCell e1 _) (by omega) _).trans ((heap_put_other e1 (by omega) _).trans e2)
 have fz3:=Joins.unfrozen_of_block e2' 0
 have d3:=Joins.cell_of_block e2' 0
 have hW0:(((w1.setCell ⟨w.heap.size,0,none⟩ (.int .i64 n)).setCell ⟨w.heap.size,1,none⟩ (.bool p)).setCell ⟨w.heap.size+1,0,none⟩ (.int .i64 0)).heap[w.heap.size]?=some (.cells #[.int .i64 n,.bool p] 94 (0,0)):=(heap_put_other e2' (by omega) _).trans hA
 have hW1:(((w1.setCell ⟨w.heap.size,0,none⟩ (.int .i64 n)).setCell ⟨w.heap.size,1,none⟩ (.bool p)).setCell ⟨w.heap.size+1,0,none⟩ (.int .i64 0)).heap[w.heap.size+1]?=some (.cells #[.int .i64 0] 25 (0,0)):=by
  rw[Joins.block_setCell e2' _];simp
 have k0:=Joins.cell_of_block hW0 0
 have k1:=Joins.cell_of_block hW0 1
 have k2:=Joins.cell_of_block hW1 0
 simp only[List.getElem?_toArray,List.getElem?_cons_zero,List.getElem?_cons_succ] at d3 k0 k1 k2
 have HBB:=hid ((((Bn hb0 hb).setCell (p:=⟨w.heap.size,0,none⟩) (Nat.le_refl _) (.int .i64 n)).setCell (p:=⟨w.heap.size,1,none⟩) (Nat.le_refl _) (.bool p)).setCell (p:=⟨w.heap.size+1,0,none⟩) (show w.heap.size<=w.heap.size+1 by omega) (.int .i64 0))
 clear e1 e2 hA e2' hW0 hW1 hb hb0 HC eA2 eB
 go_wp2_with fail
 refine leaves_cons (f:=84) (args:= #[.pointer (some ⟨w.heap.size+1,0,none⟩)]) (by simp) (by simp[go_sem]) ?_
 refine(catchh_idle ⟨w.heap.size+1,0,none⟩ _).mono ?_
 rintro e u' w'' ⟨rfl,rfl,hw⟩
 obtain rfl:=hw.symm
 clear hw fz0 fz1 fz2 fz3 d0 d1 d2 d3
 generalize ((w1.setCell ⟨w.heap.size,0,none⟩ (.int .i64 n)).setCell ⟨w.heap.size,1,none⟩ (.bool p)).setCell ⟨w.heap.size+1,0,none⟩ (.int .i64 0)=W at *
 simp[Leaves,settle,results,Tryz.results51,go_sem,k0,k1,k2]
 exact HBB.out
set_option maxHeartbeats 3200000 in
set_option maxRecDepth 100000 in
theorem hcl_no(gb:Nat)(a:Option Addr)(cap:Nat)(zs:List Int)(w:World)(hbx:w.cell? ⟨gb,0,none⟩=some (.slice a zs.length cap))(hlt:gb<w.heap.size)(hr:Ri w .u8 a cap zs)(hh:headO zs=none):
 Calls Tryz.prog 52 #[.pointer (some ⟨gb,0,none⟩)] w fun e w'=>e= .panicked faultC∧Below w.heap.size w w':=by
 have bA:=bel_alloc w (.cells #[.int .i64 0,.bool false] 94)
 have hbx2:=(bA.cell (p:=⟨gb,0,none⟩) hlt).trans hbx
 obtain⟨len,hl⟩:∃n,n=zs.length:=⟨_,rfl⟩
 have HL:=hid hl
 rw[<-hl] at hbx2
 have e0:=heap_new (w.alloc (.cells #[.int .i64 0,.bool false] 94)) (.cells #[.slice a len cap] 80)
 have b0:=Bn bA (bel_alloc _ (.cells #[.slice a len cap] 80))
 simp only[World.size_alloc] at e0
 have hRr:Rr w ((w.alloc (.cells #[.int .i64 0,.bool false] 94)).alloc (.cells #[.slice a len cap] 80)) (w.heap.size+1) 80 [] a cap zs:=⟨by rw[<-hl];exact e0,hr,b0,by omega⟩
 have HT:=hid (head_word w _ (w.heap.size+1) 80 [] a cap zs hRr)
 rw[hh] at HT
 unfold HedPost at HT
 dsimp only at HT
 clear hr hRr bA e0 b0 hbx hl hh
 go_enter Tryz.func52,Tryz.ntmps52
 go_wp2_with fail
 refine HT.out.mono ?_
 rintro _ w2 hp
 obtain⟨rfl,hp⟩:=hp
 exact⟨rfl,rfl,hp.2⟩
set_option maxRecDepth 100000 in
theorem catchh_fault(p:Addr)(x:Int)(w:World)(hc:w.cell? p=some (.int .i64 x))(hz:w.frozen? p=false)(hp:p.block<w.heap.size):
 CallsD Tryz.prog 84 #[.pointer (some p)] (.panicking faultC) w fun e u' w'=>e= .returned (.tuple #[])∧u'= .panicking [{v:= .iface 115 (.agg #[]),recovered:=true}]∧w'=(w.alloc (.cells #[] 115)).setCell p (.int .i64 70):=by
 refine callsD_of_wpS Tryz.func84 rfl fun c₀ cs hu=>?_
 apply wpS_seq
 apply wpS_region
 simp[wpOpsS,go_sem,recoverD,hu,Tryz.ntmps84,Exit.thenS]
 refine wpS_of_wp ?_
 have hb:=bel_alloc w (.cells #[] 115)
 have hc2:(w.alloc (.cells #[] 115)).cell? p=some (.int .i64 x):=(hb.cell hp).trans hc
 have hz2:(w.alloc (.cells #[] 115)).frozen? p=false:=(hb.frozen hp).trans hz
 have A:=assert75
 clear hc hz hb
 change Code.wp _ _ _ ⟨#[.pointer (some p),.iface 115 (.agg #[]),undef,undef,.iface 115 (.agg #[]),undef,undef,undef,undef,undef,undef,undef,undef,undef,undef],[]⟩ w
 go_wp2
 exact⟨rfl,_,rfl,.tuple #[],results_none rfl _ _ _,rfl,rfl,rfl⟩
set_option maxHeartbeats 3200000 in
set_option maxRecDepth 100000 in
theorem caughth_no(q:Addr)(w:World)
 (hC:Calls Tryz.prog 52 #[.pointer (some q)] ((w.alloc (.cells #[.int .i64 0,.bool false] 94)).alloc (.cells #[.int .i64 0] 25)) fun e w'=>e= .panicked faultC∧Below ((w.alloc (.cells #[.int .i64 0,.bool false] 94)).alloc (.cells #[.int .i64 0] 25)).heap.size ((w.alloc (.cells #[.int .i64 0,.bool false] 94)).alloc (.cells #[.int .i64 0] 25)) w') :
 Calls Tryz.prog 51 #[.func (.func 52) #[] #[.pointer (some q)]] w fun e w'=>Below w.heap.size w w'∧e= .returned (.tuple #[.agg #[.int .i64 0,.bool false],.int .i64 70]):=by
 have hmf:∀(fn:Fn) (first cap:Array Value) (w:World),(Instr.makeFunc fn first cap).run Tryz.prog w= .ok (.func fn first cap) w:=fun _ _ _ _=>rfl
 have HC:=hid hC
 have eA:=heap_new w (.cells #[.int .i64 0,.bool false] 94)
 have eB:=heap_new (w.alloc (.cells #[.int .i64 0,.bool false] 94)) (.cells #[.int .i64 0] 25)
 simp only[World.size_alloc] at eB
 have eA2:=heap_old _ (.cells #[.int .i64 0] 25) eA
 have hb0:=Bn (bel_alloc w (.cells #[.int .i64 0,.bool false] 94)) (bel_alloc _ (.cells #[.int .i64 0] 25))
 clear hC eA
 go_enter_defers Tryz.func51,Tryz.ntmps51
 go_wp2_with fail
 refine HC.out.mono ?_
 rintro _ w1 ⟨rfl,hb⟩
 have e1:=(hb.block w.heap.size (Array.getElem?_eq_some_iff.1 eA2).1).trans eA2
 have e2:=(hb.block (w.heap.size+1) (Array.getElem?_eq_some_iff.1 eB).1).trans eB
 have c1:=Joins.cell_of_block e2 0
 have u1:=Joins.unfrozen_of_block e2 0
 simp only[List.getElem?_toArray,List.getElem?_cons_zero] at c1
 have hB:=Bn hb0 hb
 have hB2:=(hB.alloc hB.size (.cells #[] 115)).setCell (p:=⟨w.heap.size+1,0,none⟩) (show w.heap.size<=w.heap.size+1 by omega) (.int .i64 70)
 have f2:=heap_old w1 (.cells #[] 115) e2
 have f1:=heap_old w1 (.cells #[] 115) e1
 have hW0:((w1.alloc (.cells #[] 115)).setCell ⟨w.heap.size+1,0,none⟩ (.int .i64 70)).heap[w.heap.size]?=some (.cells #[.int .i64 0,.bool false] 94 (0,0)):=(heap_put_other f2 (by omega) _).trans f1
 have hW1:((w1.alloc (.cells #[] 115)).setCell ⟨w.heap.size+1,0,none⟩ (.int .i64 70)).heap[w.heap.size+1]?=some (.cells #[.int .i64 70] 25 (0,0)):=by
  rw[Joins.block_setCell f2 _];simp
 have k0:=Joins.cell_of_block hW0 0
 have k1:=Joins.cell_of_block hW0 1
 have k2:=Joins.cell_of_block hW1 0
 simp only[List.getElem?_toArray,List.getElem?_cons_zero,List.getElem?_cons_succ] at k0 k1 k2
 have HB2:=hid hB2
 have hlt:w.heap.size+1<w1.heap.size:=(Array.getElem?_eq_some_iff.1 e2).1
 clear hB2 hB hb hb0 HC eA2 eB e1 e2 f1 f2 hW0 hW1
 refine leaves_cons (f:=84) (args:= #[.pointer (some ⟨w.heap.size+1,0,none⟩)]) (by simp) (by simp[go_sem]) ?_
 refine(catchh_fault ⟨w.heap.size+1,0,none⟩ 0 w1 c1 u1 hlt).mono ?_
 rintro e u' w'' ⟨rfl,rfl,rfl⟩
 generalize (w1.alloc (.cells #[] 115)).setCell ⟨w.heap.size+1,0,none⟩ (.int .i64 70)=W at *
 simp[Leaves,settle,results,Tryz.results51,go_sem,k0,k1,k2]
 exact HB2.out
set_option maxHeartbeats 3200000 in
set_option maxRecDepth 100000 in
theorem headf_ok(a:Option Addr)(cap:Nat)(zs:List Int)(w:World)(hr:Ri w .u8 a cap zs)(n:Nat)(p:Bool)(rs:List Int)(hh:headO zs=some ((n,p),rs)):
 Calls Tryz.prog 19 #[.slice a zs.length cap] w fun e w'=>Below w.heap.size w w'∧e= .returned (.tuple #[.int .i64 (n:Int),.bool p,.int .i64 0]):=by
 have hmf:∀(fn:Fn) (first cap:Array Value) (w:World),(Instr.makeFunc fn first cap).run Tryz.prog w= .ok (.func fn first cap) w:=fun _ _ _ _=>rfl
 have hb1:=bel_alloc w (.cells #[.slice a zs.length cap] 24)
 have e1:=heap_new w (.cells #[.slice a zs.length cap] 24)
 have s1:(w.alloc (.cells #[.slice a zs.length cap] 24)).heap.size=w.heap.size+1:=by simp
 generalize hW1:w.alloc (.cells #[.slice a zs.length cap] 24)=w1 at *
 have hb2:=Bn (bel_alloc w1 (.cells #[.int .i64 0,.bool false] 94)) (bel_alloc _ (.cells #[.int .i64 0] 25))
 have hcl:=hcl_ok w.heap.size a cap zs ((w1.alloc (.cells #[.int .i64 0,.bool false] 94)).alloc (.cells #[.int .i64 0] 25)) ((hb2.cell (p:=⟨w.heap.size,0,none⟩) (by show w.heap.size<w1.heap.size;omega)).trans (by simpa using Joins.cell_of_block e1 0)) (by have:=hb2.size;omega) ((hr.later hb1).later hb2) n p rs hh
 have HCW:=hid (caughth_ok ⟨w.heap.size,0,none⟩ w1 (n:Int) p hcl)
 have HB1:=hid hb1
 have HW1:=hid hW1
 generalize zs.length=len at *
 clear hcl hb2 hb1 s1 hr e1 hW1 hh
 go_enter Tryz.func19,Tryz.ntmps19
 go_wp2_with fail
 rw[HW1.out]
 refine HCW.out.mono ?_
 rintro _ w2 ⟨hb,rfl⟩
 have HB:=hid (Bn (Bn HB1.out hb) (bel_alloc w2 (.cells #[.int .i64 (n:Int),.bool p] 94)))
 have eT:=heap_new w2 (.cells #[.int .i64 (n:Int),.bool p] 94)
 have k0:=Joins.cell_of_block eT 0
 have k1:=Joins.cell_of_block eT 1
 simp only[List.getElem?_toArray,List.getElem?_cons_zero,List.getElem?_cons_succ] at k0 k1
 clear hb HCW eT
 go_wp2_with fail
 refine wp_region_quiet_lit (by kernel_rfl) (by kernel_rfl) ?_
 repeat (go_big_quiet_step (fail))
 refine wpQuiet_nil ?_
 intro _ hw'
 obtain⟨nq,hw''⟩:=hw'
 subst hw''
 have HBQ:=hid (bel_drewN HB.out nq)
 clear k0 k1
 generalize (w2.alloc (.cells #[.int .i64 (n:Int),.bool p] 94)).drewN nq=wq at *
 go_wp2_with fail
 refine bodyPost_ret (results_tmp3 rfl _ _ _) rfl ?_
 exact⟨HBQ.out,rfl⟩
set_option maxHeartbeats 3200000 in
set_option maxRecDepth 100000 in
theorem headf_no(a:Option Addr)(cap:Nat)(zs:List Int)(w:World)(hr:Ri w .u8 a cap zs)(hh:headO zs=none):
 Calls Tryz.prog 19 #[.slice a zs.length cap] w fun e w'=>Below w.heap.size w w'∧e= .returned (.tuple #[.int .i64 0,.bool false,.int .i64 70]):=by
 have hmf:∀(fn:Fn) (first cap:Array Value) (w:World),(Instr.makeFunc fn first cap).run Tryz.prog w= .ok (.func fn first cap) w:=fun _ _ _ _=>rfl
 have hb1:=bel_alloc w (.cells #[.slice a zs.length cap] 24)
 have e1:=heap_new w (.cells #[.slice a zs.length cap] 24)
 have s1:(w.alloc (.cells #[.slice a zs.length cap] 24)).heap.size=w.heap.size+1:=by simp
 generalize hW1:w.alloc (.cells #[.slice a zs.length cap] 24)=w1 at *
 have hb2:=Bn (bel_alloc w1 (.cells #[.int .i64 0,.bool false] 94)) (bel_alloc _ (.cells #[.int .i64 0] 25))
 have hcl:=hcl_no w.heap.size a cap zs ((w1.alloc (.cells #[.int .i64 0,.bool false] 94)).alloc (.cells #[.int .i64 0] 25)) ((hb2.cell (p:=⟨w.heap.size,0,none⟩) (by show w.heap.size<w1.heap.size;omega)).trans (by simpa using Joins.cell_of_block e1 0)) (by have:=hb2.size;omega) ((hr.later hb1).later hb2) hh
 have HCW:=hid (caughth_no ⟨w.heap.size,0,none⟩ w1 hcl)
 have HB1:=hid hb1
 have HW1:=hid hW1
 generalize zs.length=len at *
 clear hcl hb2 hb1 s1 hr e1 hW1 hh
 go_enter Tryz.func19,Tryz.ntmps19
 go_wp2_with fail
 rw[HW1.out]
 refine HCW.out.mono ?_
 rintro _ w2 ⟨hb,rfl⟩
 have HB:=hid (Bn (Bn HB1.out hb) (bel_alloc w2 (.cells #[.int .i64 0,.bool false] 94)))
 have eT:=heap_new w2 (.cells #[.int .i64 0,.bool false] 94)
 have k0:=Joins.cell_of_block eT 0
 have k1:=Joins.cell_of_block eT 1
 simp only[List.getElem?_toArray,List.getElem?_cons_zero,List.getElem?_cons_succ] at k0 k1
 clear hb HCW eT
 go_wp2_with fail
 refine wp_region_quiet_lit (by kernel_rfl) (by kernel_rfl) ?_
 repeat (go_big_quiet_step (fail))
 refine wpQuiet_nil ?_
 intro _ hw'
 obtain⟨nq,hw''⟩:=hw'
 subst hw''
 have HBQ:=hid (bel_drewN HB.out nq)
 clear k0 k1
 generalize (w2.alloc (.cells #[.int .i64 0,.bool false] 94)).drewN nq=wq at *
 go_wp2_with fail
 refine bodyPost_ret (results_tmp3 rfl _ _ _) rfl ?_
 exact⟨HBQ.out,rfl⟩
theorem headf_any(a:Option Addr)(cap:Nat)(zs:List Int)(w:World)(hr:Ri w .u8 a cap zs):
 Calls Tryz.prog 19 #[.slice a zs.length cap] w fun e w'=>e= .returned (.tuple #[.int .i64 (hedT zs).1,.bool (hedT zs).2.1,.int .i64 (hedT zs).2.2])∧Below w.heap.size w w':=by
 cases hh:headO zs with
 | none=>
   have e:hedT zs=(0,false,70):=by unfold hedT;rw[hh]
   rw[e]
   exact(headf_no a cap zs w hr hh).mono fun e w' h=>⟨h.2,h.1⟩
 | some x=>
   obtain⟨⟨n,p⟩,rs⟩:=x
   have e:hedT zs=((n:Int),p,0):=by unfold hedT;rw[hh]
   rw[e]
   exact(headf_ok a cap zs w hr n p rs hh).mono fun e w' h=>⟨h.2,h.1⟩
end Go.Proofs.YtelnefngkdfcoaaGreat
