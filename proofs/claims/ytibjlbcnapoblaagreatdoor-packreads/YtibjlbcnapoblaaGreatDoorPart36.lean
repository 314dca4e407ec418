/- Contracts and facts. -/
import Derived.Test.YtibjlbcnapoblaaGreatDoorPart35
namespace Go.Proofs.YtibjlbcnapoblaaGreatDoor
set_option maxRecDepth 100000
set_option maxHeartbeats 6400000
section
open Go.RowKit Lz
theorem Qlx(a:Option Addr)(cap:Nat)(l:List Tkz)(w:World)(hr:Rt w a cap l)(hn:l.length<=100000):
 Calls Tryz.prog 57 #[.slice a l.length cap] w (Qi8 l w):=by
 unfold Qi8
 have hroom:=hr.room
 have hmost:=hr.most
 unfold maxLen at hmost
 have HR:=hid hr
 obtain⟨len,hle⟩:∃n,n=l.length:=⟨_,rfl⟩
 have HL:=hid hle
 rw[<-hle] at hn hroom|-
 have HF0:Hid (Qcs l=Qw3 [] 0 (l.drop 0)):=rfl
 obtain⟨i0,hi,hi0,hi1,hi2⟩:=info_parts Tryz.info5Z
 clear hr hle
 go_enter Tryz.func57,Tryz.ntmps57
 go_wp2
 go_loopw [5,6] (fun x5 x6 wr=>∃(k:Nat) (b:List Int),k<=len∧x6= .int .i64 (k:Int)∧b.length<=65536∧Ob wr w.heap.size x5 b∧Below w.heap.size w wr∧Hid (Qcs l=Qw3 b k (l.drop k))) (fun _ x6 _=>len-(intOf x6).toNat)
 case atStart=>exact⟨0,[],by omega,rfl,by simp,Qnp _ _,Below.refl _ _,HF0⟩
 case round=>
  clear HF0
  obtain⟨k,b,hk,rfl,hbl,hown,hbel,HF⟩:=hrel
  by_cases hlt:k<len
  ·have hkz:(k:Int)<(len:Int):=by omega
   obtain⟨g,off,rfl,hbw,hc⟩:=HR.out.cells (by rw[<-HL.out];omega)
   obtain⟨c0,c1,c2⟩:=hc k (by rw[<-HL.out];exact hlt)
   have d0:=(hbel.cell (p:=⟨g,off+k*3,none⟩) hbw).trans c0
   have d1:=(hbel.cell (p:=⟨g,off+k*3+1,none⟩) hbw).trans c1
   have d2:=(hbel.cell (p:=⟨g,off+k*3+2,none⟩) hbw).trans c2
   have HFT:=hid (Qnr (l.getD k tk0) (wr.alloc (.cells (zC (l.getD k tk0)) 109)))
   have HFC:=hid (Xj5 (l.getD k tk0) (b.length:Int) (by omega))
   have HFZ:=hid (fun h=>Qoi (t:=l.getD k tk0) (m:=(b.length:Int)) h)
   have HGL:=hid (fun h=>Qv3 (t:=l.getD k tk0) (b:=b) h)
   have HGZ:Hid (Qfh b (l.getD k tk0)=if (l.getD k tk0).1=0 then b++ [(l.getD k tk0).2.2] else Qee b (l.getD k tk0).1.toNat (l.getD k tk0).2.1.toNat):=rfl
   have HDR:Hid (Qcs l=if Qgk (l.getD k tk0) b.length=0 then Qw3 (Qfh b (l.getD k tk0)) (k+1) (l.drop (k+1)) else ([],(k:Int),Qgk (l.getD k tk0) b.length)):=by
    show _=_
    rw[HF.out,Qqz l k (by rw[<-HL.out];exact hlt)]
    rfl
   have hft:=HR.out.fits k (by rw[<-HL.out];exact hlt)
   have hcs:=Qyj (l.getD k tk0)
   clear hc c0 c1 c2 HF
   generalize l.getD k tk0=t at *
   have hv5:∃(a5:Option Addr) (c5:Nat),u5= .slice a5 b.length c5:=by
    rcases hown.2 with ⟨hv,h0⟩ | ⟨g',cap',cur',hv,_⟩
    ·exact⟨none,0,by rw[hv,h0]⟩
    ·exact⟨some ⟨g',0,none⟩,cap',hv⟩
   obtain⟨a5,c5,rfl⟩:=hv5
   obtain⟨d,n,x⟩:=t
   unfold zC at HFT
   dsimp only at *
   have hdw:=wf_i64 hft.1
   have hnw:=wf_i64 hft.2.1
   have HOB:=hid (Qim hown)
   have hbA:=Qag wr (.cells #[.int .i64 d,.int .i64 n,.int .u8 x] 109)
   have HOA:=hid (hown.alloc (.cells #[.int .i64 d,.int .i64 n,.int .u8 x] 109))
   have HBA:=hid (Bn hbel hbA)
   have e0:(wr.alloc (.cells #[.int .i64 d,.int .i64 n,.int .u8 x] 109)).heap[wr.heap.size]?=some (.cells #[.int .i64 d,.int .i64 n,.int .u8 x] 109 (0,0)):=Qbe _ _
   have HE0:=hid e0
   obtain⟨bn,hbn⟩:∃bn,bn=b.length:=⟨_,rfl⟩
   have HBN:=hid hbn
   rw[<-hbn] at HFC HFZ hbl HDR|-
   rw[<-hbn] at HOA HOB
   generalize hf:Qgk (d,n,x) (bn:Int)=f at *
   have HFE:=hid hf
   generalize Qdw (d,n,x)=c at *
   clear hbA e0 hbel hown hbn hft hf
   go_wp2_with fail
   refine HFT.out.mono ?_
   rintro _ w2 ⟨rfl,hb2⟩
   have e2:=(hb2.block wr.heap.size (by simp)).trans HE0.out
   have m0:=Joins.cell_of_block e2 0
   have m1:=Joins.cell_of_block e2 1
   have m2:=Joins.cell_of_block e2 2
   simp only[List.getElem?_toArray,List.getElem?_cons_zero,List.getElem?_cons_succ] at m0 m1 m2
   have HO2:=hid (Qfp HOA.out hb2)
   have HB2:=hid (Bn HBA.out hb2)
   have HE2:=hid e2
   have hsz2:wr.heap.size<w2.heap.size:=by have:=hb2.size;simp at this;omega
   clear hb2 HFT e2 HE0 HOA HBA d0 d1 d2
   rcases hcs with hc0 | hc0
   ·rw[if_neg (by omega)] at HFC
    rw[hc0]
    clear hc0
    by_cases h61:(bn:Int)<d
    ·rw[if_pos h61] at HFC
     rw[HFC.out,if_neg (by decide)] at HDR
     go_wp2
     go_ret3
     exact⟨.slice none 0 0,by rw[HDR.out];rfl,by rw[HDR.out];exact Qnp _ _,HB2.out⟩
    ·rw[if_neg h61] at HFC
     by_cases h2:65536-(bn:Int)<n
     ·rw[if_pos h2] at HFC
      rw[HFC.out,if_neg (by decide)] at HDR
      go_wp2
      go_ret3
      exact⟨.slice none 0 0,by rw[HDR.out];rfl,by rw[HDR.out];exact Qnp _ _,HB2.out⟩
     ·rw[if_neg h2] at HFC
      rw[if_pos HFC.out] at HDR
      have hz:=HFZ.out HFC.out
      have hgl:=HGL.out (by rw[<-HBN.out,HFE.out];exact HFC.out)
      have hwb:=HB2.out.size
      rcases hz with ⟨hd0,hn1,hm⟩ | ⟨hd1,hd2,hn1,hn2,hdm,hm⟩
      ·rw[if_pos hd0] at HGZ
       have hdb:(d==0)=true:=by simpa using hd0
       have hdz:¬(bn:Int)<d:=h61
       have hOW:=HO2.out
       clear hd0 hn1 HFZ HGL hm
       go_wp2_with (at_builtin;refine wpList_append_own _ rfl _ _ 22 rfl w.heap.size 5 i0 (.int .u8 0) 1 1 Tryz.underlying22 hi hi0 hi1 hi2 rfl (by decide) _ _ _ rfl (hOW.alloc _) ⟨w2.heap.size,0,none⟩ 1 1 [.int .u8 x] rfl rfl (Qhs w2 (.int .u8 x) 5) (Qix _ _) (by unfold maxLen;omega) (by omega) (by simp;omega) ?_)
       intro v' w3 hown3 hgrow3 _
       have HB3:Hid (Below w.heap.size w w3):=(Bn HB2.out (Qag w2 (.cells #[.int .u8 x] 5))).grown hgrow3 (by simp;omega) (fun g hg=>(HOB.out g hg).1)
       have HO3:Hid (Ob w3 w.heap.size v' (Qfh b (d,n,x))):=by
        show World.ownsRow _ _ _ _ _ _ _
        rw[HGZ.out,List.length_append,List.map_append,<-HBN.out]
        exact hown3
       clear hown3 hgrow3 hOW m0 m1 m2
       go_wp2
       exact⟨⟨k+1,_,by omega,by go_num,hgl.1,HO3.out,HB3.out,HDR⟩,by simp[intOf];omega⟩
      ·rw[if_neg (by omega)] at HGZ
       have hdb:(d==0)=false:=by simp;omega
       obtain⟨D,hD⟩:∃D:Nat,d=(D:Int):=⟨d.toNat,by omega⟩
       obtain⟨N,hN⟩:∃N:Nat,n=(N:Int):=⟨n.toNat,by omega⟩
       subst hD
       subst hN
       simp only[Int.toNat_natCast] at HGZ
       have hDb:D<=bn:=by omega
       have hD1:1<=D:=by omega
       have hNm:bn+N<=65536:=by omega
       have HLEN:Hid (∀j,(Qee b D j).length=bn+j):=fun j=>by rw[HBN.out];exact Qky b D j
       have HOA:Hid (Ob w2 w.heap.size (.slice a5 bn c5) (Qee b D 0)):=by
        show World.ownsRow _ _ _ _ _ _ _
        rw[show(Qee b D 0).length=bn from by rw[HBN.out];rfl]
        exact HO2.out
       obtain⟨tb,htb⟩:∃tb,tb=wr.heap.size:=⟨_,rfl⟩
       rw[<-htb] at HE2 hsz2 m0 m1 m2|-
       have htw:w.heap.size<=w2.heap.size:=hwb
       have q1:decide (bn<D)=false:=by simp;omega
       have q2:decide ((65536:Int)-(bn:Int)<(N:Int))=false:=by simp;omega
       clear htb hdm hm hd1 hd2 hn1 hn2 HFZ HGL HO2
       go_wp2_with fail
       clear m0 m1 m2
       go_loopw [5,8] (fun y5 y8 wi=>∃j:Nat,j<=N∧y8= .int .i64 (j:Int)∧Ob wi w.heap.size y5 (Qee b D j)∧wi.heap[tb]?=some (.cells #[.int .i64 (D:Int),.int .i64 (N:Int),.int .u8 x] 109 (0,0))∧Below w.heap.size w wi) (fun _ y8 _=>N-(intOf y8).toNat)
       case atStart=>exact⟨0,by omega,rfl,HOA.out,HE2.out,HB2.out⟩
       case round=>
        clear HOA HE2 HB2
        obtain⟨j,hj,rfl,hown,htb,hbel⟩:=hrel
        have hlen:=HLEN.out j
        have m0:=Joins.cell_of_block htb 0
        have m1:=Joins.cell_of_block htb 1
        simp only[List.getElem?_toArray,List.getElem?_cons_zero,List.getElem?_cons_succ] at m0 m1
        by_cases hlt:j<N
        ·have hjz:(j:Int)<(N:Int):=by omega
         have HST:Hid (Qee b D (j+1)=Qee b D j++ [(Qee b D j).getD ((Qee b D j).length-D) 0]):=rfl
         have hob:=Qim hown
         have hne:u5.ownBlock≠some tb:=fun e=>by
          rcases hown.2 with ⟨hv,_⟩ | ⟨g',cap',cur',hv,_,hg',_⟩
          ·rw[hv] at e;cases e
          ·rw[hv] at e
           simp only[Value.ownBlock,Option.some.injEq] at e
           rw[e,htb] at hg'
           cases hg'
         obtain⟨L,hL⟩:∃L,L+1=(Qee b D j).length:=⟨bn+j-1,by omega⟩
         obtain⟨gg,gcap,rfl⟩:=ownsRow_succ (k:=L) (by rw[hL];exact hown)
         obtain⟨i,hi'⟩:∃i,i=(Qee b D j).length-D:=⟨_,rfl⟩
         rw[<-hi'] at HST
         have ci:wr.cell? ⟨gg,i,none⟩=some (.int .u8 ((Qee b D j).getD i 0)):=by
          have hown':=hown
          rw[hL] at hown'
          rw[hown'.cellAt i (by omega),List.getElem?_map,List.getElem?_eq_getElem (by omega)]
          simp[List.getD,List.getElem?_eq_getElem (show i<(Qee b D j).length by omega)]
         obtain⟨M,hM⟩:∃M,M=L+1:=⟨_,rfl⟩
         rw[<-hM] at hown hL hob hne|-
         have hiz:(M:Int)-(D:Int)=(i:Int):=by omega
         have hiM:i<M:=by omega
         have hMl:M<=65536:=by omega
         have htl:=(Array.getElem?_eq_some_iff.1 htb).1
         have HTB:=hid htb
         have HBEL:=hid hbel
         have HOB2:=hid hob
         have HNE:=hid hne
         have hwb2:=hbel.size
         have HLM:Hid ((Qee b D j).length=M):=hL.symm
         generalize (Qee b D j).getD i 0=y at *
         have hown2:wr.ownsRow w.heap.size 5 1 (.slice (some ⟨gg,0,none⟩) M gcap) M ((Qee b D j).map (Value.int .u8)):=by
          have h:wr.ownsRow w.heap.size 5 1 (.slice (some ⟨gg,0,none⟩) M gcap) (Qee b D j).length ((Qee b D j).map (Value.int .u8)):=hown
          rwa[HLM.out] at h
         clear hM hL hob hne htb hbel hown hlen hi' HLEN
         go_wp2_with (at_builtin;refine wpList_append_own _ rfl _ _ 22 rfl w.heap.size 5 i0 (.int .u8 0) 1 1 Tryz.underlying22 hi hi0 hi1 hi2 rfl (by decide) _ _ _ rfl (hown2.alloc _) ⟨wr.heap.size,0,none⟩ 1 1 [.int .u8 y] rfl rfl (Qhs wr (.int .u8 y) 5) (Qix _ _) (by unfold maxLen;omega) (by omega) (by simp;omega) ?_)
         intro v' w3 hown3 hgrow3 _
         have HB3:Hid (Below w.heap.size w w3):=(Bn HBEL.out (Qag wr (.cells #[.int .u8 y] 5))).grown hgrow3 (by simp;omega) (fun g hg=>(HOB2.out g hg).1)
         have HT3:Hid (w3.heap[tb]?=some (.cells #[.int .i64 (D:Int),.int .i64 (N:Int),.int .u8 x] 109 (0,0))):=
          (hgrow3.block tb (by simp;omega) (fun e=>HNE.out e.symm)).trans (Qbd _ _ HTB.out)
         have HO3:Hid (Ob w3 w.heap.size v' (Qee b D (j+1))):=by
          show World.ownsRow _ _ _ _ _ _ _
          rw[HST.out,List.length_append,List.map_append,HLM.out]
          exact hown3
         clear hown3 hgrow3 hown2 ci m0 m1 HOB2 HNE HBEL HTB
         go_wp2
         exact⟨⟨j+1,by omega,by go_num,HO3.out,HT3.out,HB3.out⟩,by simp[intOf];omega⟩
        ·obtain rfl:j=N:=by omega
         have hjz:¬(j:Int)<(j:Int):=by omega
         have HOW:=hid hown
         have HBEL:=hid hbel
         clear hown hbel htb
         go_wp2
         exact⟨⟨k+1,_,by omega,by go_num,hgl.1,by rw[HGZ.out];exact HOW.out,HBEL.out,HDR⟩,by simp[intOf];omega⟩
   ·rw[if_pos (by omega)] at HFC
    rw[HFC.out,if_neg (by decide)] at HDR
    rw[hc0]
    clear hc0
    go_wp2
    go_ret3
    exact⟨.slice none 0 0,by rw[HDR.out];rfl,by rw[HDR.out];exact Qnp _ _,HB2.out⟩
  ·obtain rfl:k=len:=by omega
   have hkz:¬(k:Int)<(k:Int):=by omega
   have HO:Hid (Qcs l=(b,0,0)):=by
    show _=_
    rw[HF.out,List.drop_eq_nil_of_le (by rw[<-HL.out];omega)]
    rfl
   go_wp2
   go_ret3
   exact⟨_,by rw[HO.out];rfl,by rw[HO.out];exact hown,hbel⟩
end
/-
 The document's Decode.
-/
section
open Go.RowKit Hf Lz
theorem Xew(w:World):(w.alloc (.cells #[] 5)).ownsRow w.heap.size 5 1 (.slice (some ⟨w.heap.size,0,none⟩) 0 0) ([]:List Int).length (([]:List Int).map (Value.int .u8)):=
 ⟨rfl,.inr ⟨w.heap.size,0,#[],rfl,Nat.le_refl _,Qaf w _,Nat.le_refl _,by unfold maxLen;omega,rfl,rfl⟩⟩
theorem Xfq(a:Option Addr)(cap:Nat)(zs:List Int)(w:World)(hr:Ri w .u8 a cap zs)(hz:zs.length<=2100):
 Calls Tryz.prog 37 #[.slice a zs.length cap] w (Qh1 zs w):=by
 have HHD:=hid (Xgg a cap zs w hr)
 have HR:=hid hr
 have hby:∀j,0<=zs.getD j 0∧zs.getD j 0<=255:=fun j=>wf_u8 (hr.fits j)
 have HP:Hid (∀e w' o,Qn0 zs=o->Qh1 zs w e w'=(Below w.heap.size w w'∧match o with
  | none=>e= .returned (.tuple #[.slice none 0 0,.int .i64 70])
  | some l=>∃a c,e= .returned (.tuple #[.slice a l.length c,.int .i64 0])∧Ri w' .u8 a c l)):=fun e w' o h=>by subst h;rfl
 have HRO:Hid (Qn0 zs=match Qff zs with
  | none=>none
  | some ((n,p),rs)=>if p=true then
   match Qob rs with
   | none=>none
   | some l=>if (Qcs l).2.2=0∧(Qcs l).1.length=n then some (Qcs l).1 else none
   else if rs.length=n then some rs else none):=rfl
 have HHT:=hid (fun n p rs=>head_tail (zs:=zs) (rs:=rs) (n:=n) (p:=p) hby)
 unfold Xgy at HHD
 clear hr hby
 obtain⟨len,hl⟩:∃n,n=zs.length:=⟨_,rfl⟩
 have HL:=hid hl
 rw[<-hl] at hz HHD HHT|-
 clear hl
 go_enter Tryz.func37,Tryz.ntmps37
 go_wp2_with fail
 refine HHD.out.mono ?_
 rintro _ w1 ⟨he,hb1⟩
 have HB1:=hid hb1
 clear hb1 HHD
 cases hh:Qff zs with
 | none=>
   rw[hh] at he HRO
   dsimp only at he HRO
   subst he
   clear hh
   go_wp2_with fail
   go_ret2
   rw[HP.out _ _ _ HRO.out]
   exact⟨HB1.out,rfl⟩
 | some x=>
   obtain⟨⟨n,p⟩,rs⟩:=x
   rw[hh] at he HRO
   dsimp only at he HRO
   subst he
   obtain⟨t1,t2,t3⟩:=HHT.out n p rs hh
   have HV:=hid (Qot (n:Int) w1 (by omega) (by omega))
   obtain⟨q,hq⟩:∃q:Nat,q=1+(Qeb (n:Int)).length:=⟨_,rfl⟩
   have hqi:(1:Int)+(((Qeb (n:Int)).length:Nat):Int)=(q:Int):=by omega
   rw[<-hq] at t1 t2
   obtain⟨a2,c2,hsl,hr2⟩:=HR.out.high q (by rw[<-HL.out];exact t1)
   have hsh:=fun W=>Qf9 a len cap q t1 W
   rw[<-HL.out] at hsl
   rw[hsl] at hsh
   rw[t2] at hsh hr2
   have HR2:=hid hr2
   have hrl:rs.length<=2100:=by have:=congrArg List.length t2;rw[List.length_drop] at this;have:=HL.out;omega
   obtain⟨rl,hrl2⟩:∃n,n=rs.length:=⟨_,rfl⟩
   have HRL:=hid hrl2
   rw[<-hrl2] at hsh hrl HRO
   clear hq t2 hsl hr2 hrl2 HHT hh
   generalize (Qeb (n:Int)).length=vl at *
   have hn6:n<=65536:=t3
   clear t3
   go_wp2_with fail
   refine HV.out.mono ?_
   rintro _ w2 ⟨va,vc,rfl,_,hb2⟩
   have HB2:=hid (Bn HB1.out hb2)
   clear hb2 HV
   cases p with
   | false=>
     rw[if_neg (by decide)] at HRO
     by_cases hne:rl=n
     ·subst hne
      rw[if_pos rfl] at HRO
      have g1:((rl:Int) !=(rl:Int))=false:=by simp
      have HA:=hid (HR2.out.later (Bn HB2.out (Qaa w2 (.cells #[] 5))))
      have HO:=hid (Xew w2)
      have HS:Hid (w2.heap.size<=(w2.alloc (.cells #[] 5)).heap.size):=(Qaa w2 _).size
      have HBA:=hid (Qaa w2 (.cells #[] 5))
      have HN:Hid (([]:List Int).length+rs.length<=10000000):=by show _<=_;rw[<-HRL.out];simp;omega
      go_wp2_with (at_builtin;refine Qc2 _ rfl _ _ rfl w2.heap.size _ [] rfl HO.out a2 c2 rs (by rw[<-HRL.out];rfl) HA.out HN.out HS.out ?_)
      intro v3 w3 ho3 hg3
      have HB3:=hid (Bn HB2.out (HBA.out.grown hg3 HS.out (fun j hj=>(HO.out.lt j hj).1)))
      have ho3':w3.ownsRow w2.heap.size 5 1 v3 rs.length (rs.map (Value.int .u8)):=by simpa using ho3
      obtain⟨a3,c3,rfl,hr3⟩:=Ri.own ho3' HR2.out.fits
      have HR3:=hid hr3
      rw[<-HRL.out]
      clear ho3 hg3 ho3' hr3 HA HO HS HBA HN
      go_wp2_with fail
      go_ret2
      rw[HP.out _ _ _ HRO.out]
      exact⟨HB3.out,a3,c3,by rw[<-HRL.out];rfl,HR3.out⟩
     ·rw[if_neg hne] at HRO
      have g1:((rl:Int) !=(n:Int))=true:=by rw[bne_iff_ne];omega
      have g1n:¬rl=n:=hne
      have g1z:¬(rl:Int)=(n:Int):=by omega
      go_wp2_with fail
      go_ret2
      rw[HP.out _ _ _ HRO.out]
      exact⟨HB2.out,rfl⟩
   | true=>
     rw[if_pos rfl] at HRO
     have HU:=hid (Xgc a2 c2 rs w2 (HR2.out.later HB2.out) (by rw[<-HRL.out];exact hrl))
     unfold Qmb at HU
     have HUR:=hid (fun l (h:Qob rs=some l)=>Qvf h)
     rw[<-HRL.out] at HU HUR
     generalize Qob rs=U at *
     go_wp2_with fail
     refine HU.out.mono ?_
     rintro _ w3 ⟨hb3,he⟩
     have HB3:=hid (Bn HB2.out hb3)
     clear hb3 HU
     cases U with
     | none=>
       dsimp only at he HRO
       subst he
       go_wp2_with fail
       go_ret2
       rw[HP.out _ _ _ HRO.out]
       exact⟨HB3.out,rfl⟩
     | some l=>
       dsimp only at he HRO
       obtain⟨a4,c4,rfl,hrt⟩:=he
       obtain⟨hin,hll⟩:=HUR.out l rfl
       have HBY:=hid (Qlx a4 c4 l w3 hrt (by omega))
       unfold Qi8 at HBY
       have H8:Hid (Qea (Qcs l).1):=Qpo l [] 0 (fun j=>by simp;exact Qbb (by omega) (by omega)) (fun t ht=>Qbb (hin t ht).2.2.2.2.1 (hin t ht).2.2.2.2.2)
       clear hrt hin hll HUR
       generalize l.length=ll at *
       generalize Qcs l=B at *
       obtain⟨bs,bi,be⟩:=B
       dsimp only at HBY H8 HRO
       go_wp2_with fail
       refine HBY.out.mono ?_
       rintro _ w4 ⟨v,rfl,ho,hb4⟩
       obtain⟨a5,c5,rfl,hr5⟩:=Ri.own ho H8.out
       have HB4:=hid (Bn HB3.out hb4)
       have HR5:=hid hr5
       obtain⟨bl,hbl⟩:∃n,n=bs.length:=⟨_,rfl⟩
       have HBL:=hid hbl
       rw[<-hbl] at HRO|-
       clear hb4 ho hr5 HBY hbl
       by_cases hbe:be=0
       ·subst hbe
        by_cases hne:bl=n
        ·subst hne
         rw[if_pos ⟨rfl,rfl⟩] at HRO
         have g1:((bl:Int) !=(bl:Int))=false:=by simp
         go_wp2_with fail
         go_ret2
         rw[HP.out _ _ _ HRO.out]
         exact⟨HB4.out,a5,c5,by rw[<-HBL.out];rfl,HR5.out⟩
        ·rw[if_neg (fun h=>hne h.2)] at HRO
         have g1:((bl:Int) !=(n:Int))=true:=by rw[bne_iff_ne];omega
         have g1z:¬(bl:Int)=(n:Int):=by omega
         go_wp2_with fail
         go_ret2
         rw[HP.out _ _ _ HRO.out]
         exact⟨HB4.out,rfl⟩
       ·rw[if_neg (fun h=>hbe h.1)] at HRO
        have g0:(be != 0)=true:=by rw[bne_iff_ne];exact hbe
        clear hbe
        go_wp2_with fail
        go_ret2
        rw[HP.out _ _ _ HRO.out]
        exact⟨HB4.out,rfl⟩
end
/-
 The document's Read.
-/
section
open Go.ChangeShapes Go.WideShapes Go.RowKit Hf Lz
theorem Xme(l m:List Int)(hl:l.length=32)(hm:m.length=32)(w:World):(Op.equalIn 10000 36 (.agg (u8A l)) (.agg (u8A m))).run Tryz.prog w= .ok (decide (l=m)) w:=by
 obtain⟨i,hi⟩:∃i,Tryz.prog.info? 5=some i:=info_of_underlying Tryz.underlying5
 rw[show(10000:Nat)=9999+1 from rfl,run_equalIn_array w 9999 _ _ Tryz.underlying36 hi,Tryz.cells5,Qmj 9998 Tryz.underlying5 l m w _ (fun j hj=>by rw[hl,hm];have:=List.mem_range.1 hj;exact⟨this,this⟩)]
 refine congrArg (fun b=>Result.ok b w) ?_
 by_cases h:l=m
 ·subst h;simp
 ·rw[decide_eq_false h,Bool.eq_false_iff]
  intro hc
  rw[List.all_eq_true] at hc
  exact h (Hf.Qqc (by omega) (fun j hj=>by have:=hc j (List.mem_range.2 (by omega));simpa using this))
theorem Xh6:Tryz.prog.eqGuardType Tryz.prog.depth 36=false:=by kernel_rfl
theorem Xfv(a1 a2:Option Addr)(c1 c2:Nat)(x y:List Int)(w:World)(h1:Ri w .u8 a1 c1 x)(h2:Ri w .u8 a2 c2 y)(g:Nat)(hg:g=w.heap.size):
 Calls Tryz.prog 31 #[.slice (some ⟨g,0,none⟩) 2 2] (w.alloc (.cells #[.slice a1 x.length c1,.slice a2 y.length c2] 22)) fun e w'=>e= .returned (.int .u32 (Qpu (x++y):Int))∧w'=w.alloc (.cells #[.slice a1 x.length c1,.slice a2 y.length c2] 22):=by
 have h:=Cr.Xk5 (some ⟨g,0,none⟩) 2 [Qka x,Qka y] _ (Cr.Ps.two h1.rdC h2.rdC g hg)
 refine h.mono (fun e w' h=>⟨?_,h.2⟩)
 rw[h.1]
 unfold Cr.Qmz Qpu Qka
 rw[List.map_append]
 simp
def Xkd(c:Int×List Int)(q:Nat):Int×List Int×Nat:=if c.1=0 then (0,c.2,q) else (c.1,[],0)
theorem Xja{l:List Int}(h:∀j,l.getD j 0=0):Qwv l=true:=by
 unfold Qwv
 rw[List.all_eq_true]
 intro x hx
 obtain⟨j,hj,rfl⟩:=List.getElem_of_mem hx
 have:=h j
 simpa [List.getD,List.getElem?_eq_getElem hj] using this
theorem Xid{l:List Int}(j:Nat)(h:l.getD j 0≠0):Qwv l=false:=by
 by_cases hj:j<l.length
 ·unfold Qwv
  rw[List.all_eq_false]
  refine⟨l[j],List.getElem_mem hj,?_⟩
  simpa [List.getD,List.getElem?_eq_getElem hj] using h
 ·exact absurd (by simp[List.getD,List.getElem?_eq_none (Nat.le_of_not_lt hj)]) h
theorem Qwc(u:List Int)(p n j:Nat)(hj:j<n):((u.drop p).take n).getD j 0=u.getD (p+j) 0:=by
 simp[List.getD,List.getElem?_take_of_lt hj]
theorem Xb1(a:Option Addr)(len cap l h:Nat)(h1:l<=h)(h2:h<=cap)(W:World):(Instr.slice 22 (.slice a len cap) (some (.int .i64 (l:Int))) (some (.int .i64 (h:Int))) none).run Tryz.prog W= .ok (sliced a l h cap 1) W:=by
 have:=run_slice_lh (P:=Tryz.prog) W 22 a len cap Tryz.underlying22 .i64 .i64 (l:Int) (h:Int) (by omega) (by omega) (by omega)
 rw[this,Int.toNat_natCast,Int.toNat_natCast]
 rfl
theorem Xd1(a:Option Addr)(cap:Nat)(zs:List Int)(w:World)(hr:Ri w .u8 a cap zs)(hz:zs.length<=2100):
 Calls Tryz.prog 19 #[.slice a zs.length cap] w (Qjn (Qzx zs) w):=by
 have HHD:=hid (Xgd a cap zs w hr (by omega))
 have HR:=hid hr
 obtain⟨R,hR⟩:∃R,R=Qzx zs:=⟨_,rfl⟩
 have HRO:=hid hR
 unfold Qzx at HRO
 unfold Xj9 at HHD
 unfold Qjn
 rw[<-hR]
 clear hr hR
 cases ho:Qi6 zs with
 | none=>
   rw[ho] at HRO HHD
   dsimp only at HRO HHD
   have HZ36:Hid ((u8A z32).size=32):=rfl
   generalize zs.length=len at *
   clear ho HR
   go_enter Tryz.func19,Tryz.ntmps19
   go_wp2_with fail
   refine HHD.out.mono ?_
   rintro _ W1 ⟨rfl,hb1⟩
   have E5:=hid (Qba W1 (.cells (u8A z32) 36))
   have HB:=hid (Bn hb1 (below_setRow (Qbp W1 (.cells (u8A z32) 36)) (Nat.le_refl _) (u8A z32)))
   clear hb1 HHD
   go_wp2_with (first
    | (refine Qac rfl 36 rfl (some 5) rfl (u8A z32) Tryz.zero36p W1.heap.size rfl ?_)
    | (refine wpList_store_rowTo rfl 36 _ _ rfl rfl W1.heap.size (u8A z32) rfl rfl 36 _ E5.out (by rw[HZ36.out];exact Tryz.size36p) rfl (Qji _) ?_))
   go_ret3
   rw[HRO.out]
   exact⟨HB.out,.inl ⟨by decide,rfl⟩⟩
 | some q=>
   obtain⟨n,k,d,s⟩:=q
   rw[ho] at HRO HHD
   dsimp only at HRO HHD
   obtain⟨r44,rn1,rn2,rk1,rk2,rd⟩:=Qth ho
   have hdl:d.length=32:=by rw[rd];simp;omega
   obtain⟨b,off,ha,hbw,hcs⟩:=HR.out.cells (by omega)
   have hsn:(Qke ((zs.drop 40).take 4)).toNat=s:=by
    unfold Qi6 at ho
    split at ho
    ·simp only[Option.some.injEq,Prod.mk.injEq] at ho;exact ho.2.2.2
    ·cases ho
   obtain⟨S,hS,hS2⟩:=Qjf 4 ((zs.drop 40).take 4) (by simp;omega) (Xka HR.out.fits 40 4)
   obtain rfl:S=s:=by rw[<-hsn,hS];rfl
   have HSZ:=hid (fun W hW=>Qnd a cap zs W (HR.out.later hW) (by omega))
   have HOP:=hid ho
   have HWD:Hid (∀W,Below w.heap.size w W->Calls Tryz.prog 36 #[.slice (some ⟨b,off+40,none⟩) (zs.length-40) (cap-40),.int .i64 32,.int .i64 2] W fun e w'=>e= .returned (.tuple #[.int .u64 (S:Int),.int .i64 0])∧w'=W):=fun W hW=>by
    have:=Qx2 _ (cap-40) (zs.length-40) (zs.drop 40) W ((HR.out.later hW).tail 40 (by omega) b off ha) (by simp;omega) (by simp;omega) (by simp)
    rw[hS] at this
    exact this
   have HDL:=hid hdl
   have hroom:=HR.out.room
   have hmost:=HR.out.most
   unfold maxLen at hmost
   obtain⟨len,hl⟩:∃n,n=zs.length:=⟨_,rfl⟩
   have HL:=hid hl
   have hcs2:∀W,Below w.heap.size w W->∀j,j<len->W.cell? ⟨b,off+j,none⟩=some (.int .u8 (zs.getD j 0)):=fun W hW j hj=>(hW.cell (p:=⟨b,off+j,none⟩) hbw).trans (hcs j (by rw[<-hl];exact hj))
   have HCS:=hid hcs2
   rw[<-hl] at HHD HSZ HWD hz r44 hroom|-
   rw[<-hl] at HRO
   subst ha
   obtain⟨q,hq⟩:∃q,q=Qcv k:=⟨_,rfl⟩
   have HQ:=hid hq
   have hqg:44+k<=512*q:=by rw[hq];unfold Qcv;omega
   have hq9:q<=20:=by rw[hq];unfold Qcv;omega
   rw[<-hq] at HHD
   clear ho rd hl hcs hcs2 hsn hS hdl hq
   go_enter Tryz.func19,Tryz.ntmps19
   go_wp2_with fail
   refine HHD.out.mono ?_
   rintro _ W1 ⟨rfl,hb1⟩
   have E5:=hid (Qba W1 (.cells (u8A z32) 36))
   have HZ36:Hid ((u8A z32).size=32):=rfl
   have E6:Hid (((W1.alloc (.cells (u8A z32) 36)).setRow W1.heap.size (u8A d)).heap[W1.heap.size]?=some (.cells (u8A d) 36)):=setRow_heap _ _ _ _ _ _ E5.out
   have HB:=hid (Bn hb1 (below_setRow (Qbp W1 (.cells (u8A z32) 36)) (Nat.le_refl _) (u8A d)))
   clear hb1 HHD
   obtain⟨T,hT⟩:∃T:Nat,T=512*q:=⟨_,rfl⟩
   have hTi:(q:Int)*512=(T:Int):=by omega
   by_cases hsh:len/512<Qcv k
   ·rw[if_pos hsh] at HRO
    have hlt:(len:Int)<(T:Int):=by have:=HQ.out;omega
    have hlt2:decide ((len:Int)<(T:Int))=true:=decide_eq_true hlt
    have hlt3:decide (len<T)=true:=decide_eq_true (by omega)
    clear hsh
    go_wp2_with (first
     | (refine Qac rfl 36 rfl (some 5) rfl (u8A z32) Tryz.zero36p W1.heap.size rfl ?_)
     | (refine wpList_store_rowTo rfl 36 _ _ rfl rfl W1.heap.size (u8A d) rfl rfl 36 _ E5.out (by rw[Qco,HDL.out];exact Tryz.size36p) (by rw[HZ36.out,Qco,HDL.out]) (Qji _) ?_))
    go_ret3
    rw[HRO.out]
    exact⟨HB.out,.inl ⟨by decide,rfl⟩⟩
   ·rw[if_neg hsh] at HRO
    have HRF:Hid (R=Xkd (Qwp (zs.take 40) (zs.drop 44) n k d S) (Qcv k)):=HRO.out
    clear HRO
    have hTl:T<=len:=by have:=HQ.out;omega
    have hnl:¬(len:Int)<(T:Int):=by omega
    have hnl2:decide ((len:Int)<(T:Int))=false:=decide_eq_false hnl
    have hnl3:decide (len<T)=false:=decide_eq_false (by omega)
    have H3:=hid (HSZ.out _ HB.out)
    clear hsh HSZ
    go_wp2_with (first
     | (refine Qac rfl 36 rfl (some 5) rfl (u8A z32) Tryz.zero36p W1.heap.size rfl ?_)
     | (refine wpList_store_rowTo rfl 36 _ _ rfl rfl W1.heap.size (u8A d) rfl rfl 36 _ E5.out (by rw[Qco,HDL.out];exact Tryz.size36p) (by rw[HZ36.out,Qco,HDL.out]) (Qji _) ?_))
    clear E5 HZ36
    generalize (W1.alloc (.cells (u8A z32) 36)).setRow W1.heap.size (u8A d)=W2 at *
    generalize W1.heap.size=g at *
    refine H3.out.mono ?_
    rintro _ W3 ⟨⟨n',k',rfl,hnk⟩,hw⟩
    obtain rfl:=hw.symm
    obtain⟨e1,e2⟩:=hnk _ HOP.out
    dsimp only at e1 e2
    subst e1 e2
    clear hw hnk H3
    obtain⟨h,hh⟩:∃h:Nat,h=44+k:=⟨_,rfl⟩
    have hhi:(44:Int)+(k:Int)=(h:Int):=by omega
    have hrc:Ri w .u8 (some ⟨b,off+44,none⟩) (cap-44) ((zs.drop 44).take k):=((HR.out.tail 44 (by rw[<-HL.out];omega) b off rfl).take k)
    have hcl:((zs.drop 44).take k).length=k:=by rw[List.length_take,List.length_drop,<-HL.out];omega
    have hsm:∀W,(Instr.slice 22 (.slice (some ⟨b,off,none⟩) len cap) (some (.int .i64 44)) (some (.int .i64 (h:Int))) none).run Tryz.prog W= .ok (.slice (some ⟨b,off+44,none⟩) k (cap-44)) W:=fun W=>by
     have:=Xb1 (some ⟨b,off,none⟩) len cap 44 h (by omega) (by omega) W
     rw[show sliced (some ⟨b,off,none⟩) 44 h cap 1= .slice (some ⟨b,off+44,none⟩) k (cap-44) from by
      unfold sliced
      rw[if_neg (by omega),show h-44=k from by omega]
      simp[WideShapes.add_plain]] at this
     exact this
    have hs40:∀W,(Instr.slice 22 (.slice (some ⟨b,off,none⟩) len cap) (some (.int .i64 40)) none none).run Tryz.prog W= .ok (.slice (some ⟨b,off+40,none⟩) (len-40) (cap-40)) W:=fun W=>by
     have:=Qf9 (some ⟨b,off,none⟩) len cap 40 (by omega) W
     rw[show sliced (some ⟨b,off,none⟩) 40 len cap 1= .slice (some ⟨b,off+40,none⟩) (len-40) (cap-40) from by
      unfold sliced
      rw[if_neg (by omega)]
      simp[WideShapes.add_plain]] at this
     exact this
    have H4:=hid (HWD.out W2 HB.out)
    have HRC:=hid hrc
    have HCL:=hid hcl
    have HHH:=hid hh
    have HTT:=hid hT
    have hhT:h<=T:=by omega
    clear HWD hrc hcl hh hT
    go_wp2_with fail
    refine H4.out.mono ?_
    rintro _ W3 ⟨rfl,hw⟩
    obtain rfl:=hw.symm
    clear hw H4
    have HCC:=hid (Xfv (some ⟨b,off,none⟩) (some ⟨b,off+44,none⟩) cap (cap-44) (zs.take 40) ((zs.drop 44).take k) W2 ((HR.out.take 40).later HB.out) (HRC.out.later HB.out) W2.heap.size rfl)
    rw[HCL.out,show(zs.take 40).length=40 from by rw[List.length_take,<-HL.out];omega] at HCC
    have hC:=Qos (zs.take 40++(zs.drop 44).take k)
    have HC:=hid (show Qwp (zs.take 40) (zs.drop 44) n k d S=(if Qpu (zs.take 40++(zs.drop 44).take k)≠S then ((111:Int),[]) else if Qwv (((zs.drop 44).drop k).take (512*Qcv k-44-k))=false then (110,[]) else match Qn0 ((zs.drop 44).take k) with
     | none=>(113,[])
     | some bs=>if bs.length≠n then (113,[]) else if Qfb bs≠d then (112,[]) else (0,bs)) from rfl)
    generalize Qpu (zs.take 40++(zs.drop 44).take k)=C at *
    have HB3:=hid (Bn HB.out (Qbp W2 (.cells #[.slice (some ⟨b,off,none⟩) 40 cap,.slice (some ⟨b,off+44,none⟩) k (cap-44)] 22)))
    have HE3:=hid (Qbp W2 (.cells #[.slice (some ⟨b,off,none⟩) 40 cap,.slice (some ⟨b,off+44,none⟩) k (cap-44)] 22))
    clear hsm hs40
    go_wp2_with fail
    refine HCC.out.mono ?_
    rintro _ WX ⟨rfl,hw⟩
    rw[<-hw] at HB3 HE3
    have E6X:=hid ((HE3.out.block _ (Array.getElem?_eq_some_iff.1 E6.out).1).trans E6.out)
    clear hw HCC HE3
    by_cases hCS:C=S
    ·rw[if_neg (fun h=>h hCS)] at HC
     subst hCS
     have g1:(((C:Nat):Int) !=(C:Int))=false:=by simp
     have hk4:k<=2056:=by have:=HHH.out;omega
     have HDC:=hid (fun W (hW:Below w.heap.size w W)=>Xfq (some ⟨b,off+44,none⟩) (cap-44) ((zs.drop 44).take k) W (HRC.out.later hW) (by rw[HCL.out];omega))
     rw[HCL.out] at HDC
     unfold Qh1 at HDC
     go_wp2_with fail
     go_loop [14] (fun i=>∃j:Nat,i= .int .i64 (j:Int)∧h<=j∧j<=T∧Hid (∀t,h<=t->t<j->zs.getD t 0=0)) (fun i=>T-(intOf i).toNat)
     case atStart=>exact⟨h,rfl,by omega,by omega,fun t h1 h2=>by omega⟩
     case round=>
      obtain⟨j,rfl,hj1,hj2,HZR⟩:=hrel
      by_cases hjT:j<T
      ·have g2:(j:Int)<(T:Int):=by omega
       have g2n:decide (j<T)=true:=decide_eq_true hjT
       have g3:(j:Int)<(len:Int):=by omega
       have cj:=HCS.out WX HB3.out j (by omega)
       by_cases hz0:zs.getD j 0=0
       ·rw[hz0] at cj
        have HZR2:Hid (∀t,h<=t->t<j+1->zs.getD t 0=0):=fun t h1 h2=>by
         by_cases e:t=j
         ·rw[e];exact hz0
         ·exact HZR.out t h1 (by omega)
        clear hz0 HZR
        go_wp2
        exact⟨⟨j+1,by go_num,by omega,by omega,HZR2⟩,by simp[intOf];omega⟩
       ·have hzf:Qwv (((zs.drop 44).drop k).take (512*Qcv k-44-k))=false:=by
         refine Xid (j-h) ?_
         rw[List.drop_drop,Qwc _ _ _ _ (by have:=HQ.out;have:=HHH.out;have:=HTT.out;omega),show 44+k+(j-h)=j from by have:=HHH.out;omega]
         exact hz0
        rw[hzf,if_pos rfl] at HC
        have g4:(zs.getD j 0 != 0)=true:=by rw[bne_iff_ne];exact hz0
        clear hzf hz0 HZR
        generalize zs.getD j 0=zj at *
        go_wp2_with fail
        go_ret3
        rw[HRF.out,HC.out]
        exact⟨HB3.out,.inl ⟨by unfold Xkd;simp,rfl⟩⟩
      ·have g2:¬(j:Int)<(T:Int):=by omega
       have g2n:decide (j<T)=false:=decide_eq_false hjT
       have hzt:Qwv (((zs.drop 44).drop k).take (512*Qcv k-44-k))=true:=by
        refine Xja (fun i=>?_)
        by_cases hi:i<512*Qcv k-44-k
        ·rw[List.drop_drop,Qwc _ _ _ _ hi]
         exact HZR.out _ (by have:=HHH.out;omega) (by have:=HQ.out;have:=HHH.out;have:=HTT.out;omega)
        ·have h9:(((zs.drop 44).drop k).take (512*Qcv k-44-k)).length<=i:=by rw[List.length_take];omega
         rw[List.getD_eq_getElem?_getD,List.getElem?_eq_none h9];rfl
       rw[hzt,if_neg (by decide)] at HC
       have H5:=hid (HDC.out WX HB3.out)
       clear hzt HZR HDC
       go_wp2_with fail
       refine H5.out.mono ?_
       rintro _ W4 ⟨hb4,he⟩
       have HB4:=hid (Bn HB3.out hb4)
       have E7:=hid ((hb4.block _ (Array.getElem?_eq_some_iff.1 E6X.out).1).trans E6X.out)
       clear hb4 H5
       cases hro:Qn0 ((zs.drop 44).take k) with
       | none=>
         rw[hro] at he HC
         dsimp only at he HC
         subst he
         go_wp2_with fail
         go_ret3
         rw[HRF.out,HC.out]
         exact⟨HB4.out,.inl ⟨by unfold Xkd;simp,rfl⟩⟩
       | some bs=>
         rw[hro] at he HC
         dsimp only at he HC
         obtain⟨a4,c4,rfl,hr4⟩:=he
         clear hro
         by_cases hln:bs.length=n
         ·rw[if_neg (fun h=>h hln)] at HC
          obtain⟨b4,o4,ha4,_,_⟩:=hr4.cells (by omega)
          subst ha4
          have HR4:=hid hr4
          have HOF:Hid (∀V,Below W4.heap.size W4 V->Calls Tryz.prog 22 #[.slice (some ⟨b4,o4,none⟩) n c4] V fun e w'=>e= .returned (.agg (u8A (Qfb bs)))∧Below V.heap.size V w'):=fun V hV=>by
           have:=Xkl b4 o4 c4 bs V (HR4.out.later hV) (by omega)
           rw[hln] at this
           exact this
          have HLD:Hid (∀V,Below W4.heap.size W4 V->(loadVar 36 ⟨g,0,none⟩).run Tryz.prog V= .ok (.agg (u8A d)) V):=fun V hV=>
           run_loadVar_row V g 36 36 (u8A d) (0,0) _ ((hV.block _ (Array.getElem?_eq_some_iff.1 E7.out).1).trans E7.out) Tryz.underlying36 rfl (by rw[Qco,HDL.out];exact Tryz.size36p)
          have HEQ:Hid (∀V,(Op.equalIn 10000 36 (.agg (u8A (Qfb bs))) (.agg (u8A d))).run Tryz.prog V= .ok (decide (Qfb bs=d)) V):=fun V=>Xme (Qfb bs) d (Qf6 bs) HDL.out V
          have g5:(((n:Nat):Int) !=(n:Int))=false:=by simp
          have HLN:=hid hln
          rw[hln]
          clear hr4 hln
          go_wp2_with fail
          refine wp_region_held_drew (S:=fun V=>Below W4.heap.size W4 V) (by kernel_rfl) (Below.refl _ _).drew (fun hS0=>?_)
          generalize W4.drew=v0 at *
          simp only[List.size_toArray,List.length_cons,List.length_nil,Nat.reduceAdd]
          refine Ord.tk (i:=0) (d:=81) (v:=?vA0) rfl rfl ?hA0 (by assumption) ?_
          case hA0=>intro w hSw;go_simp;try with_reducible rfl
          simp only[Ord.s1,Ord.s2,Ord.s3]
          refine Ord.tk (i:=2) (d:=83) (v:= .agg (u8A d)) rfl rfl ?hA2 (by assumption) ?_
          case hA2=>intro w hSw;exact(Qgt 36 (.tmp 5) rfl g 0 rfl (HLD.out w hSw))
          simp only[Ord.s1,Ord.s2,Ord.s3]
          refine wpAnyH_ready (rs:= [1]) (by as_aux_lemma=>kernel_rfl) (by simp) (AllReadyH.cons rfl (fun K hK=>?_) AllReadyH.nil)
          go_simp
          refine(HOF.out v0 hS0).mono ?_
          rintro _ v1 ⟨rfl,hb1⟩
          have hS1:=Bn hS0 hb1
          refine hK.out _ _ hS1 (fun _=>?_)
          clear hK K hb1
          try simp only[Ord.s1,Ord.s2,Ord.s3]
          refine Ord.tk (i:=3) (d:=84) (v:= .bool (!decide (Qfb bs=d))) rfl rfl ?hA3 (by assumption) ?_
          case hA3=>intro w hSw;exact(Qoc rfl rfl rfl Xh6 (HEQ.out w))
          simp only[Ord.s1,Ord.s2,Ord.s3]
          refine wpAnyH_done (by as_aux_lemma=>kernel_rfl) ?_ _
          have HB9:=hid (Bn HB4.out hS1)
          have HR9:=hid (HR4.out.later hS1)
          by_cases hdd:Qfb bs=d
          ·rw[if_neg (fun h=>h hdd)] at HC
           rw[decide_eq_true hdd]
           clear hdd HOF HLD HEQ
           go_wp2_with fail
           go_ret3
           rw[HRF.out,HC.out]
           exact⟨HB9.out,.inr ⟨rfl,some ⟨b4,o4,none⟩,c4,by
            show _=Ending.returned (.tuple #[.slice _ bs.length c4,.int .i64 ((Qcv k:Nat):Int),.int .i64 0])
            rw[HLN.out,<-HQ.out]
            rfl,HR9.out⟩⟩
          ·rw[if_pos hdd] at HC
           rw[decide_eq_false hdd]
           clear hdd HOF HLD HEQ
           go_wp2_with fail
           go_ret3
           rw[HRF.out,HC.out]
           exact⟨HB9.out,.inl ⟨by unfold Xkd;simp,rfl⟩⟩
         ·rw[if_pos hln] at HC
          have g5:((bs.length:Int) !=(n:Int))=true:=by rw[bne_iff_ne];omega
          have g5n:¬bs.length=n:=hln
          have g5z:¬(bs.length:Int)=(n:Int):=by omega
          clear hln hr4
          generalize bs.length=bl at *
          go_wp2_with fail
          go_ret3
          rw[HRF.out,HC.out]
          exact⟨HB4.out,.inl ⟨by unfold Xkd;simp,rfl⟩⟩
    ·rw[if_pos hCS] at HC
     have g1:(((C:Nat):Int) !=(S:Int))=true:=by rw[bne_iff_ne];omega
     have g1n:¬C=S:=hCS
     have g1z:¬(C:Int)=(S:Int):=by omega
     clear hCS
     go_wp2_with fail
     go_ret3
     rw[HRF.out,HC.out]
     exact⟨HB3.out,.inl ⟨by unfold Xkd;simp,rfl⟩⟩
end
end Go.Proofs.YtibjlbcnapoblaaGreatDoor
