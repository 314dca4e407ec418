/- Contracts and facts. -/
import Derived.Test.YtibjlbcnapoblaaGreatDoorPart35
namespace Go.Proofs.YtibjlbcnapoblaaGreatDoor
set_option maxRecDepth 100000
set_option maxHeartbeats 6400000
section
open Go.RowKit Go.Shelf Lz Go.ChangeShapes Go.WideShapes
theorem Qx4(a:Option Addr)(cap:Nat)(bs:List Int)(w:World)(hr:Ri w .u8 a cap bs):
 Calls Tryz.prog 45 #[.slice a bs.length cap] w (Qga bs w):=by
 have hroom:=hr.room
 have hmost:=hr.most
 unfold maxLen at hmost
 have HR:=hid hr
 clear hr
 unfold Qga
 by_cases hlong:65536<bs.length
 ·have HO:Hid (Qm4 bs=([],2)):=by show _=_;unfold Qm4;rw[if_pos hlong]
  have hz0:(65536:Int)<(bs.length:Int):=by omega
  generalize bs.length=L at *
  go_enter Tryz.func45,Tryz.ntmps45
  go_wp2
  go_ret2
  exact⟨.slice none 0 0,by rw[HO.out];rfl,by rw[HO.out];exact Qk4 _ _,Below.refl _ _⟩
 ·have HO:Hid (Qm4 bs=(from_ bs 0,0)):=by show _=_;unfold Qm4;rw[if_neg hlong,Qej]
  have hz0:¬(65536:Int)<(bs.length:Int):=by omega
  obtain⟨i0,hi,hi0,hi1,hi2⟩:=info_parts Tryz.info109
  have HLG:Hid (∀q,q<bs.length->∀W,Below w.heap.size w W->Calls Tryz.prog 69 #[.slice a bs.length cap,.int .i64 (q:Int)] W fun e w'=>e= .returned (.agg (Qnk (Qb7 bs q)))∧Below W.heap.size W w'):=fun q hq W hW=>by
   obtain⟨g,off,rfl,hgw,hc⟩:=(HR.out.later hW).cells (by omega)
   exact Qtp bs q g off cap W hq (by omega) hgw hc
  have HLN:Hid (∀q,q<bs.length->1<=(Qb7 bs q).2.1∧q+(Qb7 bs q).2.1<=bs.length∧(Qb7 bs q).2.1<=258):=fun q hq=>Qfw bs q hq
  have HST:Hid (∀q,q<bs.length->from_ bs q=Qb7 bs q::from_ bs (q+(Qb7 bs q).2.1)):=fun q hq=>Qfi hq
  have HEN:Hid (∀q,¬q<bs.length->from_ bs q= []):=fun q hq=>Qe5 hq
  obtain⟨L,hLe⟩:∃L,L=bs.length:=⟨_,rfl⟩
  have HL:Hid (∀q,(from_ bs q).length<=L-q):=fun q=>by rw[hLe];exact Qvz (bs:=bs) _ q (Nat.le_refl _)
  rw[<-hLe] at hz0 hlong hroom HLG HLN HST HEN|-
  clear hLe HR
  go_enter Tryz.func45,Tryz.ntmps45
  go_wp2
  go_loopw [4,5] (fun x4 x5 wr=>∃(q:Nat) (dn:List Lz.Tok),q<=L∧x5= .int .i64 (q:Int)∧dn.length<=q∧wr.ownsRow w.heap.size 109 3 x4 dn.length (dn.flatMap Qj5)∧Below w.heap.size w wr∧Hid (from_ bs 0=dn++from_ bs q)) (fun _ x5 _=>L-(intOf x5).toNat)
  case atStart=>exact⟨0,[],by omega,rfl,by simp,Qk4 _ _,Below.refl _ _,rfl⟩
  case round=>
   obtain⟨q,dn,hq,rfl,hdn,hown,hbel,HF⟩:=hrel
   by_cases hlt:q<L
   ·have hqz:(q:Int)<(L:Int):=by omega
    have HC:=hid (HLG.out q hlt wr hbel)
    obtain⟨h1,h2,h3⟩:=HLN.out q hlt
    have HS:=hid (HST.out q hlt)
    obtain⟨⟨x0,x1,x2⟩,ht⟩:∃t,Qb7 bs q=t:=⟨_,rfl⟩
    rw[ht] at HC HS h1 h2 h3
    clear ht
    dsimp only at h1 h2 h3
    have hw0:=hbel.size
    go_wp2_with fail
    refine HC.out.mono ?_
    rintro _ w1 ⟨rfl,hb1⟩
    simp only[Qnk]
    have hown1:=Qbx (Qbx hown hb1) (Qaa w1 (.cells #[.int .i64 (x0:Int),.int .i64 (x1:Int),.int .u8 x2] 109))
    have hw1:=hb1.size
    have HNW:=hid (fun j u h=>Qsu (w1.alloc (.cells #[.int .i64 (x0:Int),.int .i64 (x1:Int),.int .u8 x2] 109)) (x0,x1,x2) j u h)
    simp only[World.size_alloc] at HNW
    have eT:(w1.alloc (.cells #[.int .i64 (x0:Int),.int .i64 (x1:Int),.int .u8 x2] 109)).heap[w1.heap.size]?=some (.cells #[.int .i64 (x0:Int),.int .i64 (x1:Int),.int .u8 x2] 109 (0,0)):=Qaj _ _
    go_wp2_with (at_builtin;refine wpList_append_own _ rfl _ _ 81 rfl w.heap.size 109 i0 (.agg #[.int .i64 0,.int .i64 0,.int .u8 0]) 3 24 Tryz.underlying81 hi hi0 hi1 hi2 rfl (by decide) _ _ _ rfl (hown1.alloc _) ⟨w1.heap.size+1,0,none⟩ 1 1 (Qj5 (x0,x1,x2)) rfl rfl HNW.out (Qod _) (by unfold maxLen;omega) (by omega) (by simp;omega) ?_)
    intro v' w3 hown3 hgrow3 _
    have hob:=Qiv hown
    have e3:Tb w3 w1.heap.size (x0,x1,x2):=by
     refine(hgrow3.block w1.heap.size (by simp;omega) (fun e=>?_)).trans (Qai _ _ eT)
     have:=(hob _ e.symm).2
     omega
    have c1:=e3.c1
    dsimp only at c1
    have HB3:Hid (Below w.heap.size w w3):=(Bn (Bn (Bn hbel hb1) (Qaa w1 _)) (Qaa _ _)).grown hgrow3 (by simp;omega) (fun g hg=>(hob g hg).1)
    have HO3:Hid (w3.ownsRow w.heap.size 109 3 v' (dn++ [(x0,x1,x2)]).length ((dn++ [(x0,x1,x2)]).flatMap Qj5)):=by
     show World.ownsRow _ _ _ _ _ _ _
     rw[Qq9,List.length_append]
     exact hown3
    clear hown3 hgrow3 e3 eT hown1 hown hob HNW HC
    go_wp2
    exact⟨⟨q+x1,dn++ [(x0,x1,x2)],by omega,by go_num,by simp;omega,HO3.out,HB3.out,hid (by rw[HF.out,HS.out];simp)⟩,by simp[intOf];omega⟩
   ·rw[HEN.out q hlt,List.append_nil] at HF
    have hqz:¬(q:Int)<(L:Int):=by omega
    go_wp2
    go_ret2
    exact⟨_,by rw[HO.out];rfl,by rw[HO.out,HF.out];exact hown,hbel⟩
end
section
open Go.RowKit Lz
theorem Qxz(t:Tkz)(w:World):Calls Tryz.prog 87 #[.agg (zC t)] w fun e w'=>e= .returned (.int .i64 (Qew t))∧Below w.heap.size w w':=by
 obtain⟨d,n,x⟩:=t
 have HE:=hid (Xke d n x)
 unfold zC
 dsimp only
 by_cases hd0:d=0
 ·have b1:(d==0)=true:=by simpa using hd0
  have c1:¬1<=d:=by omega
  by_cases hn1:n=1
  ·have b2:(n==1)=true:=by simpa using hn1
   have HC:Hid (Qew (d,n,x)=0):=by show _=_;rw[HE.out,if_pos (.inl ⟨hd0,hn1⟩)]
   clear HE hd0 hn1
   go_enter Tryz.func87,Tryz.ntmps87
   go_wp2
   go_ret
   exact⟨by rw[HC.out];rfl,Qaa _ _⟩
  ·have b2:(n==1)=false:=by simpa using hn1
   have HC:Hid (Qew (d,n,x)=60):=by show _=_;rw[HE.out,if_neg (by omega)]
   clear HE hd0 hn1
   go_enter Tryz.func87,Tryz.ntmps87
   go_wp2
   go_ret
   exact⟨by rw[HC.out];rfl,Qaa _ _⟩
 ·have b1:(d==0)=false:=by simpa using hd0
  by_cases h1:1<=d
  ·by_cases h2:d<=4096
   ·by_cases h3:4<=n
    ·by_cases h4:n<=258
     ·by_cases h5:x=0
      ·have b5:(x==0)=true:=by simpa using h5
       have HC:Hid (Qew (d,n,x)=0):=by show _=_;rw[HE.out,if_pos (.inr ⟨h1,h2,h3,h4,h5⟩)]
       clear HE hd0 h5
       go_enter Tryz.func87,Tryz.ntmps87
       go_wp2
       go_ret
       exact⟨by rw[HC.out];rfl,Qaa _ _⟩
      ·have b5:(x==0)=false:=by simpa using h5
       have HC:Hid (Qew (d,n,x)=60):=by show _=_;rw[HE.out,if_neg (by omega)]
       clear HE hd0 h5
       go_enter Tryz.func87,Tryz.ntmps87
       go_wp2
       go_ret
       exact⟨by rw[HC.out];rfl,Qaa _ _⟩
     ·skip
      have HC:Hid (Qew (d,n,x)=60):=by show _=_;rw[HE.out,if_neg (by omega)]
      clear HE hd0
      go_enter Tryz.func87,Tryz.ntmps87
      go_wp2
      go_ret
      exact⟨by rw[HC.out];rfl,Qaa _ _⟩
    ·skip
     have HC:Hid (Qew (d,n,x)=60):=by show _=_;rw[HE.out,if_neg (by omega)]
     clear HE hd0
     go_enter Tryz.func87,Tryz.ntmps87
     go_wp2
     go_ret
     exact⟨by rw[HC.out];rfl,Qaa _ _⟩
   ·skip
    have HC:Hid (Qew (d,n,x)=60):=by show _=_;rw[HE.out,if_neg (by omega)]
    clear HE hd0
    go_enter Tryz.func87,Tryz.ntmps87
    go_wp2
    go_ret
    exact⟨by rw[HC.out];rfl,Qaa _ _⟩
  ·skip
   have HC:Hid (Qew (d,n,x)=60):=by show _=_;rw[HE.out,if_neg (by omega)]
   clear HE hd0
   go_enter Tryz.func87,Tryz.ntmps87
   go_wp2
   go_ret
   exact⟨by rw[HC.out];rfl,Qaa _ _⟩
theorem Qvt(a:Option Addr)(cap:Nat)(l:List Tkz)(w:World)(hr:Rt w a cap l)(hn:l.length<=65536):
 Calls Tryz.prog 70 #[.slice a l.length cap] w fun e w'=>e= .returned (.tuple #[.int .i64 (Qcd l).1,.int .i64 (Qcd l).2])∧Below w.heap.size w w':=by
 have hroom:=hr.room
 have hmost:=hr.most
 unfold maxLen at hmost
 have HR:=hid hr
 obtain⟨len,hle⟩:∃n,n=l.length:=⟨_,rfl⟩
 have HL:=hid hle
 rw[<-hle] at hn hroom|-
 clear hr hle
 go_enter Tryz.func70,Tryz.ntmps70
 go_wp2
 go_loopw [4] (fun x4 wr=>∃k:Nat,k<=len∧x4= .int .i64 (k:Int)∧Below w.heap.size w wr∧Hid (∀j,j<k->Qew (l.getD j tk0)=0)) (fun x4 _=>len-(intOf x4).toNat)
 case atStart=>exact⟨0,by omega,rfl,Below.refl _ _,fun j hj=>absurd hj (by omega)⟩
 case round=>
  obtain⟨k,hk,rfl,hbel,HA⟩:=hrel
  by_cases hlt:k<len
  ·have hkz:(k:Int)<(len:Int):=by omega
   obtain⟨b,off,rfl,hbw,hc⟩:=HR.out.cells (by rw[<-HL.out];omega)
   obtain⟨c0,c1,c2⟩:=hc k (by rw[<-HL.out];exact hlt)
   have d0:=(hbel.cell (p:=⟨b,off+k*3,none⟩) hbw).trans c0
   have d1:=(hbel.cell (p:=⟨b,off+k*3+1,none⟩) hbw).trans c1
   have d2:=(hbel.cell (p:=⟨b,off+k*3+2,none⟩) hbw).trans c2
   have HCK:=hid (Qxz (l.getD k tk0) wr)
   have HNOT:=hid (fun h=>Xbg (l:=l) (k:=k) (by rw[<-HL.out];exact hlt) h)
   have hor:=Xhn (l.getD k tk0)
   have HAK:Hid (Qew (l.getD k tk0)=0->∀j,j<k+1->Qew (l.getD j tk0)=0):=fun h j hj=>by
    by_cases e:j=k
    ·subst e;exact h
    ·exact HA.out j (by omega)
   clear hc c0 c1 c2
   generalize l.getD k tk0=t at *
   obtain⟨d,n,x⟩:=t
   unfold zC at HCK
   dsimp only at *
   have HBL:=hid hbel
   clear hbel
   go_wp2_with fail
   refine HCK.out.mono ?_
   rintro _ w2 ⟨rfl,hb2⟩
   have HB2:=hid (Bn HBL.out hb2)
   clear hb2 HCK HBL d0 d1 d2
   rcases hor with hor | hor
   ·have HAK2:=hid (HAK.out hor)
    rw[hor]
    clear hor HNOT
    go_wp2
    exact⟨⟨k+1,by omega,by go_num,HB2.out,HAK2⟩,by simp[intOf];omega⟩
   ·have HO:Hid (Qcd l=(0,60)):=by
     show _=_
     unfold Qcd
     rw[HNOT.out (by omega),if_neg (by simp)]
    rw[hor]
    clear hor HNOT
    go_wp2
    go_ret2
    exact⟨by rw[HO.out];rfl,HB2.out⟩
  ·obtain rfl:k=len:=by omega
   have hkz:¬(k:Int)<(k:Int):=by omega
   have HAL:Hid (Qp1 l=true):=Xhm (fun j hj=>HA.out j (by rw[HL.out];exact hj))
   have HO:Hid (Qcd l=if 65536<Qeq l then (0,2) else (Qeq l,0)):=by show _=_;unfold Qcd;rw[HAL.out,if_pos rfl]
   have HSB:Hid (∀j,0<=Qeq (l.take j)∧Qeq (l.take j)<=Qeq l∧Qeq (l.take j)<=258*65536):=fun j=>by
    have h1:=Qln (l.take j) (fun t ht=>Qs9 HAL.out t (List.mem_of_mem_take ht))
    have h2:=Qt8 l (Qs9 HAL.out) j
    have h3:((l.take j).length:Int)<=65536:=by have:=HL.out;simp;omega
    omega
   have HLEN:Hid (∀j,j<l.length->1<=(l.getD j tk0).2.1∧(l.getD j tk0).2.1<=258):=fun j hj=>Qt2 (Qs9 HAL.out _ (Qrn l j hj))
   clear HA HAL
   go_wp2_with fail
   go_loopw [5,6] (fun x5 x6 wi=>∃j:Nat,j<=k∧x6= .int .i64 (j:Int)∧x5= .int .i64 (Qeq (l.take j))∧Below w.heap.size w wi) (fun _ x6 _=>k-(intOf x6).toNat)
   case atStart=>exact⟨0,by omega,rfl,rfl,hbel⟩
   case round=>
    clear hbel
    obtain⟨j,hj,rfl,rfl,hb⟩:=hrel
    obtain⟨s1,s2,s3⟩:=HSB.out j
    by_cases hjl:j<k
    ·have hjz:(j:Int)<(k:Int):=by omega
     by_cases hs:Qeq (l.take j)<=65536
     ·obtain⟨b,off,rfl,hbw,hc⟩:=HR.out.cells (by rw[<-HL.out];omega)
      have d1:=(hb.cell (p:=⟨b,off+j*3+1,none⟩) hbw).trans (hc j (by rw[<-HL.out];exact hjl)).2.1
      have hl1:=HLEN.out j (by rw[<-HL.out];exact hjl)
      have HS:Hid (Qeq (l.take (j+1))=Qeq (l.take j)+(l.getD j tk0).2.1):=by
       show _=_
       rw[Qqr l j (by rw[<-HL.out];exact hjl),Qhr]
       simp[Qeq]
      clear hc
      obtain⟨hl1,hl2⟩:=hl1
      generalize Qeq (l.take j)=s at *
      generalize (l.getD j tk0).2.1=n at *
      go_wp2
      exact⟨⟨j+1,by omega,by go_num,by rw[HS.out],hb⟩,by simp[intOf];omega⟩
     ·have HO2:Hid (Qcd l=(0,2)):=by show _=_;rw[HO.out,if_pos (by omega)]
      have hs2:65536<Qeq (l.take j):=by omega
      generalize Qeq (l.take j)=s at *
      go_wp2
      go_ret2
      exact⟨by rw[HO2.out];rfl,hb⟩
    ·obtain rfl:j=k:=by omega
     have hjz:¬(j:Int)<(j:Int):=by omega
     have HT:Hid (l.take j=l):=List.take_of_length_le (by rw[<-HL.out];omega)
     rw[HT.out] at s1 s2 s3|-
     generalize Qeq l=s at *
     by_cases hs:65536<s
     ·rw[if_pos hs] at HO
      go_wp2
      go_ret2
      exact⟨by rw[HO.out];rfl,hb⟩
     ·rw[if_neg hs] at HO
      go_wp2
      go_ret2
      exact⟨by rw[HO.out];rfl,hb⟩
end
section
open Go.RowKit Hf Lz
theorem Qso(w:World){o:Oper}{ac:Act}{K:Act->World->Prop}{Q:Exit->Act->World->Prop}(s x:Operand)
 (ho:o.op= .call {callee:= .builtin .append,args:= #[s,x],argTypes:= #[121,121]}) (B:Nat) (v:Value) (l:List Bool) (hs:ac.eval s=v) (hown:w.ownsRow B 4 1 v l.length (l.map Value.bool))
 (ad:Addr) (m cap:Nat) (bs:List Bool) (hm:bs.length=m) (hx:ac.eval x= .slice (some ad) m cap) (hc:∀j,j<m->w.cell? ⟨ad.block,ad.off+j,none⟩=some (.bool (bs.getD j false))) (had:ad.spot=none) (hbd:l.length+m<=1000000) (hB:B<=w.heap.size)
 (h:∀v' w',w'.ownsRow B 4 1 v' (l++bs).length ((l++bs).map Value.bool)->w.grownBy w' v.ownBlock->K (ac.put o.dst v') w'):o.wp Tryz.prog ac w K Q:=by
 obtain⟨i0,hi,hz0,hz1,hz2⟩:=info_parts Tryz.info4
 obtain⟨gb,go,sp⟩:=ad
 simp only at had hc
 subst had
 refine wp_append_own w s x 121 ho B 4 i0 (.bool false) 1 1 Tryz.underlying121 hi hz0 hz1 hz2 rfl (by decide) v l.length _ hs hown ⟨gb,go,none⟩ m cap (bs.map Value.bool) hx (by simp;omega) ?_ ?_ (by unfold maxLen;omega) (by omega) hB ?_
 ·intro j u hj
  have hjl:j<bs.length:=by
   have:=(List.getElem?_eq_some_iff.1 hj).1
   simpa using this
  rw[Go.WideShapes.add_plain,hc j (by omega),<-hj]
  simp[List.getD,List.getElem?_eq_getElem hjl]
 ·intro u hu
  rw[List.mem_map] at hu
  obtain⟨b,_,rfl⟩:=hu
  rfl
 ·intro v' w' h1 h2 _
  refine h v' w' ?_ h2
  rw[List.length_append,List.map_append,hm]
  exact h1
theorem Qs3(w:World){o:Oper}{ac:Act}{K:Act->World->Prop}{Q:Exit->Act->World->Prop}(s x:Operand)
 (ho:o.op= .call {callee:= .builtin .append,args:= #[s,x],argTypes:= #[121,121]}) (B:Nat) (v:Value) (l:List Bool) (hs:ac.eval s=v) (hown:w.ownsRow B 4 1 v l.length (l.map Value.bool))
 (B2:Nat) (vx:Value) (bs:List Bool) (hx:ac.eval x=vx) (hox:w.ownsRow B2 4 1 vx bs.length (bs.map Value.bool)) (hbd:l.length+bs.length<=1000000) (hB:B<=w.heap.size)
 (h:∀v' w',w'.ownsRow B 4 1 v' (l++bs).length ((l++bs).map Value.bool)->w.grownBy w' v.ownBlock->K (ac.put o.dst v') w'):o.wp Tryz.prog ac w K Q:=by
 obtain⟨i0,hi,hz0,hz1,hz2⟩:=info_parts Tryz.info4
 rcases id hox.2 with ⟨rfl,h0⟩ | ⟨g,cap,cur,rfl,_,_,_,_,_,_⟩
 ·have hb:bs= []:=List.eq_nil_of_length_eq_zero h0
  subst hb
  have hrun:=run_append_owned_none (P:=Tryz.prog) (w:=w) B 121 o.type 4 i0 1 Tryz.underlying121 hi v l.length _ hown
  unfold Oper.wp execOp
  simp only[ho,resolve,invoke,builtin,Sem.run_bind,Sem.run_pure,Result.andThen_ok,List.map_toArray,List.map_cons,List.map_nil,hs,hx,hrun]
  exact h v w (by rw[List.append_nil];exact hown) (World.grownBy.refl _ _)
 ·refine Qso w s x ho B v l hs hown ⟨g,0,none⟩ bs.length cap bs rfl hx (fun j hj=>?_) rfl hbd hB h
  rw[Nat.zero_add,hox.cellAt j (by omega),List.getElem?_map]
  simp[List.getD,List.getElem?_eq_getElem hj]
theorem Xg5(a:Option Addr)(cap:Nat)(cs:List Int)(n:Nat)(w:World)(hr:Ri w .i64 a cap cs)(hc:Qnw cs=true)(hl:cs.length=n)(h5:n<=512):
 Calls Tryz.prog 72 #[.slice a n cap] w fun e w'=>∃a2 c2,e= .returned (.tuple #[.slice a2 n c2,.int .i64 0])∧Ri w' .i64 a2 c2 (Qgk cs)∧Below w.heap.size w w':=by
 subst hl
 refine(Xf9 a cap cs w hr hc h5).mono ?_
 rintro e w' ⟨k,a2,c2,rfl,h1,h2,h3,h4⟩
 refine⟨a2,c2,rfl,?_,h4⟩
 rw[<-Qo6 h5 (Qc3 hc).2 h1 h2]
 exact h3
theorem Xgp(a:Option Addr)(cap:Nat)(zs:List Int)(n:Nat)(w:World)(hr:Ri w .i64 a cap zs)(hl:zs.length=n)(hn:n<=1000)(hz:∀j,0<=zs.getD j 0∧zs.getD j 0<=15):
 Calls Tryz.prog 73 #[.slice a n cap] w fun e w'=>∃v,e= .returned v∧w'.ownsRow w.heap.size 5 1 v (Qc7 zs).length ((Qc7 zs).map (Value.int .u8))∧Below w.heap.size w w':=by
 subst hl
 exact Xdj a cap zs w hr hn (fun j=>⟨(hz j).1,by have:=(hz j).2;omega⟩)
theorem Xgy(a:Option Addr)(cap:Nat)(zs:List Int)(n:Nat)(w:World)(hr:Ri w .i64 a cap zs)(hc:Qaq zs=true)(hl:zs.length=n):
 Calls Tryz.prog 74 #[.slice a n cap] w fun e w'=>∃a2 c2,e= .returned (.tuple #[.slice a2 n c2,.int .i64 0])∧Ri w' .u16 a2 c2 (Qam zs)∧Below w.heap.size w w':=by
 subst hl
 refine(Xbv a cap zs w hr hc).mono ?_
 rintro e w' ⟨v,rfl,ho,hb⟩
 obtain⟨a2,c2,rfl,h2⟩:=Ri.own ho (fun j=>Qqk (Qdk zs j).1 (Qdk zs j).2)
 rw[Qax]
 exact⟨a2,c2,rfl,h2,hb⟩
def Qtz(ls ds:List Int)(t:Tkz):List Bool:=
 Qcy ((Qam ls).getD (Qff t).toNat 0).toNat (ls.getD (Qff t).toNat 0).toNat++(if 0<t.1 then Qcy ((Qam ds).getD (Qfy t.1).toNat 0).toNat (ds.getD (Qfy t.1).toNat 0).toNat++Qcy t.1.toNat (Qfy t.1).toNat else [])
def Qhm(ls ds:List Int)(l:List Tkz):Nat->List Bool
 | 0=> []
 | k+1=>Qhm ls ds l k++Qtz ls ds (l.getD k tk0)
theorem Xca(ls ds:List Int)(hl:∀j,ls.getD j 0<=15)(hd:∀j,ds.getD j 0<=15)(t:Tkz)(ht:t.1<=4096):(Qtz ls ds t).length<=42:=by
 unfold Qtz
 rw[List.length_append,Qbi]
 have h1:=hl (Qff t).toNat
 have h2:=hd (Qfy t.1).toNat
 split
 ·rename_i hp
  rw[List.length_append,Qbi,Qbi]
  have h3:=Qgl (d:=t.1) (by omega) ht
  omega
 ·rw[List.length_nil];omega
theorem Qou(ls ds:List Int)(hl:∀j,ls.getD j 0<=15)(hd:∀j,ds.getD j 0<=15)(l:List Tkz)(ht:∀j,j<l.length->(l.getD j tk0).1<=4096):∀k,k<=l.length->(Qhm ls ds l k).length<=42*k
 | 0,_=>by simp[Qhm]
 | k+1,hk=>by
   have h1:=Qou ls ds hl hd l ht k (by omega)
   have h2:=Xca ls ds hl hd (l.getD k tk0) (ht k (by omega))
   rw[Qhm,List.length_append]
   omega
def Qfq(l:List Tkz):List Int:=Qpp l++Qbu (nB (Qhm (lsF l) (dsF l) l l.length) (Qhm (lsF l) (dsF l) l l.length).length) (Qhm (lsF l) (dsF l) l l.length).length
theorem Qux(w:World){ops:Array Oper}{rest:List Oper}{o:Oper}{ac:Act}{Q:Exit->Act->World->Prop}(hgd:o.guard=none)(s x:Operand)
 (ho:o.op= .call {callee:= .builtin .append,args:= #[s,x],argTypes:= #[121,121]}) (B:Nat) (v:Value) (l:List Bool) (hs:ac.eval s=v) (hown:w.ownsRow B 4 1 v l.length (l.map Value.bool))
 (B2:Nat) (vx:Value) (bs:List Bool) (hx:ac.eval x=vx) (hox:w.ownsRow B2 4 1 vx bs.length (bs.map Value.bool)) (hbd:l.length+bs.length<=1000000) (hB:B<=w.heap.size)
 (h:∀v' w',w'.ownsRow B 4 1 v' (l++bs).length ((l++bs).map Value.bool)->w.grownBy w' v.ownBlock->wpList Tryz.prog ops Q rest (ac.put o.dst v') w'):wpList Tryz.prog ops Q (o::rest) ac w:=
 wpList_plain hgd fun _ hK=>Qs3 w s x ho B v l hs hown B2 vx bs hx hox hbd hB (fun v' w' h1 h2=>hK _ _ (h v' w' h1 h2))
theorem Xcm(a:Option Addr)(cap:Nat)(l:List Tkz)(w:World)(hr:Rt w a cap l)(hn:l.length<=20000)(hz:(Qcd l).2=0):
 Calls Tryz.prog 47 #[.slice a l.length cap] w fun e w'=>∃v,e= .returned (.tuple #[v,.int .i64 0])∧w'.ownsRow w.heap.size 5 1 v (Qfq l).length ((Qfq l).map (Value.int .u8))∧Below w.heap.size w w':=by
 have hall:=Qgv hz
 have HS:=hid (Qvt a cap l w hr (by omega))
 rw[hz] at HS
 have HR:=hid hr
 have hroom:=hr.room
 have HALL:=hid hall
 have HCN:Hid (∀W,Below w.heap.size w W->Calls Tryz.prog 71 #[.slice a l.length cap] W fun e w'=>∃ga gd,e= .returned (.tuple #[.slice (some ⟨ga,0,none⟩) 511 511,.slice (some ⟨gd,0,none⟩) 13 13])∧Ri w' .i64 (some ⟨ga,0,none⟩) 511 (Qev (Qau l l.length))∧Ri w' .i64 (some ⟨gd,0,none⟩) 13 (Qev (Qar l l.length))∧Below W.heap.size W w'):=fun W hW=>Qug a cap l W (HR.out.later hW) (by omega) hall
 have hKL:(Qev (Qau l l.length)).length=511:=by rw[Qa5,Qa7]
 have hDL:(Qev (Qar l l.length)).length=13:=by rw[Qa5,Qa2]
 have hKA:=Qe2 (Qau l l.length) (by rw[Qa7];omega) (fun j=>by have:=Qe6 l l.length j;omega)
 have hDA:=Qe2 (Qar l l.length) (by rw[Qa2];omega) (fun j=>by have:=Qec l l.length j;omega)
 have hKS:=Qfk (Qev (Qau l l.length)) (by omega) (Qc3 hKA).2
 have hDS:=Qfk (Qev (Qar l l.length)) (by omega) (Qc3 hDA).2
 have HLS:Hid (lsF l=Qgk (Qev (Qau l l.length))):=rfl
 have HDS:Hid (dsF l=Qgk (Qev (Qar l l.length))):=rfl
 have HDOC:Hid (Qfq l=Qc7 (Qgk (Qev (Qau l l.length)))++Qc7 (Qgk (Qev (Qar l l.length)))++Qe0 (l.length:Int)++Qbu (nB (Qhm (Qgk (Qev (Qau l l.length))) (Qgk (Qev (Qar l l.length))) l l.length) (Qhm (Qgk (Qev (Qau l l.length))) (Qgk (Qev (Qar l l.length))) l l.length).length) (Qhm (Qgk (Qev (Qau l l.length))) (Qgk (Qev (Qar l l.length))) l l.length).length):=rfl
 clear HLS HDS hz hall hr
 generalize Qfq l=DOC at *
 generalize Qev (Qau l l.length)=KC at *
 generalize Qev (Qar l l.length)=DC at *
 have HKF:=hid (fun(W:World) (g:Nat) (h:Ri W .i64 (some ⟨g,0,none⟩) 511 KC)=>Xg5 _ _ KC 511 W h hKA hKL (by omega))
 have HDF:=hid (fun(W:World) (g:Nat) (h:Ri W .i64 (some ⟨g,0,none⟩) 13 DC)=>Xg5 _ _ DC 13 W h hDA hDL (by omega))
 rw[hKL] at hKS
 rw[hDL] at hDS
 have HKS:=hid hKS
 have HDS:=hid hDS
 clear hKA hDA hKL hDL hKS hDS
 generalize Qgk KC=LS at *
 generalize Qgk DC=DS at *
 have HLR:=hid (Qd7 HKS.out.2).2
 have HDR:=hid (Qd7 HDS.out.2).2
 have HB42:Hid (∀k,k<=l.length->(Qhm LS DS l k).length<=42*k):=Qou LS DS (fun j=>(HLR.out j).2) (fun j=>(HDR.out j).2) l (fun j hj=>by
  have h8:=wf_u8 (HR.out.fits j hj).2.2
  rcases Qf9 (HALL.out j hj) h8 with h | h
  ·omega
  ·exact h.2.1)
 obtain⟨len,hle⟩:∃n,n=l.length:=⟨_,rfl⟩
 have HL:=hid hle
 rw[<-hle] at hn hroom HS HCN HDOC HB42|-
 clear hle
 go_enter Tryz.func47,Tryz.ntmps47
 go_wp2_with fail
 refine HS.out.mono ?_
 rintro _ w1 ⟨rfl,hb1⟩
 have HB1:=hid hb1
 clear hb1 HS
 go_wp2_with fail
 refine(HCN.out w1 HB1.out).mono ?_
 rintro _ w2 ⟨ga,gd,rfl,hka,hkd,hb2⟩
 have HB2:=hid (Bn HB1.out hb2)
 have HKA:=hid hka
 have HKD:=hid hkd
 clear hb2 hka hkd HB1 HCN
 go_wp2_with fail
 refine(HKF.out w2 ga HKA.out).mono ?_
 rintro _ w3 ⟨x1,y1,rfl,hl1,hb3⟩
 have HB3:=hid (Bn HB2.out hb3)
 have HL1:=hid hl1
 have HKD3:=hid (HKD.out.later hb3)
 clear hl1 hb3 HB2 HKA HKD HKF
 go_wp2_with fail
 refine(HDF.out w3 gd HKD3.out).mono ?_
 rintro _ w4 ⟨x2,y2,rfl,hl2,hb4⟩
 have HB4:=hid (Bn HB3.out hb4)
 have HL14:=hid (HL1.out.later hb4)
 have HL24:=hid hl2
 clear hl2 hb4 HB3 HL1 HKD3 HDF
 go_wp2_with fail
 refine(Xgp x1 y1 LS 511 w4 HL14.out HKS.out.1 (by omega) HLR.out).mono ?_
 rintro _ w5 ⟨v5,rfl,ho5,hb5⟩
 have HO5:=hid ho5
 have HB5:=hid hb5
 clear ho5 hb5
 go_wp2_with fail
 refine(Xgp x2 y2 DS 13 w5 (HL24.out.later HB5.out) HDS.out.1 (by omega) HDR.out).mono ?_
 rintro _ w6 ⟨v6,rfl,ho6,hb6⟩
 obtain⟨x6,y6,rfl,hr6⟩:=Ri.own ho6 (fun j=>Qa8 (Qjc DS (by rw[HDS.out.1];omega) HDR.out j).1 (Qjc DS (by rw[HDS.out.1];omega) HDR.out j).2)
 have HO6:=hid (Qa1 HO5.out hb6)
 have HB6:=hid (Bn HB5.out hb6)
 have HR6:=hid hr6
 have HRL1:=hid (Qhe LS (by rw[HKS.out.1];omega))
 have HRL2:=hid (Qhe DS (by rw[HDS.out.1];omega))
 rw[HKS.out.1] at HRL1
 rw[HDS.out.1] at HRL2
 have h6:=HB6.out.size
 clear ho6 hb6 hr6 HO5 HB5
 generalize Qc7 LS=R1 at *
 generalize Qc7 DS=R2 at *
 go_wp2_with (at_builtin;refine Qch _ rfl _ _ rfl w4.heap.size _ R1 rfl HO6.out x6 y6 R2 rfl HR6.out (by have:=HRL1.out;have:=HRL2.out;omega) h6 ?_)
 intro v7 w7 ho7 hg7
 have HB7:=hid (HB6.out.grown hg7 h6 (fun j hj=>(HO6.out.lt j hj).1))
 have HO7:Hid (w7.ownsRow w4.heap.size 5 1 v7 (R1++R2).length ((R1++R2).map (Value.int .u8))):=by
  show World.ownsRow _ _ _ _ _ _ _
  first | exact ho7 | (rw[List.length_append,List.map_append];exact ho7) | (simp only[List.length_append,List.map_append] at ho7|-;simpa [Nat.add_assoc] using ho7)
 clear ho7 hg7 HO6 HB6 HR6 h6
 go_wp2_with fail
 refine(Qpl (len:Int) w7 (by omega) (by omega)).mono ?_
 rintro _ w8 ⟨x8,y8,rfl,hr8,hb8⟩
 have HB8:=hid (Bn HB7.out hb8)
 have HO8:=hid (Qa1 HO7.out hb8)
 have HR8:=hid hr8
 have HVL:=hid (Qkd (len:Int) (by omega) (by omega))
 have h8:=HB8.out.size
 clear hb8 hr8 HB7 HO7
 generalize Qe0 (len:Int)=VI at *
 go_wp2_with (at_builtin;refine Qch _ rfl _ _ rfl w4.heap.size _ (R1++R2) rfl HO8.out x8 y8 VI rfl HR8.out (by have:=HRL1.out;have:=HRL2.out;have:=HVL.out;rw[List.length_append];omega) h8 ?_)
 intro v9 w9 ho9 hg9
 have HB9:=hid (HB8.out.grown hg9 h8 (fun j hj=>(HO8.out.lt j hj).1))
 have HO9:Hid (w9.ownsRow w4.heap.size 5 1 v9 (R1++R2++VI).length ((R1++R2++VI).map (Value.int .u8))):=by
  show World.ownsRow _ _ _ _ _ _ _
  first | exact ho9 | (simp only[List.length_append,List.map_append] at ho9|-;first | exact ho9 | simpa [Nat.add_assoc] using ho9)
 have HL19:=hid (HL14.out.later HB9.out)
 have HL29:=hid (HL24.out.later HB9.out)
 clear ho9 hg9 HO8 HB8 HR8 h8 HL14 HL24
 go_wp2_with fail
 refine(Xgy x1 y1 LS 511 w9 HL19.out HKS.out.2 HKS.out.1).mono ?_
 rintro _ w10 ⟨x3,y3,rfl,hc3,hb10⟩
 have HB10:=hid (Bn HB9.out hb10)
 have HO10:=hid (Qa1 HO9.out hb10)
 have HC10:=hid hc3
 have HL110:=hid (HL19.out.later hb10)
 have HL210:=hid (HL29.out.later hb10)
 clear hb10 hc3 HB9 HO9 HL19 HL29
 go_wp2_with fail
 refine(Xgy x2 y2 DS 13 w10 HL210.out HDS.out.2 HDS.out.1).mono ?_
 rintro _ w11 ⟨x4,y4,rfl,hc4,hb11⟩
 have HB11:=hid (Bn HB10.out hb11)
 have HO11:=hid (Qa1 HO10.out hb11)
 have HCK:=hid (HC10.out.later hb11)
 have HCD:=hid hc4
 have HLK:=hid (HL110.out.later hb11)
 have HLD:=hid (HL210.out.later hb11)
 clear hb11 hc4 HB10 HO10 HC10 HL110 HL210
 have HBW:=hid (HB4.out.trans (HB11.out.mono HB4.out.size))
 go_wp2_with fail
 obtain⟨b1,o1,rfl,hb1,hc1⟩:=HLK.out.cells (by rw[HKS.out.1];omega)
 obtain⟨b2,o2,rfl,hb2,hc2⟩:=HLD.out.cells (by rw[HDS.out.1];omega)
 obtain⟨b3,o3,rfl,hb3,hc3⟩:=HCK.out.cells (by rw[Qax,HKS.out.1];omega)
 obtain⟨b4,o4,rfl,hb4,hc4⟩:=HCD.out.cells (by rw[Qax,HDS.out.1];omega)
 rw[HKS.out.1] at hc1
 rw[HDS.out.1] at hc2
 rw[Qax,HKS.out.1] at hc3
 rw[Qax,HDS.out.1] at hc4
 have HCC:Hid (∀V,Below w11.heap.size w11 V->∀s,s<511->V.cell? ⟨b3,o3+s,none⟩=some (.int .u16 ((Qam LS).getD s 0))∧V.cell? ⟨b1,o1+s,none⟩=some (.int .i64 (LS.getD s 0))):=fun V hV s hs=>
  ⟨(hV.cell (p:=⟨b3,o3+s,none⟩) hb3).trans (hc3 s hs),(hV.cell (p:=⟨b1,o1+s,none⟩) hb1).trans (hc1 s hs)⟩
 have HDD:Hid (∀V,Below w11.heap.size w11 V->∀s,s<13->V.cell? ⟨b4,o4+s,none⟩=some (.int .u16 ((Qam DS).getD s 0))∧V.cell? ⟨b2,o2+s,none⟩=some (.int .i64 (DS.getD s 0))):=fun V hV s hs=>
  ⟨(hV.cell (p:=⟨b4,o4+s,none⟩) hb4).trans (hc4 s hs),(hV.cell (p:=⟨b2,o2+s,none⟩) hb2).trans (hc2 s hs)⟩
 have hy1:=HLK.out.room
 have hy2:=HLD.out.room
 have hy3:=HCK.out.room
 have hy4:=HCD.out.room
 rw[HKS.out.1] at hy1
 rw[HDS.out.1] at hy2
 rw[Qax,HKS.out.1] at hy3
 rw[Qax,HDS.out.1] at hy4
 clear hc1 hc2 hc3 hc4 hb1 hb2 hb3 hb4 HLK HLD HCK HCD
 have HDOC2:=HDOC
 clear HDOC
 go_loopw [17,18] (fun v i wr=>∃k:Nat,k<=len∧i= .int .i64 (k:Int)∧Hid (wr.ownsRow w11.heap.size 4 1 v (Qhm LS DS l k).length ((Qhm LS DS l k).map Value.bool))∧Hid (Below w11.heap.size w11 wr)) (fun _ i _=>len-(intOf i).toNat)
 case atStart=>exact⟨0,by omega,rfl,World.ownsRow_nil _ _ _ _,Below.refl _ _⟩
 case round=>
  obtain⟨k,hk,rfl,HO,HB⟩:=hrel
  by_cases hlt:k<len
  ·have hkz:(k:Int)<(len:Int):=by omega
   obtain⟨b,off,rfl,hbw,hc⟩:=HR.out.cells (by rw[<-HL.out];omega)
   obtain⟨c0,c1,c2⟩:=hc k (by rw[<-HL.out];exact hlt)
   have HD0:Hid (∀V,Below w11.heap.size w11 V->V.cell? ⟨b,off+k*3,none⟩=some (.int .i64 (l.getD k tk0).1)∧V.cell? ⟨b,off+k*3+1,none⟩=some (.int .i64 (l.getD k tk0).2.1)∧V.cell? ⟨b,off+k*3+2,none⟩=some (.int .u8 (l.getD k tk0).2.2)):=fun V hV=>by
    have h:=HBW.out.trans (hV.mono HBW.out.size)
    exact⟨(h.cell (p:=⟨b,off+k*3,none⟩) hbw).trans c0,(h.cell (p:=⟨b,off+k*3+1,none⟩) hbw).trans c1,(h.cell (p:=⟨b,off+k*3+2,none⟩) hbw).trans c2⟩
   have h8:=wf_u8 (HR.out.fits k (by rw[<-HL.out];exact hlt)).2.2
   have htwo:=Qf9 (HALL.out k (by rw[<-HL.out];exact hlt)) h8
   have HCS:=hid (Qkz (l.getD k tk0) wr (by rcases htwo with h | h;exact Or.inl h.1;exact Or.inr ⟨h.2.2.1,h.2.2.2.1⟩) h8)
   have HBT:Hid (Qhm LS DS l (k+1)=Qhm LS DS l k++Qtz LS DS (l.getD k tk0)):=rfl
   have HBL:Hid ((Qhm LS DS l k).length<=840000):=by show _<=_;have:=HB42.out k (by omega);omega
   obtain⟨A1,hA1⟩:∃x,x=Qhm LS DS l (k+1):=⟨_,rfl⟩
   rw[<-hA1] at HBT
   have HA1:=hid hA1
   clear hc c0 c1 c2 h8 hA1
   generalize l.getD k tk0=t at *
   have hsr:0<=Qff t∧Qff t<511:=by rcases htwo with h | h;exact h.2;exact h.2.2.2.2
   obtain⟨s,hs⟩:=Int.eq_ofNat_of_zero_le hsr.1
   have hs5:s<511:=by omega
   have hs511:(s:Int)<511:=by omega
   have hd:t.1=0∨(1<=t.1∧t.1<=4096):=by rcases htwo with h | h;exact Or.inl h.1;exact Or.inr ⟨h.1,h.2.1⟩
   unfold Qtz at HBT
   rw[hs] at HCS HBT
   rw[Int.toNat_natCast] at HBT
   obtain⟨c,hcv⟩:=Int.eq_ofNat_of_zero_le (Qdk LS s).1
   have hc16:c<65536:=by have:=(Qdk LS s).2;omega
   obtain⟨n,hnv⟩:=Int.eq_ofNat_of_zero_le (HLR.out s).1
   have hn15:n<=15:=by have:=(HLR.out s).2;omega
   have HCA:Hid (∀V,Below w11.heap.size w11 V->V.cell? ⟨b3,o3+s,none⟩=some (.int .u16 (c:Int))∧V.cell? ⟨b1,o1+s,none⟩=some (.int .i64 (n:Int))):=fun V hV=>by
    have:=HCC.out V hV s hs5
    rwa[hcv,hnv] at this
   rw[hcv,hnv,Int.toNat_natCast,Int.toNat_natCast] at HBT
   have HBA:Hid (∀V:World,Calls Tryz.prog 76 #[.int .u16 (c:Int),.int .i64 (n:Int)] V fun e w'=>∃v,e= .returned v∧w'.ownsRow V.heap.size 4 1 v (Qcy c n).length ((Qcy c n).map Value.bool)∧Below V.heap.size V w'):=fun V=>Qpd c n V hc16 (by omega)
   clear htwo hs hsr hcv hnv hc16 hs5
   generalize Qhm LS DS l k=A0 at *
   obtain⟨d,m,x⟩:=t
   unfold zC at HCS
   dsimp only at *
   obtain⟨d0,d1,d2⟩:=HD0.out wr HB.out
   go_wp2_with fail
   refine HCS.out.mono ?_
   rintro _ wS ⟨rfl,hbS⟩
   have HBS:=hid (Bn HB.out hbS)
   have HOS:=hid (Qa1 HO.out hbS)
   clear hbS HCS d0 d1 d2 HO HB
   go_wp2_with fail
   refine wp_region_held_drew (S:=fun V=>Below w11.heap.size w11 V) (by kernel_rfl) HBS.out.drew (fun hS0=>?_)
   have HOA:=hid HOS.out.drew
   clear HOS HBS
   generalize wS.drew=wD at *
   refine Ord.tk (i:=0) (d:=76) (v:=?vA0) rfl rfl ?hA0 (by assumption) ?_
   case hA0=>intro w hSw;go_simp;try with_reducible rfl
   simp only[Ord.s1,Ord.s2,Ord.s3]
   refine Ord.tk (i:=1) (d:=77) (v:=?vA1) rfl rfl ?hA1 (by assumption) ?_
   case hA1=>intro w hSw;go_simp;try with_reducible rfl
   simp only[Ord.s1,Ord.s2,Ord.s3]
   refine Ord.tk (i:=2) (d:=78) (v:=?vA2) rfl rfl ?hA2 (by assumption) ?_
   case hA2=>intro w hSw;go_simp;try with_reducible rfl
   simp only[Ord.s1,Ord.s2,Ord.s3]
   refine Ord.tk (i:=3) (d:=79) (v:=?vA3) rfl rfl ?hA3 (by assumption) ?_
   case hA3=>intro w hSw;go_simp;try with_reducible rfl
   simp only[Ord.s1,Ord.s2,Ord.s3]
   refine Ord.tk (i:=4) (d:=80) (v:= .int .u16 (c:Int)) rfl rfl ?hA4 (by assumption) ?_
   case hA4=>intro w hSw;obtain⟨e,e'⟩:=HCA.out w hSw;go_simp;try with_reducible rfl
   simp only[Ord.s1,Ord.s2,Ord.s3]
   refine Ord.tk (i:=5) (d:=81) (v:=?vA5) rfl rfl ?hA5 (by assumption) ?_
   case hA5=>intro w hSw;go_simp;try with_reducible rfl
   simp only[Ord.s1,Ord.s2,Ord.s3]
   refine Ord.tk (i:=6) (d:=82) (v:=?vA6) rfl rfl ?hA6 (by assumption) ?_
   case hA6=>intro w hSw;go_simp;try with_reducible rfl
   simp only[Ord.s1,Ord.s2,Ord.s3]
   refine Ord.tk (i:=7) (d:=83) (v:=?vA7) rfl rfl ?hA7 (by assumption) ?_
   case hA7=>intro w hSw;go_simp;try with_reducible rfl
   simp only[Ord.s1,Ord.s2,Ord.s3]
   refine Ord.tk (i:=8) (d:=84) (v:= .int .i64 (n:Int)) rfl rfl ?hA8 (by assumption) ?_
   case hA8=>intro w hSw;obtain⟨e,e'⟩:=HCA.out w hSw;go_simp;try with_reducible rfl
   simp only[Ord.s1,Ord.s2,Ord.s3]
   refine wpAnyH_ready (rs:= [9]) (by as_aux_lemma=>kernel_rfl) (by simp) (AllReadyH.cons rfl (fun K hK=>?_) AllReadyH.nil)
   go_simp
   refine(HBA.out _).mono ?_
   rintro _ zA ⟨qA,rfl,hoA,hbA⟩
   have hSA:Below w11.heap.size w11 zA:=Bn (by assumption) hbA
   refine hK.out _ _ hSA (fun _=>?_)
   have hOA:=Qa1 HOA.out hbA
   clear hK K
   try simp only[Ord.s1,Ord.s2,Ord.s3]
   refine wpAnyH_ready (rs:= [10]) (by as_aux_lemma=>kernel_rfl) (by simp) (AllReadyH.cons rfl (fun K hK=>?_) AllReadyH.nil)
   refine Qs3 _ (.tmp 76) (.tmp 85) rfl w11.heap.size _ A0 rfl hOA _ _ (Qcy c n) rfl hoA (by have:=HBL.out;rw[Qbi];omega) hSA.size ?_
   intro pA yA hnA hgA
   have hTA:Below w11.heap.size w11 yA:=hSA.grown hgA hSA.size (fun j hj=>(hOA.lt j hj).1)
   refine hK.out _ _ hTA (fun _=>?_)
   have HO1:=hid hnA
   have HBAo:=hid hTA
   clear hK K hnA hgA hOA hoA hbA HOA
   refine Ord.put (d:=86) rfl ?_
   try simp only[Ord.s1,Ord.s2,Ord.s3]
   refine Ord.tk (i:=11) (d:=17) (v:=pA) rfl rfl ?hA11 (by assumption) ?_
   case hA11=>intro w hSw;go_simp;try with_reducible rfl
   simp only[Ord.s1,Ord.s2,Ord.s3]
   refine wpAnyH_done (by as_aux_lemma=>kernel_rfl) ?_ _
   clear hSA hTA hS0
   obtain⟨d0,d1,d2⟩:=HD0.out yA HBAo.out
   rcases hd with hd | hd
   ·subst hd
    have HE:Hid (A1=A0++Qcy c n):=by show _=_;rw[HBT.out,if_neg (by omega),List.append_nil]
    rw[<-HE.out] at HO1
    clear HE HBT HCA HBA HBL
    go_wp2
    exact⟨⟨k+1,by omega,by go_num,by rw[<-HA1.out];exact HO1.out,HBAo.out⟩,by simp[intOf];omega⟩
   ·obtain⟨hd1,hd2⟩:=hd
    have hdr:=Qgl hd1 hd2
    obtain⟨q,hq⟩:=Int.eq_ofNat_of_zero_le hdr.1
    have hq13:(q:Int)<13:=by omega
    have hq3:q<13:=by omega
    obtain⟨dn,hdn⟩:=Int.eq_ofNat_of_zero_le (show 0<=d by omega)
    subst hdn
    have HDW:Hid (∀V,Calls Tryz.prog 77 #[.int .i64 (dn:Int)] V fun e w'=>e= .returned (.int .i64 (q:Int))∧w'=V):=fun V=>by
     have:=Qqi (dn:Int) V hd1 hd2
     rwa[hq] at this
    obtain⟨c2,hcv2⟩:=Int.eq_ofNat_of_zero_le (Qdk DS q).1
    have hc26:c2<65536:=by have:=(Qdk DS q).2;omega
    obtain⟨n2,hnv2⟩:=Int.eq_ofNat_of_zero_le (HDR.out q).1
    have hn25:n2<=15:=by have:=(HDR.out q).2;omega
    have HCB:Hid (∀V,Below w11.heap.size w11 V->V.cell? ⟨b4,o4+q,none⟩=some (.int .u16 (c2:Int))∧V.cell? ⟨b2,o2+q,none⟩=some (.int .i64 (n2:Int))):=fun V hV=>by
     have:=HDD.out V hV q hq3
     rwa[hcv2,hnv2] at this
    have HE:Hid (A1=A0++Qcy c n++Qcy c2 n2++Qcy dn q):=by
     show _=_
     rw[HBT.out,if_pos (by omega),hq,Int.toNat_natCast,hcv2,hnv2,Int.toNat_natCast,Int.toNat_natCast,Int.toNat_natCast]
     simp
    have HBB:Hid (∀V:World,Calls Tryz.prog 76 #[.int .u16 (c2:Int),.int .i64 (n2:Int)] V fun e w'=>∃v,e= .returned v∧w'.ownsRow V.heap.size 4 1 v (Qcy c2 n2).length ((Qcy c2 n2).map Value.bool)∧Below V.heap.size V w'):=fun V=>Qpd c2 n2 V hc26 (by omega)
    have HBD:Hid (∀V:World,Calls Tryz.prog 76 #[.int .u16 (dn:Int),.int .i64 (q:Int)] V fun e w'=>∃v,e= .returned v∧w'.ownsRow V.heap.size 4 1 v (Qcy dn q).length ((Qcy dn q).map Value.bool)∧Below V.heap.size V w'):=fun V=>Qpd dn q V (by omega) (by omega)
    have HBL2:Hid ((A0++Qcy c n).length<=840015):=by show _<=_;have:=HBL.out;rw[List.length_append,Qbi];omega
    have hdpos:(dn:Int)>0:=by omega
    clear hdr hq hcv2 hnv2 hc26 hq3 HBT HCA HBA HBL
    generalize A0++Qcy c n=B0 at *
    go_wp2_with fail
    go_at_call 77
    refine(HDW.out _).mono ?_
    rintro _ w5b ⟨rfl,hw⟩
    obtain rfl:=hw.symm
    clear hw HDW d0 d1 d2
    go_wp2_with fail
    refine wp_region_held_drew (S:=fun V=>Below w11.heap.size w11 V) (by kernel_rfl) HBAo.out.drew (fun hS0=>?_)
    have HOB:=hid HO1.out.drew
    clear HO1 HBAo
    generalize yA.drew=wE at *
    refine Ord.tk (i:=0) (d:=99) (v:=?vB0) rfl rfl ?hB0 (by assumption) ?_
    case hB0=>intro w hSw;go_simp;try with_reducible rfl
    simp only[Ord.s1,Ord.s2,Ord.s3]
    refine Ord.tk (i:=1) (d:=100) (v:=?vB1) rfl rfl ?hB1 (by assumption) ?_
    case hB1=>intro w hSw;go_simp;try with_reducible rfl
    simp only[Ord.s1,Ord.s2,Ord.s3]
    refine Ord.tk (i:=2) (d:=101) (v:=?vB2) rfl rfl ?hB2 (by assumption) ?_
    case hB2=>intro w hSw;go_simp;try with_reducible rfl
    simp only[Ord.s1,Ord.s2,Ord.s3]
    refine Ord.tk (i:=3) (d:=102) (v:=?vB3) rfl rfl ?hB3 (by assumption) ?_
    case hB3=>intro w hSw;go_simp;try with_reducible rfl
    simp only[Ord.s1,Ord.s2,Ord.s3]
    refine Ord.tk (i:=4) (d:=103) (v:= .int .u16 (c2:Int)) rfl rfl ?hB4 (by assumption) ?_
    case hB4=>intro w hSw;obtain⟨e,e'⟩:=HCB.out w hSw;go_simp;try with_reducible rfl
    simp only[Ord.s1,Ord.s2,Ord.s3]
    refine Ord.tk (i:=5) (d:=104) (v:=?vB5) rfl rfl ?hB5 (by assumption) ?_
    case hB5=>intro w hSw;go_simp;try with_reducible rfl
    simp only[Ord.s1,Ord.s2,Ord.s3]
    refine Ord.tk (i:=6) (d:=105) (v:=?vB6) rfl rfl ?hB6 (by assumption) ?_
    case hB6=>intro w hSw;go_simp;try with_reducible rfl
    simp only[Ord.s1,Ord.s2,Ord.s3]
    refine Ord.tk (i:=7) (d:=106) (v:=?vB7) rfl rfl ?hB7 (by assumption) ?_
    case hB7=>intro w hSw;go_simp;try with_reducible rfl
    simp only[Ord.s1,Ord.s2,Ord.s3]
    refine Ord.tk (i:=8) (d:=107) (v:= .int .i64 (n2:Int)) rfl rfl ?hB8 (by assumption) ?_
    case hB8=>intro w hSw;obtain⟨e,e'⟩:=HCB.out w hSw;go_simp;try with_reducible rfl
    simp only[Ord.s1,Ord.s2,Ord.s3]
    refine wpAnyH_ready (rs:= [9]) (by as_aux_lemma=>kernel_rfl) (by simp) (AllReadyH.cons rfl (fun K hK=>?_) AllReadyH.nil)
    go_simp
    refine(HBB.out _).mono ?_
    rintro _ zB ⟨qB,rfl,hoB,hbB⟩
    have hSB:Below w11.heap.size w11 zB:=Bn (by assumption) hbB
    refine hK.out _ _ hSB (fun _=>?_)
    have hOB:=Qa1 HOB.out hbB
    clear hK K
    try simp only[Ord.s1,Ord.s2,Ord.s3]
    refine wpAnyH_ready (rs:= [10]) (by as_aux_lemma=>kernel_rfl) (by simp) (AllReadyH.cons rfl (fun K hK=>?_) AllReadyH.nil)
    refine Qs3 _ (.tmp 99) (.tmp 108) rfl w11.heap.size _ B0 rfl hOB _ _ (Qcy c2 n2) rfl hoB (by have:=HBL2.out;rw[Qbi];omega) hSB.size ?_
    intro pB yB hnB hgB
    have hTB:Below w11.heap.size w11 yB:=hSB.grown hgB hSB.size (fun j hj=>(hOB.lt j hj).1)
    refine hK.out _ _ hTB (fun _=>?_)
    have HO2:=hid hnB
    have HBBo:=hid hTB
    clear hK K hnB hgB hOB hoB hbB HOB
    refine Ord.put (d:=109) rfl ?_
    try simp only[Ord.s1,Ord.s2,Ord.s3]
    refine Ord.tk (i:=11) (d:=17) (v:=pB) rfl rfl ?hB11 (by assumption) ?_
    case hB11=>intro w hSw;go_simp;try with_reducible rfl
    simp only[Ord.s1,Ord.s2,Ord.s3]
    refine wpAnyH_done (by as_aux_lemma=>kernel_rfl) ?_ _
    clear hSB hTB hS0
    obtain⟨d0,d1,d2⟩:=HD0.out yB HBBo.out
    have HBL3:Hid ((B0++Qcy c2 n2).length<=840030):=by show _<=_;have:=HBL2.out;rw[List.length_append,Qbi];omega
    clear HBL2 HCB HBB
    generalize B0++Qcy c2 n2=C0 at *
    go_wp2_with fail
    refine(HBD.out _).mono ?_
    rintro _ w6b ⟨v6b,rfl,ho6,hb6⟩
    have HB6:=hid (Bn HBBo.out hb6)
    have HO6:=hid (Qa1 HO2.out hb6)
    have HX6:=hid ho6
    have h6:=HB6.out.size
    have HE2:Hid (C0.length+(Qcy dn q).length<=1000000):=by show _<=_;have:=HBL3.out;rw[Qbi];omega
    clear ho6 hb6 HBBo HO2 HBD HBL3 d0 d1 d2
    generalize Qcy dn q=BQ at *
    go_wp2_with (at_builtin;refine Qux _ rfl _ _ rfl w11.heap.size _ C0 rfl HO6.out _ _ BQ rfl HX6.out HE2.out h6 ?_)
    intro v7b w7b ho7 hg7
    have HB7:=hid (HB6.out.grown hg7 h6 (fun j hj=>(HO6.out.lt j hj).1))
    have HO7:Hid (w7b.ownsRow w11.heap.size 4 1 v7b A1.length (A1.map Value.bool)):=by
     show World.ownsRow _ _ _ _ _ _ _
     rw[HE.out]
     first | exact ho7 | (simp only[List.length_append,List.map_append] at ho7|-;exact ho7)
    clear ho7 hg7 HO6 HB6 HX6 h6 HE2 HE
    go_wp2
    exact⟨⟨k+1,by omega,by go_num,by rw[<-HA1.out];exact HO7.out,HB7.out⟩,by simp[intOf];omega⟩
  ·obtain rfl:k=len:=by omega
   obtain⟨ab,cb,rfl,hrb⟩:=Rb.own HO.out
   have hbl:(Qhm LS DS l k).length<=840000:=by have:=HB42.out k (by omega);omega
   have HP:=hid (Xe0 ab cb (Qhm LS DS l k) wr hrb (by omega))
   have HO9:=hid (Qa1 HO11.out HB.out)
   have HB9:=hid (HB11.out.trans (HB.out.mono HB11.out.size))
   have HPL:Hid ((Qbu (nB (Qhm LS DS l k) (Qhm LS DS l k).length) (Qhm LS DS l k).length).length<=110000):=by show _<=_;rw[Qbh];omega
   have HPR:=hid (Qgp (nB (Qhm LS DS l k) (Qhm LS DS l k).length) (Qhm LS DS l k).length)
   have HRL:Hid ((R1++R2++VI).length<=10000):=by show _<=_;have:=HRL1.out;have:=HRL2.out;have:=HVL.out;rw[List.length_append,List.length_append];omega
   clear hrb hbl HO HB HB42
   generalize Qbu (nB (Qhm LS DS l k) (Qhm LS DS l k).length) (Qhm LS DS l k).length=PK at *
   generalize (Qhm LS DS l k).length=BN at *
   generalize R1++R2++VI=RV at *
   go_wp2_with fail
   refine HP.out.mono ?_
   rintro _ wP ⟨vP,rfl,hoP,hbP⟩
   obtain⟨xP,yP,rfl,hrP⟩:=Ri.own hoP (fun j=>Qa8 (HPR.out j).1 (HPR.out j).2)
   have HOP:=hid (Qa1 HO9.out hbP)
   have HBP:=hid (Bn HB9.out hbP)
   have HRP:=hid hrP
   have hP:=HBP.out.size
   clear hoP hbP hrP HO9 HB9 HP HPR
   go_wp2_with (at_builtin;refine Qch _ rfl _ _ rfl w4.heap.size _ RV rfl HOP.out xP yP PK rfl HRP.out (by have:=HRL.out;have:=HPL.out;omega) hP ?_)
   intro vQ wQ hoQ hgQ
   have HBQ:=hid (HBP.out.grown hgQ hP (fun j hj=>(HOP.out.lt j hj).1))
   have HOQ:Hid (wQ.ownsRow w.heap.size 5 1 vQ DOC.length (DOC.map (Value.int .u8))):=by
    show World.ownsRow _ _ _ _ _ _ _
    rw[HDOC2.out]
    refine Qj8 ?_ HB4.out.size
    first | exact hoQ | (simp only[List.length_append,List.map_append] at hoQ|-;exact hoQ)
   have HBQ2:=hid (HB4.out.trans (HBQ.out.mono HB4.out.size))
   clear hoQ hgQ HOP HBP HRP hP HBQ
   go_wp2
   go_ret2
   exact⟨_,rfl,HOQ.out,HBQ2.out⟩
theorem Qy5(ls ds:List Int)(t:Tkz)(ht:t.1=0∨1<=t.1):(Qtz ls ds t).map Xho=Xfr ls (Qam ls) ds (Qam ds) t:=by
 unfold Qtz Xfr Xjz
 rw[List.map_append,Qke]
 rcases ht with h | h
 ·rw[if_neg (by omega),if_pos h,List.map_nil,List.append_nil]
 ·rw[if_pos (by omega),if_neg (by omega),List.map_append,Qke,Qke]
theorem Qvo(ls ds:List Int)(l:List Tkz)(ht:∀j,j<l.length->(l.getD j tk0).1=0∨1<=(l.getD j tk0).1):∀k,k<=l.length->(Qhm ls ds l k).map Xho=(l.take k).flatMap (Xfr ls (Qam ls) ds (Qam ds))
 | 0,_=>rfl
 | k+1,hk=>by
   rw[Qhm,List.map_append,Qvo ls ds l ht k (by omega),Qy5 _ _ _ (ht k (by omega)),List.take_add_one,List.getElem?_eq_getElem (show k<l.length by omega),Option.toList_some,List.flatMap_append]
   have e:l.getD k tk0=l[k]:=by simp[List.getD,List.getElem?_eq_getElem (show k<l.length by omega)]
   rw[e]
   simp
theorem Xbs(l:List Tkz)(ht:∀j,j<l.length->(l.getD j tk0).1=0∨1<=(l.getD j tk0).1)(hu:∀j,0<=(Qb2 l).getD j 0∧(Qb2 l).getD j 0<=255):Qfq l=Qb2 l:=by
 obtain⟨M,e1,e2,e3⟩:=Wv.toks (H:=Qpp l) (lsF l) (Qam (lsF l)) (dsF l) (Qam (dsF l)) l l.length (Nat.le_refl _)
 have hp:Qb2 l=Qpp l++M:=e1
 rw[<-Qvo (lsF l) (dsF l) l ht l.length (Nat.le_refl _)] at e2
 have hM:∀z∈M,0<=z∧z<=255:=fun z hz=>by
  have hm:z∈Qb2 l:=by rw[hp];exact List.mem_append_right _ hz
  obtain⟨i,hi,rfl⟩:=List.getElem_of_mem hm
  have:=hu i
  simpa [List.getD,List.getElem?_eq_getElem hi] using this
 have:=Qyr M hM _ _ e2 e3
 rw[hp]
 unfold Qfq
 rw[<-this]
theorem Xe6(a:Option Addr)(cap:Nat)(l:List Tkz)(w:World)(hr:Rt w a cap l)(hn:l.length<=65536)(hz:(Qcd l).2≠0):
 Calls Tryz.prog 47 #[.slice a l.length cap] w fun e w'=>e= .returned (.tuple #[.slice none 0 0,.int .i64 (Qcd l).2])∧Below w.heap.size w w':=by
 have HSZ:=hid (Qvt a cap l w hr (by omega))
 generalize (Qcd l).1=z1 at *
 generalize (Qcd l).2=z2 at *
 generalize l.length=len at *
 have hbne:(z2 != 0)=true:=bne_iff_ne.2 hz
 have hbeq:(z2==0)=false:=beq_eq_false_iff_ne.2 hz
 clear hr hn
 go_enter Tryz.func47,Tryz.ntmps47
 go_wp2_with fail
 refine HSZ.out.mono ?_
 rintro _ w1 ⟨rfl,hb⟩
 have HB:=hid hb
 clear hb HSZ
 go_wp2_with fail
 go_ret2
 exact⟨rfl,HB.out⟩
theorem Xcg(a:Option Addr)(cap:Nat)(l:List Tkz)(w:World)(hr:Rt w a cap l)(hn:l.length<=20000)(hu:(Qcd l).2=0->∀j,0<=(Qb2 l).getD j 0∧(Qb2 l).getD j 0<=255):Calls Tryz.prog 47 #[.slice a l.length cap] w (Qk0 l w):=by
 unfold Qk0
 by_cases hz:(Qcd l).2=0
 ·have hd:=Xbs l (fun j hj=>by
   have h8:=wf_u8 (hr.fits j hj).2.2
   rcases Qf9 (Qgv hz j hj) h8 with h | h
   ·exact Or.inl h.1
   ·exact Or.inr h.1) (hu hz)
  refine(Xcm a cap l w hr hn hz).mono ?_
  rintro e w' ⟨v,rfl,ho,hb⟩
  rw[hd] at ho
  obtain⟨a',c',rfl,hri⟩:=Ri.own ho (fun j=>Qa8 (hu hz j).1 (hu hz j).2)
  rw[if_pos hz]
  exact⟨hb,a',c',rfl,hri⟩
 ·refine(Xe6 a cap l w hr (by omega) hz).mono ?_
  rintro e w' ⟨rfl,hb⟩
  rw[if_neg hz]
  exact⟨hb,rfl⟩
end
end Go.Proofs.YtibjlbcnapoblaaGreatDoor
