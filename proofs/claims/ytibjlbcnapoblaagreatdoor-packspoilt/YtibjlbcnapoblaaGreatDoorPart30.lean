/-
 Plain facts: blocks of which up to four bytes side by side were turned are refused.
-/
import Derived.Test.YtibjlbcnapoblaaGreatDoorPart29
import Derived.Test.YtibjlbcnapoblaaGreatDoorPart03
namespace Go.Proofs.YtibjlbcnapoblaaGreatDoor
open Go.RowKit Hf Lz
theorem iext{u v:List Int}(hl:u.length=v.length)(h:∀j,j<u.length->u.getD j 0=v.getD j 0):u=v:=by
 refine List.ext_getElem hl fun j h1 h2=>?_
 have:=h j h1
 simpa [List.getD,List.getElem?_eq_getElem h1,List.getElem?_eq_getElem h2] using this
theorem seg_get(u:List Int)(p n j:Nat)(hj:j<n):((u.drop p).take n).getD j 0=u.getD (p+j) 0:=by
 simp[List.getD,List.getElem?_take_of_lt hj]
theorem seg_eq{u v:List Int}(p n:Nat)(hl:u.length=v.length)(h:∀j,p<=j->j<p+n->u.getD j 0=v.getD j 0):(u.drop p).take n=(v.drop p).take n:=by
 refine iext (by simp[hl]) fun j hj=>?_
 have hjn:j<n:=by have:=List.length_take_le n (u.drop p);omega
 rw[seg_get u p n j hjn,seg_get v p n j hjn]
 exact h _ (by omega) (by omega)
theorem seg_back{u v:List Int}(p n:Nat)(h:(u.drop p).take n=(v.drop p).take n)(j:Nat)(h1:p<=j)(h2:j<p+n):u.getD j 0=v.getD j 0:=by
 have:=congrArg (fun l=>l.getD (j-p) 0) h
 rw[seg_get u p n _ (by omega),seg_get v p n _ (by omega),show p+(j-p)=j from by omega] at this
 exact this
theorem num4_inj(l m:List Int)(hl:l.length=4)(hm:m.length=4)(h1:∀j,0<=l.getD j 0∧l.getD j 0<=255)(h2:∀j,0<=m.getD j 0∧m.getD j 0<=255)(h:(numL l).toNat=(numL m).toNat):l=m:=by
 match l,m,hl,hm with
 | [a,b,c,d],[a',b',c',d'],_,_=>
   have x0:=h1 0
   have x1:=h1 1
   have x2:=h1 2
   have x3:=h1 3
   have y0:=h2 0
   have y1:=h2 1
   have y2:=h2 2
   have y3:=h2 3
   simp only[List.getD_cons_zero,List.getD_cons_succ] at x0 x1 x2 x3 y0 y1 y2 y3
   have e:∀p q r s:Int,numL [p,q,r,s]=(((0*256+s)*256+r)*256+q)*256+p:=fun _ _ _ _=>rfl
   rw[e,e] at h
   have:a=a'∧b=b'∧c=c'∧d=d':=by omega
   obtain⟨rfl,rfl,rfl,rfl⟩:=this
   rfl
theorem nats_inj{u v:List Int}(hl:u.length=v.length)(h1:∀j,0<=u.getD j 0)(h2:∀j,0<=v.getD j 0)(h:nats u=nats v):u=v:=by
 refine iext hl fun j _=>?_
 have:=congrArg (fun l=>l.getD j 0) h
 rw[nats_get,nats_get] at this
 have:=h1 j
 have:=h2 j
 omega
theorem crcN_near{u v:List Int}(p:Nat)(hl:u.length=v.length)(hp:p+4<=u.length)(hu:∀j,0<=u.getD j 0∧u.getD j 0<=255)(hv:∀j,0<=v.getD j 0∧v.getD j 0<=255)(h:∀j,¬(p<=j∧j<p+4)->u.getD j 0=v.getD j 0)(he:crcN u=crcN v):u=v:=by
 refine nats_inj hl (fun j=>(hu j).1) (fun j=>(hv j).1) (Cr.Crc.crc_near p (by rw[nats_len,nats_len,hl]) (by rw[nats_len];exact hp) (fun j=>?_) (fun j=>?_) (fun j hj=>?_) he)
 ·rw[nats_get];have:=hu j;omega
 ·rw[nats_get];have:=hv j;omega
 ·rw[nats_get,nats_get,h j hj]
theorem zer_get{l:List Int}(h:zerB l=true)(j:Nat):l.getD j 0=0:=by
 by_cases hj:j<l.length
 ·unfold zerB at h
  have:=List.all_eq_true.1 h l[j] (List.getElem_mem hj)
  simpa [List.getD,List.getElem?_eq_getElem hj] using this
 ·simp[List.getD,List.getElem?_eq_none (Nat.le_of_not_lt hj)]
theorem cnt_took{hd zs d:List Int}{n k s:Nat}(h:(cntO hd zs n k d s).1=0):crcN (hd++zs.take k)=s∧zerB ((zs.drop k).take (512*blkN k-44-k))=true∧∃bs,rowO (zs.take k)=some bs∧bs.length=n∧digL bs=d:=by
 unfold cntO at h
 split at h
 ·simp at h
 ·rename_i h1
  split at h
  ·simp at h
  ·rename_i h2
   split at h
   ·simp at h
   ·rename_i b hb
    split at h
    ·simp at h
    ·rename_i h3
     split at h
     ·simp at h
     ·rename_i h4
      exact⟨Decidable.not_not.1 h1,by simpa using h2,b,hb,Decidable.not_not.1 h3,Decidable.not_not.1 h4⟩
theorem red_took{x:List Int}(h:(redO x).1=0):∃n k d s,opnO x=some (n,k,d,s)∧blkN k<=x.length/512∧(cntO (x.take 40) (x.drop 44) n k d s).1=0:=by
 unfold redO at h
 cases ho:opnO x with
 | none=>rw[ho] at h;simp at h
 | some q=>
   obtain⟨n,k,d,s⟩:=q
   rw[ho] at h
   dsimp only at h
   split at h
   ·simp at h
   ·rename_i h1
    split at h
    ·rename_i h2
     exact⟨n,k,d,s,rfl,by omega,h2⟩
    ·rename_i h2
     exact absurd h h2
theorem opn_took{x:List Int}{n k s:Nat}{d:List Int}(h:opnO x=some (n,k,d,s)):x.take 4= [83,67,72,75]∧n=(numL ((x.drop 4).take 2)).toNat∧k=(numL ((x.drop 6).take 2)).toNat∧d=(x.drop 8).take 32∧s=(numL ((x.drop 40).take 4)).toNat:=by
 unfold opnO at h
 split at h
 ·rename_i hc
  simp only[Option.some.injEq,Prod.mk.injEq] at h
  obtain⟨rfl,rfl,rfl,rfl⟩:=h
  exact⟨hc.2.1,rfl,rfl,rfl,rfl⟩
 ·cases h
theorem spoilt(bs x:List Int)(h8:Bytes8 bs)(hc:isC bs.length=true)(hl:x.length=(pakB bs).length)(hx:∀j,0<=x.getD j 0∧x.getD j 0<=255)(hb:∀j,0<=(pakB bs).getD j 0∧(pakB bs).getD j 0<=255)(at':Nat)(hat:at'<=2∨(8<=at'∧at'<=40)∨44<=at')(ho:∀j,¬(at'<=j∧j<at'+4)->x.getD j 0=(pakB bs).getD j 0)(hr:(redO x).1=0):x=pakB bs:=by
 have hpl:=pak_len bs
 have hbg:=blk_ge (encB bs).length
 have hop:=opn_pak bs hc []
 rw[List.append_nil] at hop
 have hrd:=red_pak bs h8 hc []
 rw[List.append_nil] at hrd
 have hrow:=row_enc bs h8 (by have:=isC_rng hc;omega)
 obtain⟨n,k,d,s,h1,h2,h3⟩:=red_took hr
 obtain⟨N,K,D,S,g1,g2,g3⟩:=red_took (x:=pakB bs) (by rw[hrd])
 obtain⟨o1,o2,o3,o4,o5⟩:=opn_took h1
 obtain⟨p1,p2,p3,p4,p5⟩:=opn_took g1
 rw[g1] at hop
 simp only[Option.some.injEq,Prod.mk.injEq] at hop
 obtain⟨e1,e2,e3,e4⟩:=hop
 obtain⟨c1,c2,cs,c3,c4,c5⟩:=cnt_took h3
 obtain⟨b1,b2,ds,b3,b4,b5⟩:=cnt_took g3
 have hkk:k=K:=by rw[o3,p3,seg_eq 6 2 hl (fun j h1 h2=>ho j (by omega))]
 subst hkk
 have hL:44+k<=x.length:=by rw[hl,hpl,<-e2];rw[<-e2] at hbg;omega
 have hLB:x.length=512*blkN k:=by rw[hl,hpl,<-e2]
 generalize pakB bs=B at *
 have app_get:∀(u:List Int) (j:Nat),44+k<=u.length->(u.take 40++(u.drop 44).take k).getD j 0=if j<40 then u.getD j 0 else if j<40+k then u.getD (j+4) 0 else 0:=fun u j hu=>by
  have hl40:(u.take 40).length=40:=by simp;omega
  split
  ·rename_i hj
   simp only[List.getD]
   rw[List.getElem?_append_left (by omega),List.getElem?_take_of_lt hj]
  ·rename_i hj
   simp only[List.getD]
   rw[List.getElem?_append_right (by omega),hl40]
   split
   ·rename_i hj2
    rw[List.getElem?_take_of_lt (by omega),List.getElem?_drop,show 44+(j-40)=j+4 from by omega]
   ·rename_i hj2
    rw[List.getElem?_eq_none (by simp;omega)]
    rfl
 have app_len:∀u:List Int,44+k<=u.length->(u.take 40++(u.drop 44).take k).length=40+k:=fun u hu=>by simp;omega
 have app_rng:∀(u:List Int),44+k<=u.length->(∀j,0<=u.getD j 0∧u.getD j 0<=255)->∀j,0<=(u.take 40++(u.drop 44).take k).getD j 0∧(u.take 40++(u.drop 44).take k).getD j 0<=255:=fun u hu hq j=>by
  rw[app_get u j hu]
  split
  ·exact hq j
  ·split
   ·exact hq _
   ·omega
 have hBL:44+k<=B.length:=by omega
 have near:∀p,p+4<=40+k->(∀j,¬(p<=j∧j<p+4)->j<40+k->(x.take 40++(x.drop 44).take k).getD j 0=(B.take 40++(B.drop 44).take k).getD j 0)->s=S->x.take 40++(x.drop 44).take k=B.take 40++(B.drop 44).take k:=fun p hp hq hs=>
  crcN_near p (by rw[app_len x hL,app_len B hBL]) (by rw[app_len x hL];exact hp) (app_rng x hL hx) (app_rng B hBL hb) (fun j hj=>by
   by_cases hj2:j<40+k
   ·exact hq j hj hj2
   ·rw[app_get x j hL,app_get B j hBL,if_neg (by omega),if_neg hj2,if_neg (by omega),if_neg hj2]) (by rw[c1,b1,hs])
 have from_near:x.take 40++(x.drop 44).take k=B.take 40++(B.drop 44).take k->∀j,j<40+k->(if j<40 then x.getD j 0 else x.getD (j+4) 0)=(if j<40 then B.getD j 0 else B.getD (j+4) 0):=fun h j hj=>by
  have:=congrArg (fun l=>l.getD j 0) h
  rw[app_get x j hL,app_get B j hBL,if_pos hj,if_pos hj] at this
  exact this
 refine iext hl fun j hj=>?_
 by_cases hin:at'<=j∧j<at'+4
 ·rcases hat with ha | ha | ha
  ·-- ahead of the code's size
   by_cases hj4:j<4
   ·have:=congrArg (fun l=>l.getD j 0) (o1.trans p1.symm)
    simpa [List.getD,List.getElem?_take_of_lt hj4] using this
   ·have hss:s=S:=by rw[o5,p5,seg_eq 40 4 hl (fun i h1 h2=>ho i (by omega))]
    have h40:=near at' (by omega) (fun i hi hi2=>by
     rw[app_get x i hL,app_get B i hBL]
     split
     ·exact ho i hi
     ·try rw[if_pos hi2]
      exact ho _ (by omega)) hss
    have:=from_near h40 j (by omega)
    rw[if_pos (by omega),if_pos (by omega)] at this
    exact this
  ·-- the digest,or the sum
   have hcode:(x.drop 44).take k=(B.drop 44).take k:=seg_eq 44 k hl (fun i h1 h2=>ho i (by omega))
   rw[hcode,b3] at c3
   simp only[Option.some.injEq] at c3
   subst c3
   have hdd:d=D:=by rw[<-c5,<-b5]
   by_cases hj40:j<40
   ·rw[o4,p4] at hdd
    exact seg_back 8 32 hdd j (by omega) (by omega)
   ·have h40:x.take 40=B.take 40:=by
     refine iext (by simp[hl]) fun i hi=>?_
     have hi40:i<40:=by have:=List.length_take_le 40 x;omega
     have hv:x.getD i 0=B.getD i 0:=by
      by_cases h9:i<8
      ·exact ho i (by omega)
      ·rw[o4,p4] at hdd
       exact seg_back 8 32 hdd i (by omega) (by omega)
     simpa [List.getD,List.getElem?_take_of_lt hi40] using hv
    have hss:s=S:=by rw[<-c1,<-b1,h40,hcode]
    rw[o5,p5] at hss
    have l4:∀u:List Int,44+k<=u.length->((u.drop 40).take 4).length=4:=fun u hu=>by simp;omega
    have r4:∀u:List Int,(∀j,0<=u.getD j 0∧u.getD j 0<=255)->∀i,0<=((u.drop 40).take 4).getD i 0∧((u.drop 40).take 4).getD i 0<=255:=fun u hq i=>by
     by_cases hi:i<4
     ·rw[seg_get u 40 4 i hi];exact hq _
     ·have:((u.drop 40).take 4).length<=i:=by simp;omega
      simp[List.getD,List.getElem?_eq_none this]
    exact seg_back 40 4 (num4_inj _ _ (l4 x hL) (l4 B hBL) (r4 x hx) (r4 B hb) hss) j (by omega) (by omega)
  ·-- the code,or what stands behind it
   have hss:s=S:=by rw[o5,p5,seg_eq 40 4 hl (fun i h1 h2=>ho i (by omega))]
   by_cases hjk:j<44+k
   ·have h40:=near (if at'<=40+k then at'-4 else 36+k) (by split<;>omega) (fun i hi hi2=>by
     rw[app_get x i hL,app_get B i hBL]
     split
     ·exact ho i (by omega)
     ·try rw[if_pos hi2]
      refine ho _ (fun h9=>hi ?_)
      split<;>omega) hss
    have:=from_near h40 (j-4) (by omega)
    rw[if_neg (by omega),if_neg (by omega),show j-4+4=j from by omega] at this
    exact this
   ·have z1:=zer_get c2 (j-44-k)
    have z2:=zer_get b2 (j-44-k)
    rw[List.drop_drop,seg_get _ _ _ _ (by omega),show 44+k+(j-44-k)=j from by omega] at z1 z2
    rw[z1,z2]
 ·exact ho j hin
end Go.Proofs.YtibjlbcnapoblaaGreatDoor
/-
 Four bytes that are handed in; a byte turned.
-/
namespace Go.Proofs.YtibjlbcnapoblaaGreatDoor
open Go.ChangeShapes Go.WideShapes Go.ChangeAt Go.RowKit Hf Lz
set_option maxRecDepth 100000 in
theorem open_four{H:Type}{enc:TypeId×Value->H}{W:World}{base:Nat}{v:Value}{d:DataW H}{p:List MemPlace}(hv:Value.okWide Tryz.prog W .any base 49 v)
 (h:DataW.Trod enc Tryz.prog W 0 (fun _=>true) true 49 v d p):∃x0 x1 x2 x3:Int,v= .agg #[.int .u8 x0,.int .u8 x1,.int .u8 x2,.int .u8 x3]∧((Lit.int .u8 x0).wf=true∧(Lit.int .u8 x1).wf=true∧(Lit.int .u8 x2).wf=true∧(Lit.int .u8 x3).wf=true):=by
 obtain⟨cs,rfl,hsz,_⟩:∃cs,v= .agg cs∧cs.size=Tryz.prog.cellsOf 49∧Row.okWide Tryz.prog W .any base 49 cs:=by
  simpa [Value.okWide,Tryz.underlying49] using hv
 rw[show Tryz.prog.cellsOf 49=4 from by kernel_rfl] at hsz
 obtain⟨fuel,hf⟩:=h
 obtain⟨xs,m,_,hx,_,hxl,hel⟩:=DataW.trod_array Tryz.underlying49 hf
 simp only[Value.cells] at hel
 have key:∀i,i<4->∃z:Int,cs[i]?=some (.int .u8 z)∧(Lit.int .u8 z).wf=true:=by
  intro i hi
  have h1:=hel i hi
  rw[Tryz.cells5,Nat.mul_one,List.getElem?_eq_getElem (by omega)] at h1
  obtain⟨z,e1,e2,e3⟩:=DataW.trod_int Tryz.underlying5 h1
  refine⟨z,?_,e3⟩
  have:=congrArg (·[0]?) e1
  simpa [List.getElem?_take,List.getElem?_drop] using this
 obtain⟨x0,a0,b0⟩:=key 0 (by decide)
 obtain⟨x1,a1,b1⟩:=key 1 (by decide)
 obtain⟨x2,a2,b2⟩:=key 2 (by decide)
 obtain⟨x3,a3,b3⟩:=key 3 (by decide)
 refine⟨x0,x1,x2,x3,?_,b0,b1,b2,b3⟩
 congr 1
 refine Array.ext (by simp[hsz]) fun i h1 h2=>?_
 have hi:i<4:=by omega
 match i,hi with
 | 0,_=>exact(Array.getElem?_eq_some_iff.1 a0).2
 | 1,_=>exact(Array.getElem?_eq_some_iff.1 a1).2
 | 2,_=>exact(Array.getElem?_eq_some_iff.1 a2).2
 | 3,_=>exact(Array.getElem?_eq_some_iff.1 a3).2
theorem xor8(x c:Int)(h0:0<=x)(h1:x<=255)(c0:0<=c)(c1:c<=255):0<=bits .xor .u8 x c∧bits .xor .u8 x c<=255:=by
 obtain⟨n,rfl⟩:=Int.eq_ofNat_of_zero_le h0
 obtain⟨m,rfl⟩:=Int.eq_ofNat_of_zero_le c0
 have h:=Cr.low_byte n m (by omega)
 rw[show(n:Int)%256=(n:Int) from by omega,show n%256=n from by omega] at h
 rw[h]
 have:=Nat.xor_lt_two_pow (n:=8) (show n<2^8 by omega) (show m<2^8 by omega)
 omega
theorem set_get(L:List Int)(q j:Nat)(y:Int)(hq:q<L.length):(L.set q y).getD j 0=if j=q then y else L.getD j 0:=by
 by_cases h:j=q
 ·subst h;rw[if_pos rfl];simp[List.getD,List.getElem?_set_self hq]
 ·rw[if_neg h];simp[List.getD,List.getElem?_set_ne (Ne.symm h)]
end Go.Proofs.YtibjlbcnapoblaaGreatDoor
