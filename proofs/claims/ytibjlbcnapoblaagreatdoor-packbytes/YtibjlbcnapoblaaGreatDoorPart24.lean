/- Contracts and facts. -/
import Derived.Test.YtibjlbcnapoblaaGreatDoorPart23
import Derived.Laws.CopyRow
namespace Go.Proofs.YtibjlbcnapoblaaGreatDoor
set_option maxRecDepth 100000
set_option maxHeartbeats 6400000
section
open Hf Lz
theorem Qlp{ls:List Int}(hc:Qaq ls=true)(x:Nat)(hx:x<ls.length)(h0:0<ls.getD x 0):Xjz ls (Qam ls) x=low (Qds ls x) (ls.getD x 0).toNat:=by
 have hok:Qhl ls=true:=by unfold Qaq at hc;rw[Bool.and_eq_true] at hc;exact hc.1
 have hr:=(Qb0 hok).2 _ (show ls.getD x 0∈ls from by simp[List.getD,List.getElem?_eq_getElem hx])
 have hlt:=Qko hc x (ls.getD x 0).toNat hx (by omega) (by omega) (by omega)
 have hp:2^(ls.getD x 0).toNat<=2^15:=Nat.pow_le_pow_right (by decide) (by omega)
 unfold Xjz
 rw[Qer ls x hx]
 unfold codeF
 rw[if_pos h0,Int.toNat_natCast,Nat.mod_eq_of_lt (by omega)]
theorem Xbj{t:Tkz}(h:Qew t=0):(t.1=0∧t.2.1=1)∨(1<=t.1∧t.1<=4096∧4<=t.2.1∧t.2.1<=258∧t.2.2=0):=by
 unfold Qew Qc5 at h
 by_cases h1:Xdt t=true
 ·left;unfold Xdt at h1;simpa using h1
 ·by_cases h2:Xd0 t=true
  ·right;unfold Xd0 at h2;simpa using h2
  ·simp[h1,h2] at h
structure Tg (ls ds:List Int) (t:Tkz):Prop where
 chk:Qew t=0
 u8:0<=t.2.2∧t.2.2<=255
 sym:0<ls.getD (Qff t).toNat 0
 dst:t.1≠0->0<ds.getD (Qfy t.1).toNat 0
theorem Xd4{ls ds:List Int}(h1:Qaq ls=true)(h2:Qaq ds=true)(hl:ls.length=511)(hd:ds.length=13){t:Tkz}(ht:Tg ls ds t)(s:Bst)(r:List Nat)(hs:bitsOf s=Xfr ls (Qam ls) ds (Qam ds) t++r):
 ∃s',Qyq (Qbw ls ls.length) (Qbw ds ds.length) s=some (t,s')∧bitsOf s'=r:=by
 obtain⟨d,n,x⟩:=t
 obtain⟨hk,h8,hp,hq⟩:=ht
 dsimp only at *
 unfold Xfr at hs
 dsimp only at hs
 unfold Qff at hs hp
 dsimp only at hs hp
 rcases Xbj hk with ⟨e1,e2⟩ | ⟨e1,e2,e3,e4,e5⟩
 ·dsimp only at e1 e2
  subst e1 e2
  rw[if_pos rfl] at hs hp
  rw[if_pos rfl,Qlp h1 _ (by omega) hp] at hs
  obtain⟨s',r1,r2⟩:=Qmf ls h1 x.toNat (by omega) hp s r hs
  refine⟨s',?_,r2⟩
  unfold Qyq
  rw[r1]
  dsimp only
  rw[if_pos (by omega),show((x.toNat:Nat):Int)=x from by omega]
 ·dsimp only at e1 e2 e3 e4 e5
  subst e5
  have hdr:=Qgl e1 e2
  have hq':=hq (by omega)
  rw[if_neg (by omega)] at hs hp
  rw[if_neg (by omega),Qlp h1 _ (by omega) hp,Qlp h2 _ (by omega) hq',List.append_assoc,List.append_assoc] at hs
  obtain⟨s1,r1,r2⟩:=Qmf ls h1 (252+n).toNat (by omega) hp s _ hs
  obtain⟨s2,r3,r4⟩:=Qmf ds h2 (Qfy d).toNat (by omega) hq' s1 _ r2
  obtain⟨s3,r5,r6⟩:=Qp7 d.toNat (Qfy d).toNat 1 s2 r r4
  refine⟨s3,?_,r6⟩
  unfold Qyq
  rw[r1]
  dsimp only
  rw[if_neg (by omega),r3]
  dsimp only
  rw[Int.toNat_natCast,r5]
  dsimp only
  have hlog:2^(Qfy d).toNat*1+d.toNat%2^(Qfy d).toNat=d.toNat:=by
   unfold Qfy
   rw[Int.toNat_natCast,Nat.mul_one]
   have a1:=Nat.log2_self_le (show d.toNat≠0 by omega)
   have a2:d.toNat<2^(Nat.log2 d.toNat+1):=Nat.lt_log2_self
   rw[Nat.pow_succ] at a2
   rw[Nat.mod_eq_sub_mod a1,Nat.mod_eq_of_lt (by omega)]
   omega
  rw[hlog,show((d.toNat:Nat):Int)=d from by omega,show(((252+n).toNat:Nat):Int)-252=n from by omega]
theorem Qqw{ls ds:List Int}(h1:Qaq ls=true)(h2:Qaq ds=true)(hl:ls.length=511)(hd:ds.length=13):∀(m acc:List Tkz) (s:Bst) (r:List Nat),(∀t∈m,Tg ls ds t)->bitsOf s=m.flatMap (Xfr ls (Qam ls) ds (Qam ds))++r ->
 ∃s',Qin (Qbw ls ls.length) (Qbw ds ds.length) m.length acc s=some (acc++m,s')
 | [],acc,s,r,_,_=>⟨s,by simp[Qin]⟩
 | t::m,acc,s,r,ht,hs=>by
   rw[List.flatMap_cons,List.append_assoc] at hs
   obtain⟨s1,r1,r2⟩:=Xd4 h1 h2 hl hd (ht t (List.mem_cons_self ..)) s _ hs
   obtain⟨s2,r3⟩:=Qqw h1 h2 hl hd m (acc++ [t]) s1 r (fun u hu=>ht u (List.mem_cons_of_mem _ hu)) r2
   refine⟨s2,?_⟩
   rw[List.length_cons,Qin,r1]
   dsimp only
   rw[r3]
   simp
theorem Xb0(l:List Tkz)(hn:l.length<=65536):(lsF l).length=511∧Qaq (lsF l)=true∧(dsF l).length=13∧Qaq (dsF l)=true∧(∀u,u<511->0<(Qau l l.length).getD u 0->0<(lsF l).getD u 0)∧(∀u,u<13->0<(Qar l l.length).getD u 0->0<(dsF l).getD u 0):=by
 obtain⟨a1,a2,a3⟩:=Qvd (cs:=Qev (Qau l l.length)) (by rw[Qa5,Qa7];decide) (fun k=>by rw[Qen];have:=Qe6 l l.length k;omega)
 obtain⟨b1,b2,b3⟩:=Qvd (cs:=Qev (Qar l l.length)) (by rw[Qa5,Qa2];decide) (fun k=>by rw[Qen];have:=Qec l l.length k;omega)
 rw[Qa5,Qa7] at a1 a3
 rw[Qa5,Qa2] at b1 b3
 exact⟨a1,a2,b1,b2,fun u hu h=>a3 u hu (by rw[Qen];omega),fun u hu h=>b3 u hu (by rw[Qen];omega)⟩
theorem Xfd(l:List Tkz)(hn:l.length<=65536)(hz:(Qcd l).2=0)(h8:∀j,j<l.length->0<=(l.getD j tk0).2.2∧(l.getD j tk0).2.2<=255):Qyo (Qb2 l)=some l:=by
 obtain⟨a1,a2,b1,b2,a3,b3⟩:=Xb0 l hn
 have hall:=Qgv hz
 have hT:∀t∈l,Tg (lsF l) (dsF l) t:=fun t ht=>by
  obtain⟨j,hj,rfl⟩:=List.getElem_of_mem ht
  have e:l.getD j tk0=l[j]:=by simp[List.getD,List.getElem?_eq_getElem hj]
  have c1:=hall j hj
  have c2:=h8 j hj
  have c3:=Xa9 l j hj
  have c4:=Xck l j hj
  rw[e] at c1 c2 c3 c4
  have c5:=Qf9 c1 c2
  refine⟨c1,c2,a3 _ (by rcases c5 with h | h<;>omega) (c3 (by rcases c5 with h | h<;>omega)),fun hne=>?_⟩
  rcases c5 with h | h
  ·exact absurd h.1 hne
  ·have:=Qgl h.1 h.2.1
   exact b3 _ (by omega) (c4 (by omega) (by omega))
 obtain⟨M,e1,e2,_⟩:=Wv.toks (H:=Qpp l) (lsF l) (Qam (lsF l)) (dsF l) (Qam (dsF l)) l l.length (Nat.le_refl _)
 rw[List.take_length] at e2
 obtain⟨s',hs⟩:=Qqw a2 b2 a1 b1 l [] (M,0,0) _ hT (by unfold bitsOf;dsimp only;rw[low,List.nil_append];exact e2)
 have hp:Qb2 l=Qpp l++M:=by unfold Qb2;exact e1
 have ht:Qmg (Qb2 l)=some (l,s'):=by
  rw[hp]
  unfold Qmg Qpp
  rw[List.append_assoc,List.append_assoc,Qnn 511 (by decide) _ _ a1]
  dsimp only
  rw[if_pos a2,Qnn 13 (by decide) _ _ b1]
  dsimp only
  rw[if_pos b2,Qmh _ _ _ (by omega) (by decide)]
  dsimp only
  rw[hs,List.nil_append]
 unfold Qyo
 rw[ht]
 dsimp only
 rw[if_pos ⟨hz,rfl⟩]
def Qb6(bs:List Int):List Int:=if (Qb2 ((Qgh bs).map toZ)).length<bs.length then Qgi 1 bs.length (Qb2 ((Qgh bs).map toZ)) else Qgi 0 bs.length bs
theorem Qsq(bs:List Int):∀(n q:Nat),bs.length-q<=n->q<=bs.length->(from_ bs q).length<=bs.length-q∧Qeq ((from_ bs q).map toZ)=((bs.length-q:Nat):Int)∧Qp1 ((from_ bs q).map toZ)=true
 | 0,q,h,hq=>by
   have:from_ bs q= []:=by unfold from_;rw[show bs.length-q=0 from by omega];rfl
   rw[this,show bs.length-q=0 from by omega]
   simp[Qeq,Qp1]
 | n+1,q,h,hq=>by
   by_cases hlt:q<bs.length
   ·rw[Qfi hlt]
    rcases Qib bs q hlt with e | ⟨d,m,e,c1,c2,c3,c4,c5,c6,_,_⟩
    ·rw[e]
     dsimp only
     obtain⟨i1,i2,i3⟩:=Qsq bs n (q+1) (by omega) (by omega)
     refine⟨by rw[List.length_cons];omega,?_,?_⟩
     ·rw[List.map_cons,Qeq,i2];simp only[toZ];omega
     ·rw[List.map_cons,Qp1,List.all_cons]
      unfold Qp1 at i3
      rw[i3]
      simp[toZ,Qew,Qc5,Xdt]
    ·rw[e]
     dsimp only
     obtain⟨i1,i2,i3⟩:=Qsq bs n (q+m) (by omega) (by omega)
     refine⟨by rw[List.length_cons];omega,?_,?_⟩
     ·rw[List.map_cons,Qeq,i2];simp only[toZ];omega
     ·rw[List.map_cons,Qp1,List.all_cons]
      unfold Qp1 at i3
      rw[i3]
      have hc:Qew (toZ (d,m,0))=0:=by
       have a1:decide ((1:Int)<=(d:Int))=true:=decide_eq_true (by omega)
       have a2:decide ((d:Int)<=4096)=true:=decide_eq_true (by omega)
       have a3:decide ((4:Int)<=(m:Int))=true:=decide_eq_true (by omega)
       have a4:decide ((m:Int)<=258)=true:=decide_eq_true (by omega)
       have hcp:Xd0 (toZ (d,m,0))=true:=by
        unfold Xd0 toZ
        dsimp only
        rw[a1,a2,a3,a4];rfl
       unfold Qew Qc5
       rw[hcp]
       cases Xdt (toZ (d,m,0))<;>rfl
      rw[hc];rfl
   ·have:from_ bs q= []:=by unfold from_;rw[show bs.length-q=0 from by omega];rfl
    rw[this,show bs.length-q=0 from by omega]
    simp[Qeq,Qp1]
theorem Qk7(bs:List Int)(hL:bs.length<=65536):(Qgh bs).length<=bs.length∧(Qcd ((Qgh bs).map toZ)).2=0:=by
 obtain⟨h1,h2,h3⟩:=Qsq bs bs.length 0 (by omega) (by omega)
 rw[Qej]
 refine⟨by omega,?_⟩
 unfold Qcd
 rw[if_pos h3,h2,if_neg (by omega)]
theorem Qvx(f:Nat)(hf:f=0∨f=1)(n:Nat)(hn:n<=65536)(zs:List Int):Qji (Qgi f n zs)=some ((n,f==1),zs):=by
 unfold Qji Qgi
 rw[List.append_assoc,List.singleton_append]
 dsimp only
 rw[if_pos (by rcases hf with rfl | rfl<;>decide),Qmh _ _ _ hn (by decide)]
 rcases hf with rfl | rfl<;>rfl
theorem Xhx(bs:List Int)(h8:Qce bs)(hL:bs.length<=65536):Qsl (Qb6 bs)=some bs:=by
 have hts:=Qk7 bs (by omega)
 unfold Qb6
 by_cases h:(Qb2 ((Qgh bs).map toZ)).length<bs.length
 ·rw[if_pos h]
  unfold Qsl
  rw[Qvx 1 (.inr rfl) _ (by omega)]
  dsimp only
  rw[if_pos (show((1:Nat)==1)=true from rfl),Xfd _ (by rw[List.length_map];omega) hts.2 (fun j hj=>by
   rw[List.length_map] at hj
   have hf:=Qut bs h8 ((Qgh bs)[j]) (by unfold Qm4;rw[if_neg (by omega)];exact List.getElem_mem _)
   have e:((Qgh bs).map toZ).getD j tk0=toZ (Qgh bs)[j]:=by simp[List.getD,hj]
   rw[e]
   have:=wf_u8 hf.2.2
   simpa [toZ] using this)]
  dsimp only
  rw[back_eq bs h8 (by omega)]
  rw[if_pos ⟨rfl,rfl⟩]
 ·rw[if_neg h]
  unfold Qsl
  rw[Qvx 0 (.inl rfl) _ (by omega)]
  simp
end
section
open Go.RowKit Hf Lz
def Qgb(bs:List Int)(w:World)(e:Ending)(w':World):Prop:=
 Below w.heap.size w w'∧∃a c,e= .returned (.tuple #[.slice a (Qb6 bs).length c,.int .i64 0])∧Ri w' .u8 a c (Qb6 bs)
theorem Qs4(f n:Nat)(zs:List Int)(hf:f<=255)(hn:n<=100000)(hz:∀j,0<=zs.getD j 0∧zs.getD j 0<=255)(j:Nat):0<=(Qgi f n zs).getD j 0∧(Qgi f n zs).getD j 0<=255:=by
 unfold Qgi
 cases j with
 | zero=>simp[List.getD];omega
 | succ j=>
   have hv:=Qhs (n:Int) (by omega) (by omega)
   rw[List.append_assoc,List.singleton_append,List.getD_cons_succ]
   by_cases h:j<(Qe0 (n:Int)).length
   ·have:=hv j
    rw[List.getD_eq_getElem?_getD,List.getElem?_append_left h,<-List.getD_eq_getElem?_getD]
    exact this
   ·rw[List.getD_eq_getElem?_getD,List.getElem?_append_right (by omega),<-List.getD_eq_getElem?_getD]
    exact hz _
theorem Xae(a:Option Addr)(cap:Nat)(bs:List Int)(w:World)(hr:Ri w .u8 a cap bs)(hn:bs.length<=4200)(hT:Calls Tryz.prog 65 #[.slice a bs.length cap] w (Qga bs w)):
 Calls Tryz.prog 43 #[.slice a bs.length cap] w (Qgb bs w):=by
 have HTK:=hid hT
 have hO:Qm4 bs=(Qgh bs,0):=by unfold Qm4;rw[if_neg (by omega)]
 have HFT:=hid (Qut bs hr.fits)
 have HTS:=hid (Qk7 bs (by omega))
 have HR:=hid hr
 have HN:=hid hn
 have hu8:∀j,0<=bs.getD j 0∧bs.getD j 0<=255:=fun j=>wf_u8 (hr.fits j)
 have HU:=hid hu8
 unfold Qga at HTK
 rw[hO] at HTK HFT
 clear hr hn hu8 hT
 unfold Qgb Qb6
 obtain⟨len,hl⟩:∃n,n=bs.length:=⟨_,rfl⟩
 have HL:=hid hl
 rw[<-hl] at HTK|-
 obtain⟨l,hll⟩:∃l,l=(Qgh bs).map toZ:=⟨_,rfl⟩
 have HLL:=hid hll
 rw[<-hll] at HTS|-
 clear hl hll hO
 generalize hE:(if (Qb2 l).length<len then Qgi 1 len (Qb2 l) else Qgi 0 len bs)=E
 have HE:=hid hE
 clear hE
 go_enter Tryz.func43,Tryz.ntmps43
 go_wp2_with fail
 refine HTK.out.mono ?_
 rintro _ w1 ⟨v,rfl,ho,hb⟩
 obtain⟨a1,c1,rfl,hrt⟩:=Rt.own ho HFT.out
 have HB1:=hid hb
 rw[<-HLL.out] at hrt
 have HRT:=hid hrt
 have e1:(Qgh bs).length=l.length:=by rw[HLL.out,List.length_map]
 have HPK:=hid (Qoa a1 c1 l w1 hrt (by have:=HTS.out.1;have:=HN.out;omega))
 unfold Qk0 at HPK
 rw[HTS.out.2] at HPK
 dsimp only
 rw[e1]
 clear hb hrt ho e1 HTK HFT
 generalize l.length=ll at *
 go_wp2_with fail
 refine HPK.out.mono ?_
 rintro _ w2 ⟨hb,hp⟩
 rw[if_pos trivial] at hp
 obtain⟨a2,c2,rfl,hri⟩:=hp
 have HB2:=hid (Bn HB1.out hb)
 have HRI:=hid hri
 have HR2:=hid ((HR.out.later HB1.out).later hb)
 clear hb hri HPK
 obtain⟨pl,hpl⟩:∃n,n=(Qb2 l).length:=⟨_,rfl⟩
 have HPL:=hid hpl
 rw[<-hpl]
 clear hpl
 have hv10:(Qe0 (len:Int)).length<=10:=by have:=Qdo (len:Int) (by omega) (by have:=HN.out;have:=HL.out;omega);omega
 have HV:=hid hv10
 clear hv10
 by_cases hlt:pl<len
 ·have hlz:(pl:Int)<(len:Int):=by omega
  have HC:=hid (Qn1 1 len a2 c2 (Qb2 l) w2 HRI.out (by decide) (by have:=HN.out;have:=HL.out;omega) (by have:=HN.out;have:=HL.out;have:=HPL.out;omega) HV.out)
  rw[<-HPL.out] at HC
  simp only[Int.natCast_one] at HC
  have HE1:Hid (E=Qgi 1 len (Qb2 l)):=by show _=_;rw[<-HE.out,if_pos (by rw[<-HPL.out];exact hlt)]
  go_wp2_with fail
  refine HC.out.mono ?_
  rintro _ w3 ⟨v,rfl,ho,hb⟩
  obtain⟨a3,c3,rfl,h3⟩:=Ri.own ho (fun j=>by
   have:=Qs4 1 len (Qb2 l) (by decide) (by have:=HN.out;have:=HL.out;omega) (fun j=>wf_u8 (HRI.out.fits j)) j
   exact Qa8 this.1 this.2)
  have HB3:=hid (Bn HB2.out hb)
  have H3:=hid h3
  clear hb h3 ho HC
  generalize (Qgi 1 len (Qb2 l))=R at *
  obtain⟨rl,hrl⟩:∃n,n=R.length:=⟨_,rfl⟩
  have HRL:=hid hrl
  rw[<-hrl]
  clear hrl
  go_wp2_with fail
  go_ret2
  exact⟨HB3.out,a3,c3,by rw[HE1.out,<-HRL.out];rfl,by rw[HE1.out];exact H3.out⟩
 ·have hlz:¬(pl:Int)<(len:Int):=by omega
  have HC:=hid (Qn1 0 len a cap bs w2 HR2.out (by decide) (by have:=HN.out;have:=HL.out;omega) (by have:=HN.out;omega) HV.out)
  rw[<-HL.out] at HC
  simp only[Int.natCast_zero] at HC
  have HE1:Hid (E=Qgi 0 len bs):=by show _=_;rw[<-HE.out,if_neg (by rw[<-HPL.out];exact hlt)]
  go_wp2_with fail
  refine HC.out.mono ?_
  rintro _ w3 ⟨v,rfl,ho,hb⟩
  obtain⟨a3,c3,rfl,h3⟩:=Ri.own ho (fun j=>by
   have:=Qs4 0 len bs (by decide) (by have:=HN.out;have:=HL.out;omega) HU.out j
   exact Qa8 this.1 this.2)
  have HB3:=hid (Bn HB2.out hb)
  have H3:=hid h3
  clear hb h3 ho HC
  generalize (Qgi 0 len bs)=R at *
  obtain⟨rl,hrl⟩:∃n,n=R.length:=⟨_,rfl⟩
  have HRL:=hid hrl
  rw[<-hrl]
  clear hrl
  go_wp2_with fail
  go_ret2
  exact⟨HB3.out,a3,c3,by rw[HE1.out,<-HRL.out];rfl,by rw[HE1.out];exact H3.out⟩
end
section
open Go.RowKit
def Gr(B:Nat)(w:World)(v:Value)(l:List Int):Prop:=
 w.ownsRow B 5 1 v l.length (l.map (Value.int .u8))∨∃g,v= .slice (some ⟨g,0,none⟩) l.length l.length∧l.length<=100∧∀j,j<l.length->w.cell? ⟨g,j,none⟩=some (.int .u8 (l.getD j 0))
theorem Gr.later{B:Nat}{w w':World}{v:Value}{l:List Int}(h:Gr B w v l)(hb:Below w.heap.size w w'):Gr B w' v l:=by
 rcases h with h | ⟨g,h1,h2,h3⟩
 ·exact .inl (Qa9 h hb)
 ·refine .inr ⟨g,h1,h2,fun j hj=>?_⟩
  have:=h3 j hj
  rw[hb.cell (p:=⟨g,j,none⟩) (Qjj this)]
  exact this
theorem Qwk(w:World){ops:Array Oper}{rest:List Oper}{o:Oper}{ac:Act}{Q:Exit->Act->World->Prop}(hgd:o.guard=none)(s x:Operand)
 (ho:o.op= .call {callee:= .builtin .append,args:= #[s,x],argTypes:= #[22,22]}) (B:Nat) (v:Value) (l:List Int) (hs:ac.eval s=v) (hgr:Gr B w v l)
 (a:Option Addr) (cap:Nat) (zs:List Int) (hx:ac.eval x= .slice a zs.length cap) (hrd:Ri w .u8 a cap zs) (h0:0<zs.length) (hbd:l.length+zs.length<=1000000) (hB:B<=w.heap.size)
 (h:∀v' w',w'.ownsRow B 5 1 v' (l++zs).length ((l++zs).map (Value.int .u8))->Below B w w'->wpList Tryz.prog ops Q rest (ac.put o.dst v') w'):wpList Tryz.prog ops Q (o::rest) ac w:=by
 rcases hgr with hown | ⟨g,rfl,hl,hc⟩
 ·exact Qch w hgd s x ho B v l hs hown a cap zs hx hrd (by omega) hB (fun v' w' h1 h2=>h v' w' h1 ((Below.refl B w).grown h2 hB (fun j hj=>(hown.lt j hj).1)))
 ·obtain⟨i0,hi,hz0,hz1,hz2⟩:=info_parts Tryz.info5Z
  obtain⟨b,off,rfl,_,hcz⟩:=hrd.cells h0
  have hr:=run_append_grow (P:=Tryz.prog) (w:=w) 22 o.type 5 i0 (.int .u8 0) Tryz.underlying22 hi hz0 ⟨g,0,none⟩ l.length l.length (l.map (Value.int .u8)) (by rw[hz1];simp) (fun j u hj=>by
   have hjl:j<l.length:=by
    have:=(List.getElem?_eq_some_iff.1 hj).1
    simpa using this
   rw[Go.WideShapes.add_plain,Nat.zero_add,hc j hjl,<-hj]
   simp[List.getD,List.getElem?_eq_getElem hjl]) ⟨b,off,none⟩ zs.length cap (zs.map (Value.int .u8)) (by rw[hz1];simp) (fun j u hj=>by
   have hjl:j<zs.length:=by
    have:=(List.getElem?_eq_some_iff.1 hj).1
    simpa using this
   rw[Go.WideShapes.add_plain,hcz j hjl,<-hj]
   simp[List.getD,List.getElem?_eq_getElem hjl]) (by omega) (by omega) (growslice_fits (by omega) (by rw[hz2];omega))
  have hge:=grownCap_ge w (l.length+zs.length) l.length 5
  have hcm:=grownCap_le_maxLen w (l.length+zs.length) l.length 5 (by unfold maxLen;omega)
  refine wpList_plain hgd fun K hK=>?_
  unfold Oper.wp
  simp[execOp,ho,resolve,invoke,builtin,hs,hx,hr,Result.andThen]
  refine hK _ _ (h _ _ ⟨by simp,.inr ⟨w.heap.size,_,_,by simp,hB,heap_alloc_new w.drew _,by rw[List.length_append];exact hge,hcm,?_,?_⟩⟩ (((Below.refl B w).drew).alloc (by simpa using hB) _))
  ·simp only[Array.size_append,List.size_toArray,size_zeroCells,Value.cells]
   simp
   omega
  ·simp only[Array.toList_append,List.append_assoc,Nat.mul_one]
   rw[<-List.append_assoc,<-List.map_append,show(l++zs).length=((l++zs).map (Value.int .u8)).length from by simp]
   exact List.take_left
theorem Xku(w:World)(x:Int)(hx:0<=x∧x<=255):Ri (w.alloc (.cells #[.int .u8 x] 5)) .u8 (some ⟨w.heap.size,0,none⟩) 1 [x]:=by
 refine⟨Nat.le_refl _,by unfold maxLen;omega,fun _=>⟨w.heap.size,0,rfl,by simp,fun j hj=>?_⟩,fun j=>?_⟩
 ·have:j=0:=by simp at hj;omega
  subst this
  exact Joins.cell_of_block (Qbf w _) 0
 ·cases j with
  | zero=>exact Qa8 hx.1 hx.2
  | succ j=>simp;exact Qb8 _
theorem Qok(B:Nat)(v:Value)(l:List Int)(x n:Nat)(Z:Int)(w:World)(hZ:(Z=16∧n=2)∨(Z=32∧n=4))(hg:Gr B w v l)(hl:l.length<=10000)(hB:B<=w.heap.size):
 Calls Tryz.prog 26 #[v,.int .u32 (x:Int),.int .i64 Z] w fun e w'=>∃v',e= .returned v'∧w'.ownsRow B 5 1 v' (l++Sh.Wd.leL n x).length ((l++Sh.Wd.leL n x).map (Value.int .u8))∧Below B w w':=by
 have hZn:Z=8*(n:Int):=by omega
 have hn4:n<=4:=by omega
 have hn2:0<n:=by omega
 clear hZ
 subst hZn
 have HB:=hid hB
 have HL:=hid hl
 have HG:=hid hg
 clear hl hg hB
 go_enter Tryz.func26,Tryz.ntmps26
 go_wp2_with fail
 go_loopw [0,7] (fun y i wr=>∃k:Nat,k<=n∧i= .int .i64 (8*(k:Int))∧Hid (Gr B wr y (l++Sh.Wd.leL k x))∧Hid (0<k->wr.ownsRow B 5 1 y (l++Sh.Wd.leL k x).length ((l++Sh.Wd.leL k x).map (Value.int .u8)))∧Hid (Below B w wr)) (fun _ i _=>8*n-(intOf i).toNat)
 case atStart=>exact⟨0,by omega,by simp,by show Gr _ _ _ _;simpa [Sh.Wd.leL] using HG.out,fun h=>by omega,Below.refl _ _⟩
 case round=>
  obtain⟨k,hk,rfl,HGK,HOK,HBK⟩:=hrel
  by_cases hlt:k<n
  ·have h1:8*(k:Int)<8*(n:Int):=by omega
   have HSN:Hid ((l++Sh.Wd.leL k x)++ [(x:Int)/2^(8*k)%256]=l++Sh.Wd.leL (k+1) x):=by show _=_;rw[Sh.Wd.Qwn,List.append_assoc,Sh.Wd.Qho]
   have hlk:(l++Sh.Wd.leL k x).length=l.length+k:=by rw[List.length_append,Sh.Wd.Qbb]
   have HLK:=hid hlk
   have hBw:B<=wr.heap.size:=Nat.le_trans HB.out HBK.out.size
   have HBA:=hid (HBK.out.alloc hBw (.cells #[.int .u8 ((x:Int)/2^(8*k)%256)] 5))
   clear hlk
   generalize l++Sh.Wd.leL k x=lk at *
   have C1:=hid (HGK.out.later (Qbr wr (.cells #[.int .u8 ((x:Int)/2^(8*k)%256)] 5)))
   have C2:=hid (Xku wr ((x:Int)/2^(8*k)%256) ⟨by omega,by omega⟩)
   have C3:Hid (lk.length + [(x:Int)/2^(8*k)%256].length<=1000000):=by have:=HLK.out;have:=HL.out;show _+1<=_;omega
   have C4:Hid (B<=(wr.alloc (.cells #[.int .u8 ((x:Int)/2^(8*k)%256)] 5)).heap.size):=by show _<=_;simp;omega
   clear hBw
   go_wp2_with (at_builtin;refine Qwk _ rfl _ _ rfl B _ lk rfl C1.out (some ⟨wr.heap.size,0,none⟩) 1 [(x:Int)/2^(8*k)%256] rfl C2.out Nat.one_pos C3.out C4.out ?_)
   intro v' w1 hown hbel
   have hown2:w1.ownsRow B 5 1 v' (lk++ [(x:Int)/2^(8*k)%256]).length ((lk++ [(x:Int)/2^(8*k)%256]).map (Value.int .u8)):=by simpa using hown
   rw[HSN.out] at hown2
   have HO1:=hid hown2
   have HB1:=hid (HBA.out.trans hbel)
   clear hown hown2 hbel HGK HOK HSN C1 C2 C3 C4
   go_wp2
   exact⟨⟨k+1,by omega,by congr 1,.inl HO1.out,fun _=>HO1.out,HB1.out⟩,by simp[intOf];omega⟩
  ·obtain rfl:k=n:=by omega
   have h1:¬8*(k:Int)<8*(k:Int):=by omega
   have HO:=hid (HOK.out hn2)
   clear HOK HGK
   go_wp2_with fail
   go_ret
   exact⟨_,rfl,by simpa using HO.out,HBK.out⟩
def Qif(n k:Nat)(d:List Int):List Int:= [83,67,72,75]++Sh.Wd.leL 2 n++Sh.Wd.leL 2 k++d
theorem Qpm(n k:Nat)(d:List Int)(h:d.length=32):(Qif n k d).length=40:=by unfold Qif;simp[Sh.Wd.Qbb,h]
def Xhh:Array Value:= #[.int .u8 83,.int .u8 67,.int .u8 72,.int .u8 75]
theorem Qur(n k:Nat)(d:List Int)(w:World)(hn:n<=100000)(hk:k<=100000)(hd:d.length=32)(hd8:∀j,0<=d.getD j 0∧d.getD j 0<=255):
 Calls Tryz.prog 24 #[.agg (hdL n k d).toArray] w fun e w'=>∃v,e= .returned v∧w'.ownsRow w.heap.size 5 1 v (Qif n k d).length ((Qif n k d).map (Value.int .u8))∧Below w.heap.size w w':=by
 have hb1:=Qbr w (.cells (hdL n k d).toArray 53)
 have e1:=Qbf w (.cells (hdL n k d).toArray 53)
 have c0:=Joins.cell_of_block e1 0
 have c1:=Joins.cell_of_block e1 1
 rw[show(hdL n k d).toArray[0]?=some (.int .i64 (n:Int)) from rfl] at c0
 rw[show(hdL n k d).toArray[1]?=some (.int .i64 (k:Int)) from rfl] at c1
 have s1:(w.alloc (.cells (hdL n k d).toArray 53)).heap.size=w.heap.size+1:=by simp
 have HCD:Hid (∀j,j<32->(w.alloc (.cells (hdL n k d).toArray 53)).cell? ⟨w.heap.size,2+j,none⟩=some (.int .u8 (d.getD j 0))):=fun j hj=>by
  rw[Joins.cell_of_block e1 (2+j)]
  rw[Nat.add_comm]
  simp[hdL,List.getD,List.getElem?_eq_getElem (show j<d.length by omega)]
 generalize (hdL n k d).toArray=H at *
 have kc:=Joins.run_convert_bytes_const_at (P:=Tryz.prog) (w.alloc (.cells H 53)) 22 5 Xhh 4 4 (w.heap.size+1) s1.symm Tryz.underlying22 Tryz.underlying5
 unfold Xhh at kc
 have hb2:=Qbr (w.alloc (.cells H 53)) (.cells Xhh 5 (4,5))
 have e2:=Qbf (w.alloc (.cells H 53)) (.cells Xhh 5 (4,5))
 rw[s1] at e2
 have d0:=(hb2.cell (p:=⟨w.heap.size,0,none⟩) (by rw[s1];exact Nat.lt_succ_self _)).trans c0
 have d1:=(hb2.cell (p:=⟨w.heap.size,1,none⟩) (by rw[s1];exact Nat.lt_succ_self _)).trans c1
 have HB2:=hid (Bn hb1 hb2)
 have HS2:Hid (w.heap.size+1<=((w.alloc (.cells H 53)).alloc (.cells Xhh 5 (4,5))).heap.size):=by show _<=_;simp
 have HD1:=hid d1
 have HCE:Hid (∀j,j<32->((w.alloc (.cells H 53)).alloc (.cells Xhh 5 (4,5))).cell? ⟨w.heap.size,2+j,none⟩=some (.int .u8 (d.getD j 0))):=fun j hj=>(hb2.cell (p:=⟨w.heap.size,2+j,none⟩) (by rw[s1];exact Nat.lt_succ_self _)).trans (HCD.out j hj)
 have HG1:Hid (Gr (w.heap.size+1) ((w.alloc (.cells H 53)).alloc (.cells Xhh 5 (4,5))) (.slice (some ⟨w.heap.size+1,0,none⟩) 4 4) [83,67,72,75]):=by
  refine .inr ⟨w.heap.size+1,rfl,by simp,fun j hj=>?_⟩
  rw[Joins.cell_of_block e2 j]
  match j,hj with
  | 0,_=>rfl
  | 1,_=>rfl
  | 2,_=>rfl
  | 3,_=>rfl
 unfold Xhh at d0 HB2 HS2 HD1 HCE HG1
 clear hb1 e1 c0 c1 s1 hb2 e2 d1 HCD
 go_enter Tryz.func24,Tryz.ntmps24
 go_wp2_with fail
 generalize (w.alloc (.cells H 53)).alloc (.cells #[.int .u8 83,.int .u8 67,.int .u8 72,.int .u8 75] 5 (4,5))=w2 at *
 clear kc d0
 refine(Qok (w.heap.size+1) _ _ n 2 16 _ (.inl ⟨rfl,rfl⟩) HG1.out (by decide) HS2.out).mono ?_
 rintro _ w3 ⟨v3,rfl,ho3,hb3⟩
 have d1:=(hb3.cell (p:=⟨w.heap.size,1,none⟩) (Nat.lt_succ_self _)).trans HD1.out
 have HB3:=hid (HB2.out.trans (hb3.mono (Nat.le_succ _)))
 have HS3:=hid (Nat.le_trans HS2.out hb3.size)
 have HCF:Hid (∀j,j<32->w3.cell? ⟨w.heap.size,2+j,none⟩=some (.int .u8 (d.getD j 0))):=fun j hj=>(hb3.cell (p:=⟨w.heap.size,2+j,none⟩) (Nat.lt_succ_self _)).trans (HCE.out j hj)
 have HL3:Hid (([83,67,72,75]++Sh.Wd.leL 2 n:List Int).length=6):=by show _=_;simp[Sh.Wd.Qbb]
 have HO3:=hid ho3
 clear ho3 hb3 HG1 HS2 HB2 HD1 HCE
 obtain⟨l3,hl3⟩:∃l,l=([83,67,72,75]++Sh.Wd.leL 2 n:List Int):=⟨_,rfl⟩
 rw[<-hl3] at HO3 HL3
 have HE3:=hid hl3
 clear hl3
 go_wp2_with fail
 refine(Qok (w.heap.size+1) _ l3 k 2 16 _ (.inl ⟨rfl,rfl⟩) (.inl HO3.out) (by rw[HL3.out];decide) HS3.out).mono ?_
 rintro _ w4 ⟨v4,rfl,ho4,hb4⟩
 have HB4:=hid (HB3.out.trans (hb4.mono (Nat.le_succ _)))
 have HS4:=hid (Nat.le_trans HS3.out hb4.size)
 have HRD:Hid (Ri w4 .u8 (some ⟨w.heap.size,2,none⟩) 32 d):=⟨by omega,by unfold maxLen;omega,fun _=>⟨w.heap.size,2,rfl,by have:=HS4.out;omega,fun j hj=>(hb4.cell (p:=⟨w.heap.size,2+j,none⟩) (Nat.lt_succ_self _)).trans (HCF.out j (by omega))⟩,fun j=>Qa8 (hd8 j).1 (hd8 j).2⟩
 have HL4:Hid ((l3++Sh.Wd.leL 2 k).length=8):=by show _=_;rw[List.length_append,HL3.out,Sh.Wd.Qbb]
 have HO4:=hid ho4
 obtain⟨l4,hl4⟩:∃l,l=l3++Sh.Wd.leL 2 k:=⟨_,rfl⟩
 rw[<-hl4] at HO4 HL4
 have HE4:Hid (Qif n k d=l4++d):=by show _=_;rw[hl4,HE3.out];rfl
 have hv4:=HO4.out
 obtain⟨_,⟨rfl,h40⟩ | ⟨g4,cap4,cur4,rfl,hg4,hh4,hr4⟩⟩:=hv4
 ·have:=HL4.out;omega
 have HD:=hid hd
 have G1:Hid (Gr (w.heap.size+1) w4 (.slice (some ⟨g4,0,none⟩) l4.length cap4) l4):= .inl HO4.out
 have G2:Hid (0<d.length):=by show _<_;omega
 have G3:Hid (l4.length+d.length<=1000000):=by show _<=_;have:=HL4.out;omega
 clear ho4 hb4 HO3 HS3 HB3 HCF hl4 d1 hh4 hr4 hd
 go_wp2_with (at_builtin;refine Qwk _ rfl _ _ rfl (w.heap.size+1) _ l4 rfl G1.out (some ⟨w.heap.size,2,none⟩) 32 d (by rw[HD.out];rfl) HRD.out G2.out G3.out HS4.out ?_)
 intro v' w5 hown hbel
 have hown2:w5.ownsRow (w.heap.size+1) 5 1 v' (l4++d).length ((l4++d).map (Value.int .u8)):=by simpa using hown
 rw[<-HE4.out] at hown2
 have HO5:=hid hown2
 have HB5:=hid (HB4.out.trans (hbel.mono (Nat.le_succ _)))
 clear hown hown2 hbel
 go_wp2_with fail
 go_ret
 exact⟨_,rfl,Joins.ownsRow_le HO5.out (Nat.le_succ _),HB5.out⟩
theorem Xdc(k:Nat):(Builtin.zeroCells #[.int .u8 0] k).toList=List.replicate k (Value.int .u8 0):=by
 unfold Builtin.zeroCells
 refine List.ext_getElem (by simp) (fun i h1 h2=>?_)
 simp[Nat.mod_one]
theorem Xc3(w:World)(B:Nat)(v:Value)(l:List Int)(k:Nat)(ty:TypeId)(h:w.ownsRow B 5 1 v l.length (l.map (Value.int .u8)))(hl:0<l.length)(hb:l.length+k<=1000000)(hB:B<=w.heap.size):
 ∃v' w',(Builtin.append_ #[22,3] ty #[v,.int .i64 (k:Int)]).run Tryz.prog w= .ok v' w'∧w'.ownsRow B 5 1 v' (l++List.replicate k 0).length ((l++List.replicate k 0).map (Value.int .u8))∧Below B w w':=by
 obtain⟨i0,hi,hz0,hz1,hz2⟩:=info_parts Tryz.info5Z
 have h':=h
 obtain⟨_,⟨rfl,h0⟩ | ⟨g,cap,cur,rfl,hg,hh,hn,hc,hcs,htk⟩⟩:=h
 ·omega
 rw[Nat.mul_one] at htk hcs
 have hw:IntKind.i64.wrap (k:Int)=k:=IntWalk.i64_in _ (by omega)
 have hneg:¬((k:Int)<0):=by omega
 have h48i:¬(281474976710656<(k:Int)*(i0.bytes:Int)):=by rw[hz2];omega
 by_cases hk:k=0
 ·subst hk
  refine⟨_,w,?_,by simpa using h',Below.refl _ _⟩
  have hw0:IntKind.i64.wrap 0=0:=by decide
  simp[Builtin.append_,run_underlying Tryz.underlying22,run_underlying Tryz.underlying3,sizeOf,typeInfo,hi,asInt,asIntOf,hw0,hn,storeCells]
 ·by_cases hr:l.length+k<=cap
  ·have hst:=run_storeCells_at Tryz.prog g l.length 5 (List.replicate k (Value.int .u8 0)) 0 cur w hh (by simp;omega) (fun v hv=>by rw[List.eq_of_mem_replicate hv];rfl)
   have hns:¬(k*i0.size=0):=by rw[hz1];omega
   simp only[Nat.add_zero] at hst
   refine⟨.slice (some ⟨g,0,none⟩) (l.length+k) cap,w.setRow g (cur.toList.take l.length++List.replicate k (Value.int .u8 0)++cur.toList.drop (l.length+(List.replicate k (Value.int .u8 0)).length)).toArray,?_,?_,below_setRow (Below.refl B w) hg _⟩
   ·simp[Builtin.append_,run_underlying Tryz.underlying22,run_underlying Tryz.underlying3,sizeOf,typeInfo,zeroValue,hi,hz0,hz1,asInt,asIntOf,hw,hneg,h48i,hr,hk,Xdc,Value.cells,Addr.add_lit,hst]
   ·refine⟨by simp,.inr ⟨g,cap,_,by simp,hg,setRow_heap _ _ _ _ _ _ hh,by simp;exact hr,hc,?_,?_⟩⟩
    ·simp;omega
    ·rw[Nat.mul_one,List.map_append,List.map_replicate]
     simp only[List.length_append,List.length_replicate]
     rw[htk,List.take_append_of_le_length (by simp)]
     exact List.take_of_length_le (by simp)
  ·have hrun:=Lib.run_append_grow_zeros (P:=Tryz.prog) w 22 3 ty 5 i0 (.int .u8 0) .i64 .i64 Tryz.underlying22 Tryz.underlying3 hi hz0 (some ⟨g,0,none⟩) l.length cap (l.map (Value.int .u8)) (by
    rw[hz1]
    exact run_firstCells_some (P:=Tryz.prog) w.drew 1 l.length ⟨g,0,none⟩ l.length cap (l.map (Value.int .u8)) (by simp) (fun j u hj=>by
     have hjl:j<l.length:=by
      have:=(List.getElem?_eq_some_iff.1 hj).1
      simpa using this
     rw[Go.WideShapes.add_plain,Nat.zero_add]
     exact(h'.cellAt j (by omega)).trans hj)) k (by omega) (by rw[hz1];decide) (by omega) (by omega) (by rw[hz2];omega) (growslice_fits (by omega) (by rw[hz2];omega))
   have hge:=grownCap_ge w (l.length+k) cap 5
   have hcm:=grownCap_le_maxLen w (l.length+k) cap 5 (by unfold maxLen;omega)
   refine⟨_,_,hrun,⟨by simp,.inr ⟨w.heap.size,_,_,by simp,hB,heap_alloc_new w.drew _,by simp;exact hge,hcm,?_,?_⟩⟩,((Below.refl B w).drew).alloc (by simpa using hB) _⟩
   ·simp only[Array.size_append,List.size_toArray,size_zeroCells,Value.cells]
    simp
    omega
   ·simp only[Array.toList_append,Value.cells,Xdc,Nat.mul_one]
    rw[<-List.map_replicate (f:=Value.int .u8) (a:=(0:Int)),<-List.map_append,show(l++List.replicate k (0:Int)).length=((l++List.replicate k (0:Int)).map (Value.int .u8)).length from by simp]
    exact List.take_left
end
end Go.Proofs.YtibjlbcnapoblaaGreatDoor
