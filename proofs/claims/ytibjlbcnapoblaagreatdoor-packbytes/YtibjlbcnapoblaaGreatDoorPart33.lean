/- Contracts and facts. -/
import Derived.Test.YtibjlbcnapoblaaGreatDoorPart32
namespace Go.Proofs.YtibjlbcnapoblaaGreatDoor
set_option maxRecDepth 100000
set_option maxHeartbeats 6400000
section
namespace Hf
structure RD (n:Nat) (f:Nat->Nat) (t:Nat) (s:TS) (d:DS):Prop where
 lw:d.W.length=n+t
 li:d.I.length=n+t
 w:∀i,i<n+t->d.W.getD (f i) 0=wt s.N i
 free:∀i,((s.l<=i∧i<n)∨(s.p<=i∧i<n+t))->d.I.getD (f i) 0= -1
 taken:∀i,(i<s.l∨(n<=i∧i<s.p))->d.I.getD (f i) 0=inn s.N i
 par:∀i,(i<s.l∨(n<=i∧i<s.p))->(n:Int)<=inn s.N i
theorem Pi.lt{m:Nat}{N:Nodes}{f:Nat->Nat}(h:Pi m N f){i t:Nat}(hi:i<m+t):f i<m+t:=by
 by_cases c:i<m
 ·have:=h.low i c;omega
 ·rw[h.high i (by omega)];exact hi
theorem RD.pick{n:Nat}{C:Int}{f:Nat->Nat}{t:Nat}{s:TS}{d:DS}(h:TI n C t s)(hP:PS n t s)(hf:Pi n s.N f)(hR:RD n f t s d)(ht:t+2<=n):
 Qmx d (-1)=(f (Qfb n s):Int)∧Qmx d (f (Qfb n s):Int)=(f (Qfe n s):Int):=by
 have hlen:=h.len
 have hln:=h.ln
 have hnp:=h.np
 have hpl:=h.pl
 have hcnt:=h.cnt
 have hpar:=h.par
 obtain⟨a1,a2,a3,a4,a5,_,a7⟩:=take_one (n:=n) (N:=s.N) (l:=s.l) (p:=s.p) h.ln h.np (by omega) (by omega)
 obtain⟨b1,b2,b3,b4,b5,_,b7⟩:=take_one (n:=n) (N:=s.N) (l:=Qa0 n s.N s.l s.p) (p:=Qay n s.N s.l s.p) a2 a3 a4 (by omega)
 have m1:=Qve hf (by rw[hlen];exact hP.pair) h.ln h.np (by omega) (l:=s.l) (p:=s.p) (by omega)
 have m2:=Qve hf (by rw[hlen];exact hP.pair) a2 a3 a4 (l:=Qa0 n s.N s.l s.p) (p:=Qay n s.N s.l s.p) (by omega)
 have hA:Qfb n s=takeA n s.N s.l s.p:=rfl
 have hB:Qfe n s=takeA n s.N (Qa0 n s.N s.l s.p) (Qay n s.N s.l s.p):=rfl
 rw[<-hA] at a1 a7 m1
 rw[<-hB] at b1 b7 m2
 rw[hlen] at a1 a4 a7 b1 b4 b7 m1 m2
 clear hA hB
 generalize Qfb n s=A at *
 generalize Qfe n s=B at *
 generalize Qa0 n s.N (Qa0 n s.N s.l s.p) (Qay n s.N s.l s.p)=l2 at *
 generalize Qay n s.N (Qa0 n s.N s.l s.p) (Qay n s.N s.l s.p)=p2 at *
 generalize Qa0 n s.N s.l s.p=l1 at *
 generalize Qay n s.N s.l s.p=p1 at *
 have fA:(s.l<=A∧A<n)∨(s.p<=A∧A<n+t):=by omega
 have fB:(s.l<=B∧B<n)∨(s.p<=B∧B<n+t):=by omega
 have lA:=hf.lt a1
 have lB:=hf.lt b1
 have hcand:∀y,y<n+t->d.I.getD y 0<0->∃j,f j=y∧j<n+t∧((s.l<=j∧j<n)∨(s.p<=j∧j<n+t)):=by
  intro y hy hi
  obtain⟨j,e,h1,h2⟩:=hf.sur' y
  have hj:j<n+t:=by
   by_cases c:y<n
   ·have:=h1 c;omega
   ·have:=h2 (by omega);omega
  refine⟨j,e,hj,?_⟩
  by_cases c:j<s.l∨(n<=j∧j<s.p)
  ·have h3:=hR.taken j c
   have h4:=hpar j c
   rw[e] at h3
   omega
  ·omega
 unfold Qmx
 rw[hR.lw]
 refine⟨(Qij (x:=f A) (by omega) (by rw[hR.free A fA];omega) (n+t) (fun y hy _ hi hne=>?_)).2 lA,(Qij (x:=f B) (fun e=>?_) (by rw[hR.free B fB];omega) (n+t) (fun y hy hno hi hne=>?_)).2 lB⟩
 ·obtain⟨j,rfl,hj,hfj⟩:=hcand y hy hi
  rw[hR.w A a1,hR.w j hj]
  exact m1 j hfj (fun e=>hne (by rw[e]))
 ·have:=hf.inj' (show f B=f A by omega);omega
 ·obtain⟨j,rfl,hj,hfj⟩:=hcand y hy hi
  have hjA:j≠A:=fun e=>hno (by rw[e])
  rw[hR.w B b1,hR.w j hj]
  exact m2 j (by omega) (fun e=>hne (by rw[e]))
theorem Qfx(l:List Int)(x:Int)(i:Nat)(h:i<l.length):(l++ [x]).getD i 0=l.getD i 0:=by
 simp[List.getD,List.getElem?_append_left h]
theorem Qfm(l:List Int)(x:Int)(i:Nat)(h:i=l.length):(l++ [x]).getD i 0=x:=by
 subst h;simp[List.getD]
theorem RD.step{n:Nat}{C:Int}{f:Nat->Nat}{t:Nat}{s:TS}{d:DS}(h:TI n C t s)(hP:PS n t s)(hf:Pi n s.N f)(hR:RD n f t s d)(ht:t+2<=n):RD n f (t+1) (Qcc n s) (Qmr d):=by
 obtain⟨p1,p2⟩:=RD.pick h hP hf hR ht
 have hlen:=h.len
 have hln:=h.ln
 have hnp:=h.np
 have hpl:=h.pl
 have hcnt:=h.cnt
 obtain⟨s1,s2,s3,s4,s5⟩:=Qf3 h ht
 obtain⟨a1,a2,a3,a4,a5,_,a7⟩:=take_one (n:=n) (N:=s.N) (l:=s.l) (p:=s.p) h.ln h.np (by omega) (by omega)
 obtain⟨b1,b2,b3,b4,b5,_,b7⟩:=take_one (n:=n) (N:=s.N) (l:=Qa0 n s.N s.l s.p) (p:=Qay n s.N s.l s.p) a2 a3 a4 (by omega)
 have hA:Qfb n s=takeA n s.N s.l s.p:=rfl
 have hB:Qfe n s=takeA n s.N (Qa0 n s.N s.l s.p) (Qay n s.N s.l s.p):=rfl
 rw[<-hA] at a1 a7
 rw[<-hB] at b1 b7
 have hl2:(Qcc n s).l=Qa0 n s.N (Qa0 n s.N s.l s.p) (Qay n s.N s.l s.p):=rfl
 have hp2:(Qcc n s).p=Qay n s.N (Qa0 n s.N s.l s.p) (Qay n s.N s.l s.p):=rfl
 rw[<-hl2,<-hp2] at b5 b7
 rw[<-hl2] at b2
 rw[<-hp2] at b3 b4
 rw[hlen] at a1 a4 a7 b1 b4 b7 s2 s3 s4 s5
 have hW:(Qmr d).W=d.W++ [d.W.getD (f (Qfb n s)) 0+d.W.getD (f (Qfe n s)) 0]:=by
  unfold Qmr;rw[p1,p2,Int.toNat_natCast,Int.toNat_natCast]
 have hI:(Qmr d).I=((d.I.set (f (Qfb n s)) ((n+t:Nat):Int)).set (f (Qfe n s)) ((n+t:Nat):Int))++ [-1]:=by
  unfold Qmr;rw[p1,p2,Int.toNat_natCast,Int.toNat_natCast,hR.lw]
 clear hA hB hl2 hp2 p1 p2
 generalize Qfb n s=A at *
 generalize Qfe n s=B at *
 generalize Qa0 n s.N s.l s.p=l1 at *
 generalize Qay n s.N s.l s.p=p1 at *
 have lA:=hf.lt a1
 have lB:=hf.lt b1
 have hlw:=hR.lw
 have hli:=hR.li
 have hfn:f (n+t)=n+t:=hf.high _ (by omega)
 have hIx:∀i,i<n+t->(Qmr d).I.getD (f i) 0=if i=B then ((n+t:Nat):Int) else if i=A then ((n+t:Nat):Int) else d.I.getD (f i) 0:=fun i hi=>by
  have li:=hf.lt hi
  rw[hI,Qfx _ _ _ (by rw[List.length_set,List.length_set];omega),Qb9 _ _ _ _ (by rw[List.length_set];omega),Qb9 _ _ _ _ (by omega)]
  by_cases c1:i=B
  ·subst c1;rw[if_pos rfl,if_pos rfl]
  ·rw[if_neg (fun e=>c1 (hf.inj' e)),if_neg c1]
   by_cases c2:i=A
   ·subst c2;rw[if_pos rfl,if_pos rfl]
   ·rw[if_neg (fun e=>c2 (hf.inj' e)),if_neg c2]
 refine⟨by rw[hW,List.length_append,hlw];simp;omega,by rw[hI,List.length_append,List.length_set,List.length_set,hli];simp;omega,fun i hi=>?_,fun i hi=>?_,fun i hi=>?_,fun i hi=>?_⟩
 ·by_cases c:i<n+t
  ·rw[hW,Qfx _ _ _ (by rw[hlw];exact hf.lt c),s4 i c];exact hR.w i c
  ·obtain rfl:i=n+t:=by omega
   rw[hfn,hW,Qfm _ _ _ (by rw[hlw]),s5,hR.w A a1,hR.w B b1]
 ·by_cases c:i<n+t
  ·rw[hIx i c,if_neg (by omega),if_neg (by omega)];exact hR.free i (by omega)
  ·obtain rfl:i=n+t:=by omega
   rw[hfn,hI,Qfm _ _ _ (by rw[List.length_set,List.length_set,hli])]
 ·rw[hIx i (by omega)]
  by_cases c1:i=B
  ·subst c1;rw[if_pos rfl,s3]
  ·rw[if_neg c1]
   by_cases c2:i=A
   ·subst c2;rw[if_pos rfl,s2]
   ·rw[if_neg c2,s1 i (by omega)];exact hR.taken i (by omega)
 ·by_cases c1:i=B
  ·subst c1;rw[s3];omega
  ·by_cases c2:i=A
   ·subst c2;rw[s2];omega
   ·rw[s1 i (by omega)];exact hR.par i (by omega)
theorem place(cs:List Int)(j:Nat)(hj:j<(srt cs).length):∃i,i<(srt cs).length∧(nz cs cs.length).getD i 0=(srt cs).getD j 0:=by
 obtain⟨i,hi,e⟩:=Qeg ((Qg0 cs).subset (Qbt (srt cs) j hj))
 exact⟨i,by rw[Qca];exact hi,e⟩
noncomputable def plcD (cs:List Int) (j:Nat):Nat:=if h:j<(srt cs).length then Classical.choose (place cs j h) else j
theorem Qdh(cs:List Int)(j:Nat)(hj:j<(srt cs).length):plcD cs j<(srt cs).length∧(nz cs cs.length).getD (plcD cs j) 0=(srt cs).getD j 0:=by
 unfold plcD
 rw[dif_pos hj]
 exact Classical.choose_spec (place cs j hj)
theorem Qwl(cs:List Int)(k:Nat){i j:Nat}(hi:i<(nz cs k).length)(hj:j<(nz cs k).length)(e:(nz cs k).getD i 0=(nz cs k).getD j 0):i=j:=by
 have h1:=Qov (Qvh cs k)
 by_cases c1:i<j
 ·have:=h1 i j c1 hj;omega
 ·by_cases c2:j<i
  ·have:=h1 j i c2 hi;omega
  ·omega
theorem Xis(cs:List Int)(k:Nat){i j:Nat}(hi:i<(nz cs k).length)(hj:j<(nz cs k).length)(e:(nz cs k).getD i 0<(nz cs k).getD j 0):i<j:=by
 have h1:=Qov (Qvh cs k)
 by_cases c:j<i
 ·have:=h1 j i c hi;omega
 ·by_cases c2:i=j
  ·subst c2;omega
  ·omega
theorem Xa8(cs:List Int)(N:Nodes)(hw:∀i,i<(srt cs).length->wt N i=key cs ((srt cs).getD i 0)):Pi (srt cs).length N (plcD cs):=by
 refine⟨fun j hj=>(Qdh cs j hj).1,fun j hj=>by unfold plcD;rw[dif_neg (by omega)],fun i j hi hj e=>?_,fun i hi=>?_,fun i j hij hj=>?_⟩
 ·have h1:=(Qdh cs i hi).2
  have h2:=(Qdh cs j hj).2
  rw[e,h2] at h1
  exact Qk2 cs hi hj (by rw[h1])
 ·have hm:(nz cs cs.length).getD i 0∈srt cs:=(Qg0 cs).symm.subset (getD_in i (by rw[<-Qca];exact hi))
  obtain⟨j,hj,e⟩:=Qeg hm
  have h2:=Qdh cs j hj
  exact⟨j,hj,Qwl cs cs.length (by rw[<-Qca];exact h2.1) (by rw[<-Qca];exact hi) (by rw[h2.2,e])⟩
 ·have hi:i<(srt cs).length:=by omega
  have h1:=Qdh cs i hi
  have h2:=Qdh cs j hj
  rw[hw i hi,hw j hj]
  have ho:=Qpb cs
  rw[List.pairwise_iff_getElem] at ho
  have ei:(srt cs).getD i 0=(srt cs)[i]:=by simp[List.getD,List.getElem?_eq_getElem hi]
  have ej:(srt cs).getD j 0=(srt cs)[j]:=by simp[List.getD,List.getElem?_eq_getElem hj]
  have hx:=ho i j hi hj hij
  rw[<-ei,<-ej] at hx
  rcases hx with hx | hx
  ·exact Or.inl hx
  ·exact Or.inr ⟨hx.1,Xis cs cs.length (by rw[<-Qca];exact h1.1) (by rw[<-Qca];exact h2.1) (by rw[h1.2,h2.2];exact hx.2)⟩
theorem RD.run(cs:List Int)(hc:∀k,0<=cs.getD k 0∧cs.getD k 0<=1073741824):∀t,t+1<=(srt cs).length->RD (srt cs).length (plcD cs) t (Qae (Qcb cs (srt cs)) t) (Qcz cs t):=by
 have h0:∀i,0<=(Qcb cs (srt cs)).getD i 0:=fun i=>(Qdi cs hc (srt cs) i).1
 have hg:∀i,i<(srt cs).length->(Qcb cs (srt cs)).getD i 0=key cs ((srt cs).getD i 0):=fun i hi=>Qgr cs (srt cs) i hi
 have hs:∀i j,i<=j->j<(Qcb cs (srt cs)).length->(Qcb cs (srt cs)).getD i 0<=(Qcb cs (srt cs)).getD j 0:=fun i j a b=>by
  rw[Qat] at b
  rw[hg i (by omega),hg j b];exact Xc9 cs a b
 intro t
 induction t with
 | zero=>
   intro ht
   have e1:(Qae (Qcb cs (srt cs)) 0).l=0:=rfl
   have e2:(Qae (Qcb cs (srt cs)) 0).p=(srt cs).length:=Qat cs
   have eW:(Qcz cs 0).W=(nz cs cs.length).map (key cs):=rfl
   have eI:(Qcz cs 0).I=List.replicate (nz cs cs.length).length (-1):=rfl
   have hsl:=Qca cs
   refine⟨by rw[eW,List.length_map];omega,by rw[eI,List.length_replicate];omega,fun i hi=>?_,fun i hi=>?_,fun i hi=>by omega,fun i hi=>by omega⟩
   ·have h1:=Qdh cs i (by omega)
    have h2:wt (Qae (Qcb cs (srt cs)) 0).N i=(Qcb cs (srt cs)).getD i 0:=Qdx _ i
    rw[h2,hg i (by omega),<-h1.2,eW]
    have hl:plcD cs i<(nz cs cs.length).length:=by omega
    simp[List.getD,List.getElem?_eq_getElem hl]
   ·have h1:=Qdh cs i (by omega)
    rw[eI]
    have hl:plcD cs i<(nz cs cs.length).length:=by omega
    simp[List.getD,hl]
 | succ t ih=>
   intro ht
   have hI:=TI.run (Qcb cs (srt cs)) h0 t (by rw[Qat];omega)
   have hP:=PS.run (Qcb cs (srt cs)) h0 hs t (by rw[Qat];omega)
   rw[Qat] at hI hP
   have hf:=Xa8 cs (Qae (Qcb cs (srt cs)) t).N (fun i hi=>by rw[Ql3 _ h0 t (by rw[Qat];omega) i (by rw[Qat];exact hi),hg i hi])
   have e:Qae (Qcb cs (srt cs)) (t+1)=Qcc (srt cs).length (Qae (Qcb cs (srt cs)) t):=by
    rw[<-Qat cs];rfl
   rw[e]
   exact RD.step hI hP hf (ih (by omega)) ht
end Hf
end
section
namespace Hf
def chn(I:List Int):Nat->Int->Int
 | 0,_=>0
 | f+1,k=>if 0<=k then chn I f (I.getD k.toNat 0)+1 else 0
def Qcx(cs:List Int):DS:=Qcz cs ((srt cs).length-1)
def Qfq(cs:List Int):List Int:=(List.range (srt cs).length).map (fun i=>max (chn (Qcx cs).I (2*(srt cs).length) ((Qcx cs).I.getD i 0)) 1)
def Xei(cs:List Int):List Int:=Qfg cs.length (nz cs cs.length) (Qfq cs) (srt cs).length
theorem Qqx(cs:List Int)(hc:∀k,0<=cs.getD k 0∧cs.getD k 0<=1073741824)(hm:1<=(srt cs).length):RD (srt cs).length (plcD cs) ((srt cs).length-1) (Qae (Qcb cs (srt cs)) ((srt cs).length-1)) (Qcx cs):=RD.run cs hc _ (by omega)
theorem Xlg(cs:List Int)(hc:∀k,0<=cs.getD k 0∧cs.getD k 0<=1073741824)(hm:2<=(srt cs).length):∀(f j:Nat),j<2*(srt cs).length-1->2*(srt cs).length-1<=f+j->chn (Qcx cs).I f ((Qcx cs).I.getD (plcD cs j) 0)=dv (Qei cs) j:=by
 obtain⟨hu,hl⟩:=Qgx cs hc hm
 have hR:=Qqx cs hc (by omega)
 have hI:=TI.run (Qcb cs (srt cs)) (fun i=>(Qdi cs hc (srt cs) i).1) ((srt cs).length-1) (by rw[Qat];omega)
 rw[Qat] at hI
 have k1:=hI.ln
 have k2:=hI.np
 have k3:=hI.pl
 have k4:=hI.cnt
 have k5:=hI.last (by omega)
 intro f
 induction f with
 | zero=>intro j h1 h2;omega
 | succ f ih=>
   intro j h1 h2
   by_cases c:j+1<2*(srt cs).length-1
   ·have ht:j<(Qae (Qcb cs (srt cs)) ((srt cs).length-1)).l∨((srt cs).length<=j∧j<(Qae (Qcb cs (srt cs)) ((srt cs).length-1)).p):=by omega
    have e1:=hR.taken j ht
    have e2:=hR.par j ht
    have e3:=hu j (by omega)
    have e4:inn (Qae (Qcb cs (srt cs)) ((srt cs).length-1)).N j=inn (Qei cs) j:=rfl
    rw[e4] at e1 e2
    rw[e1,chn,if_pos (by omega),Qjb hu j (by omega)]
    have e5:plcD cs (inn (Qei cs) j).toNat=(inn (Qei cs) j).toNat:=by unfold plcD;rw[dif_neg (by omega)]
    have:=ih (inn (Qei cs) j).toNat (by omega) (by omega)
    rw[e5] at this
    rw[this]
   ·have e1:=hR.free j (by omega)
    rw[e1,chn,if_neg (by omega),Qld _ _ (by omega)]
theorem Xk1(cs:List Int)(j:Nat)(hj:j<(srt cs).length):((nz cs cs.length).getD j 0).toNat<cs.length:=by
 have h:=Qjt cs cs.length _ (getD_in (l:=nz cs cs.length) j (by rw[<-Qca];exact hj))
 omega
theorem Xk3(cs:List Int)(hc:∀k,0<=cs.getD k 0∧cs.getD k 0<=1073741824):Xei cs=Qaf cs:=by
 have hsl:=Qca cs
 refine Qnl (by unfold Xei;rw[Qb3,Qdd]) (fun u hu=>?_)
 have hul:u<cs.length:=by unfold Xei at hu;rwa[Qb3] at hu
 by_cases h:0<cs.getD u 0
 ·obtain⟨j,hj,e⟩:=Qpg cs u hul h
  have hp:=Qdh cs j hj
  have e2:((nz cs cs.length).getD (plcD cs j) 0).toNat=u:=by rw[hp.2];exact e
  have hB:(Qfq cs).getD (plcD cs j) 0=max (chn (Qcx cs).I (2*(srt cs).length) ((Qcx cs).I.getD (plcD cs j) 0)) 1:=by
   unfold Qfq;simp[List.getD,hp.1]
  have hat:=Qud cs.length (nz cs cs.length) (Qfq cs) (plcD cs j) (srt cs).length (Xk1 cs) (fun i hi e3=>by
   have h1:=Qjt cs cs.length _ (getD_in (l:=nz cs cs.length) i (by omega))
   have h2:=Qjt cs cs.length _ (getD_in (l:=nz cs cs.length) (plcD cs j) (by omega))
   exact Qwl cs cs.length (by omega) (by omega) (by omega)) hp.1
  rw[e2,hB] at hat
  unfold Xei
  rw[hat]
  by_cases hm:(srt cs).length=1
  ·have hj0:j=0:=by omega
   subst hj0
   have hR:=Qqx cs hc (by omega)
   have e1:(Qae (Qcb cs (srt cs)) ((srt cs).length-1)).l=0:=by rw[hm];rfl
   have e3:=hR.free 0 (by rw[e1];omega)
   have e4:chn (Qcx cs).I (2*1) (-1)=0:=by rw[show 2*1=1+1 from rfl,chn,if_neg (by omega)]
   rw[e3,hm,<-e,Qpi cs hm,e4]
   rfl
  ·rw[Xlg cs hc (by omega) _ j (by omega) (by omega),<-e,Qsf cs hc (by omega) j hj]
   have:=Qzf cs hc (by omega) j hj
   omega
 ·have h1:=Qfr cs hc u hul
  unfold Xei
  rw[Qkn cs.length (nz cs cs.length) (Qfq cs) u (srt cs).length (Xk1 cs) (fun j hj e=>by
   have h2:=Qjt cs cs.length _ (getD_in (l:=nz cs cs.length) j (by omega))
   rw[e] at h2
   omega)]
  omega
end Hf
end
section
namespace Hf
abbrev Nd:=Int×Int×Int
def flat3(T:List Nd):List Int:=T.flatMap (fun x=> [x.1,x.2.1,x.2.2])
theorem Qb1(T:List Nd):(flat3 T).length=T.length*3:=by
 unfold flat3
 induction T with
 | nil=>rfl
 | cons x T ih=>rw[List.flatMap_cons,List.length_append,ih];simp;omega
theorem Qr7(T:List Nd)(x y z:Int):flat3 (T++ [(x,y,z)])=flat3 T++ [x,y,z]:=by
 unfold flat3;simp
theorem Qxn(x:Nd)(T:List Nd):flat3 (x::T)=x.1::x.2.1::x.2.2::flat3 T:=rfl
theorem Xfo(T:List Nd):∀i,(flat3 T).getD (i*3) 0=(T.getD i (0,0,0)).1∧(flat3 T).getD (i*3+1) 0=(T.getD i (0,0,0)).2.1∧(flat3 T).getD (i*3+2) 0=(T.getD i (0,0,0)).2.2:=by
 induction T with
 | nil=>intro i;simp[flat3]
 | cons x T ih=>
   intro i
   rw[Qxn]
   cases i with
   | zero=>simp
   | succ i=>
     have:=ih i
     rw[show(i+1)*3=i*3+1+1+1 from by omega,show i*3+1+1+1+1=(i*3+1)+1+1+1 from by omega,show i*3+1+1+1+2=(i*3+2)+1+1+1 from by omega]
     simpa using this
def tri(W I S:List Int):List Nd:=(List.range W.length).map (fun i=>(W.getD i 0,I.getD i 0,S.getD i 0))
theorem Qck(W I S:List Int):(tri W I S).length=W.length:=by simp[tri]
theorem Xfk(W I S:List Int)(i:Nat)(h:i<W.length):(tri W I S).getD i (0,0,0)=(W.getD i 0,I.getD i 0,S.getD i 0):=by
 simp[tri,List.getD,h]
theorem Qgd(W I S:List Int)(i:Nat)(h:i<W.length):(flat3 (tri W I S)).getD (i*3) 0=W.getD i 0∧(flat3 (tri W I S)).getD (i*3+1) 0=I.getD i 0∧(flat3 (tri W I S)).getD (i*3+2) 0=S.getD i 0:=by
 have:=Xfo (tri W I S) i
 rw[Xfk W I S i h] at this
 exact this
theorem Xbd(W I S:List Int)(hI:I.length=W.length)(i:Nat)(v:Int)(h:i<W.length):(flat3 (tri W I S)).set (i*3+1) v=flat3 (tri W (I.set i v) S):=by
 refine Qnl (by rw[List.length_set,Qb1,Qb1,Qck,Qck]) (fun q hq=>?_)
 rw[List.length_set,Qb1,Qck] at hq
 rw[Qb9 _ _ _ _ (by rw[Qb1,Qck];omega)]
 obtain⟨j,r,hj,hr,hjl⟩:∃j r,q=j*3+r∧r<3∧j<W.length:=⟨q/3,q%3,by omega,by omega,by omega⟩
 subst hj
 have h1:=Qgd W I S j hjl
 have h2:=Qgd W (I.set i v) S j hjl
 rw[Qb9 _ _ _ _ (by omega)] at h2
 match r,hr with
 | 0,_=>rw[if_neg (by omega),Nat.add_zero,h1.1,h2.1]
 | 1,_=>
   rw[h1.2.1,h2.2.1]
   by_cases e:j=i
   ·rw[if_pos (by omega),if_pos e]
   ·rw[if_neg (by omega),if_neg e]
 | 2,_=>rw[if_neg (by omega),h1.2.2,h2.2.2]
theorem Xjg(W I S:List Int)(hI:I.length=W.length)(hS:S.length=W.length)(x y z:Int):tri (W++ [x]) (I++ [y]) (S++ [z])=tri W I S++ [(x,y,z)]:=by
 unfold tri
 rw[List.length_append,List.length_singleton,List.range_succ,List.map_append,List.map_singleton,Qfm W x _ rfl,Qfm I y _ hI.symm,Qfm S z _ hS.symm]
 congr 1
 refine List.map_congr_left (fun i hi=>?_)
 rw[List.mem_range] at hi
 rw[Qfx W x i hi,Qfx I y i (by omega),Qfx S z i (by omega)]
def Qfz(cs:List Int)(t:Nat):List Int:=nz cs cs.length++List.replicate t (-1)
theorem Qus(cs:List Int)(t:Nat):(Qfz cs t).length=(srt cs).length+t:=by rw[Qfz,List.length_append,List.length_replicate,Qca]
theorem Xad(cs:List Int)(t:Nat):Qfz cs (t+1)=Qfz cs t++ [-1]:=by rw[Qfz,Qfz,List.replicate_succ',List.append_assoc]
theorem Qzh(cs:List Int)(t i:Nat)(h:i<(srt cs).length):(Qfz cs t).getD i 0=(nz cs cs.length).getD i 0:=by
 rw[Qfz]
 simp[List.getD,List.getElem?_append_left (show i<(nz cs cs.length).length by rw[<-Qca];exact h)]
theorem Qyy(cs:List Int)(t i:Nat)(h:(srt cs).length<=i)(h2:i<(srt cs).length+t):(Qfz cs t).getD i 0= -1:=by
 rw[Qfz]
 have hl:=Qca cs
 rw[List.getD,List.getElem?_append_right (by omega)]
 rw[List.getElem?_replicate,if_pos (by omega)];rfl
def lvs(cs:List Int):Nat->List Nd
 | 0=> []
 | k+1=>if cs.getD k 0=0 then lvs cs k else lvs cs k++ [(cs.getD k 0, -1,(k:Int))]
theorem Xb9(cs:List Int):∀k,(lvs cs k).length<=k
 | 0=>Nat.le_refl _
 | k+1=>by
   have:=Xb9 cs k
   rw[lvs];split
   ·omega
   ·rw[List.length_append];simp;omega
theorem Xhs(cs:List Int)(hc:∀k,0<=cs.getD k 0∧cs.getD k 0<=1073741824):∀k,lvs cs k=(nz cs k).map (fun u=>(key cs u, -1,u))
 | 0=>rfl
 | k+1=>by
   have h:=hc k
   rw[lvs,nz,Xhs cs hc k]
   by_cases e:cs.getD k 0=0
   ·rw[if_pos e,if_neg (by omega)]
   ·rw[if_neg e,if_pos (by omega),List.map_append]
    simp[key]
theorem Xit(cs:List Int)(hc:∀k,0<=cs.getD k 0∧cs.getD k 0<=1073741824):lvs cs cs.length=tri (Qcz cs 0).W (Qcz cs 0).I (Qfz cs 0):=by
 rw[Xhs cs hc]
 have eW:(Qcz cs 0).W=(nz cs cs.length).map (key cs):=rfl
 have eI:(Qcz cs 0).I=List.replicate (nz cs cs.length).length (-1):=rfl
 have eS:Qfz cs 0=nz cs cs.length:=by simp[Qfz]
 rw[eW,eI,eS]
 refine List.ext_getElem (by simp[tri]) (fun i h1 h2=>?_)
 have hi:i<(nz cs cs.length).length:=by simpa using h1
 simp[tri,List.getD,hi]
theorem Qir(cs:List Int)(hc:∀k,0<=cs.getD k 0∧cs.getD k 0<=1073741824)(t:Nat)(ht:t+1<=(srt cs).length):
 ∃C,TI (srt cs).length C t (Qae (Qcb cs (srt cs)) t)∧PS (srt cs).length t (Qae (Qcb cs (srt cs)) t)∧Pi (srt cs).length (Qae (Qcb cs (srt cs)) t).N (plcD cs):=by
 have h0:∀i,0<=(Qcb cs (srt cs)).getD i 0:=fun i=>(Qdi cs hc (srt cs) i).1
 have hg:∀i,i<(srt cs).length->(Qcb cs (srt cs)).getD i 0=key cs ((srt cs).getD i 0):=fun i hi=>Qgr cs (srt cs) i hi
 have hI:=TI.run (Qcb cs (srt cs)) h0 t (by rw[Qat];omega)
 have hP:=PS.run (Qcb cs (srt cs)) h0 (fun i j a b=>by
  rw[Qat] at b
  rw[hg i (by omega),hg j b];exact Xc9 cs a b) t (by rw[Qat];omega)
 rw[Qat] at hI hP
 exact⟨_,hI,hP,Xa8 cs _ (fun i hi=>by rw[Ql3 _ h0 t (by rw[Qat];omega) i (by rw[Qat];exact hi),hg i hi])⟩
theorem Xe2(cs:List Int)(hc:∀k,0<=cs.getD k 0∧cs.getD k 0<=1073741824)(t:Nat)(ht:t+2<=(srt cs).length):
 ∃x y:Nat,Qmx (Qcz cs t) (-1)=(x:Int)∧Qmx (Qcz cs t) (x:Int)=(y:Int)∧x<(srt cs).length+t∧y<(srt cs).length+t∧x≠y:=by
 obtain⟨C,hI,hP,hf⟩:=Qir cs hc t (by omega)
 have hR:=RD.run cs hc t (by omega)
 obtain⟨p1,p2⟩:=RD.pick hI hP hf hR ht
 obtain⟨_,a1,b1,hne,_⟩:=hI.step ht
 have hl:=hI.len
 exact⟨_,_,p1,p2,hf.lt (by omega),hf.lt (by omega),fun e=>hne (hf.inj' e)⟩
theorem Xer(cs:List Int)(hc:∀k,0<=cs.getD k 0∧cs.getD k 0<=1073741824)(hm:2<=(srt cs).length):
 ∃x:Nat,Qmx (Qcz cs ((srt cs).length-1)) (-1)=(x:Int)∧Qmx (Qcz cs ((srt cs).length-1)) (x:Int)= -1:=by
 obtain⟨C,hI,hP,hf⟩:=Qir cs hc ((srt cs).length-1) (by omega)
 have hR:=RD.run cs hc ((srt cs).length-1) (by omega)
 have k1:=hI.ln
 have k2:=hI.np
 have k3:=hI.pl
 have k4:=hI.cnt
 have k5:=hI.last (by omega)
 have hall:∀y,y<(srt cs).length+((srt cs).length-1)->y≠2*(srt cs).length-2->¬(Qcz cs ((srt cs).length-1)).I.getD y 0<0:=fun y hy hne=>by
  obtain⟨j,e,h1,h2⟩:=hf.sur' y
  have hj:j<2*(srt cs).length-2:=by
   by_cases c:y<(srt cs).length
   ·have:=h1 c;omega
   ·have:=h2 (by omega);omega
  have ht:j<(Qae (Qcb cs (srt cs)) ((srt cs).length-1)).l∨((srt cs).length<=j∧j<(Qae (Qcb cs (srt cs)) ((srt cs).length-1)).p):=by omega
  have e1:=hR.taken j ht
  have e2:=hR.par j ht
  rw[e] at e1
  omega
 have hroot:=hR.free (2*(srt cs).length-2) (by omega)
 rw[hf.high _ (by omega)] at hroot
 refine⟨2*(srt cs).length-2,?_,?_⟩
 ·unfold Qmx
  rw[hR.lw]
  exact(Qij (x:=2*(srt cs).length-2) (by omega) (by rw[hroot];omega) _ (fun y hy _ hi hne=>absurd hi (hall y hy hne))).2 (by omega)
 ·unfold Qmx
  rw[hR.lw]
  refine Qrq _ (fun y hy=>?_)
  by_cases c:y=2*(srt cs).length-2
  ·left;rw[c]
  ·right;exact hall y hy c
theorem Qvn(cs:List Int)(hc:∀k,0<=cs.getD k 0∧cs.getD k 0<=1073741824)(hm:(srt cs).length<=512):∀t,t+1<=(srt cs).length->∀j,j<(srt cs).length+t->wt (Qae (Qcb cs (srt cs)) t).N j<=1073741824*1024
 | 0,_,j,hj=>by
   rw[show Qae (Qcb cs (srt cs)) 0=Qbk (Qcb cs (srt cs)) from rfl,Qdx]
   have:=Qdi cs hc (srt cs) j
   omega
 | t+1,ht,j,hj=>by
   have h0:∀i,0<=(Qcb cs (srt cs)).getD i 0:=fun i=>(Qdi cs hc (srt cs) i).1
   have hI:=TI.run (Qcb cs (srt cs)) h0 t (by rw[Qat];omega)
   have hC:Qfs (Qcb cs (srt cs)).length (Qbk (Qcb cs (srt cs))).N 0 (Qcb cs (srt cs)).length<=1073741824*1024:=by
    unfold Qfs
    have e1:(Qbk (Qcb cs (srt cs))).N.length=(Qcb cs (srt cs)).length:=by simp[Qbk]
    rw[e1,Nat.sub_zero,Nat.sub_self,Qiw]
    have:=Qjg (Qbk (Qcb cs (srt cs))).N 1073741824 (Qcb cs (srt cs)).length 0 (fun j _ b=>by rw[Qdx];exact(Qdi cs hc (srt cs) j).2)
    rw[Qat] at this|-
    omega
   have hs:=hI.step (by rw[Qat];omega)
   have hsi:=Qf3 hI (by rw[Qat];omega)
   have e:Qae (Qcb cs (srt cs)) (t+1)=Qcc (Qcb cs (srt cs)).length (Qae (Qcb cs (srt cs)) t):=rfl
   have hl:=hI.len
   rw[Qat] at hl
   rw[e]
   by_cases c:j<(srt cs).length+t
   ·rw[hsi.2.2.2.1 j (by omega)]
    exact Qvn cs hc hm t (by omega) j c
   ·have hje:j=(Qae (Qcb cs (srt cs)) t).N.length:=by omega
    rw[hje,hsi.2.2.2.2]
    have:=hs.2.2.2.2
    omega
theorem Xc4(cs:List Int)(hc:∀k,0<=cs.getD k 0∧cs.getD k 0<=1073741824)(t:Nat)(ht:t+1<=(srt cs).length)(hm:(srt cs).length<=512)(i:Nat):0<=(Qcz cs t).W.getD i 0∧(Qcz cs t).W.getD i 0<=1073741824*1024:=by
 have hR:=RD.run cs hc t ht
 obtain⟨C0,hI0,_,hf⟩:=Qir cs hc t ht
 have h0:∀i,0<=(Qcb cs (srt cs)).getD i 0:=fun i=>(Qdi cs hc (srt cs) i).1
 by_cases hi:i<(srt cs).length+t
 ·obtain⟨j,e,h1,h2⟩:=hf.sur' i
  have hj:j<(srt cs).length+t:=by
   by_cases c:i<(srt cs).length
   ·have:=h1 c;omega
   ·have:=h2 (by omega);omega
  rw[<-e,hR.w j hj]
  refine⟨hI0.pos j,?_⟩
  exact Qvn cs hc hm t ht j hj
 ·have:(Qcz cs t).W.getD i 0=0:=by simp[List.getD,List.getElem?_eq_none (show(Qcz cs t).W.length<=i by rw[hR.lw];omega)]
  omega
end Hf
end
section
open Go.RowKit Hf
theorem Qoh{P:Program}(w:World)(base:Nat)(t ty e:TypeId)(i:TypeInfo)(z:Value)(size bytes:Nat)(ht:P.underlying t=some (.slice e))(hi:P.info? e=some i)(hz:i.zero=some z)
 (hsize:i.size=size) (hby:i.bytes=bytes) (hzs:z.cells.size=size) (hsz:0<size)
 (g n cap:Nat) (xs:List Value) (hown:w.ownsRow base e size (.slice (some ⟨g,0,none⟩) n cap) n xs)
 (a:Addr) (m c:Nat) (news:List Value) (hl:news.length=m*size) (hnews:∀j u,news[j]?=some u->w.cell? (a.add j)=some u) (h1:∀u∈news,u.oneCell'=true)
 (h63:n+m<=maxLen) (hbytes:(n+m)*bytes<=140737488355328) (hbase:base<=w.heap.size) :
 ∃v' w',(Builtin.append_ #[t,t] ty #[.slice (some ⟨g,0,none⟩) n cap,.slice (some a) m c]).run P w= .ok v' w'∧w'.ownsRow base e size v' (n+m) (xs++news)∧w.grownBy w' (some g) ∧
  ∀j u,xs[j]?=some u->w'.cell? ⟨g,j,none⟩=some u:=by
 obtain⟨v',w',hr,h2,h3,_⟩:=run_append_own (P:=P) w base t ty e i z size bytes ht hi hz hsize hby hzs hsz _ n xs hown a m c news hl hnews h1 h63 hbytes hbase
 refine⟨v',w',hr,h2,h3,fun j u hj=>?_⟩
 have hold:=hown.cells (g:=g) rfl j u hj
 have hadd:∀k,(⟨g,0,none⟩:Addr).add k=⟨g,k,none⟩:=fun k=>by rw[Go.WideShapes.add_plain,Nat.zero_add]
 rw[hadd] at hold
 by_cases hroom:n+m<=cap
 ·obtain⟨w2,hr2,h4,_⟩:=run_append_fits (P:=P) w base t ty e i size ht hi hsize g n cap xs hown a m c news hl hnews h1 hroom
  rw[hr] at hr2
  injection hr2 with e1 e2
  subst e1 e2
  have hlt:=(List.getElem?_eq_some_iff.1 hj).1
  have:=h4.cells (g:=g) rfl j u (by rw[List.getElem?_append_left hlt];exact hj)
  rwa[hadd] at this
 ·subst hsize
  subst hby
  have hmx:n+m<=9223372036854775807:=by simp only[maxLen] at h63;omega
  have hr2:=run_append_grow (P:=P) w t ty e i z ht hi hz ⟨g,0,none⟩ n cap xs hown.1 (hown.cells (g:=g) rfl) a m c news hl hnews (by omega) (by omega) (growslice_fits (by omega) hbytes)
  rw[hr] at hr2
  injection hr2 with e1 e2
  subst e1 e2
  have hg0:w.grownBy (w.drew.alloc (.cells (xs.toArray++news.toArray++Builtin.zeroCells z.cells (grownCap w (n+m) cap e-(n+m))) e)) none:=⟨rfl,rfl,rfl,by simp,fun k hk _=>(Qab w.drew _).block k hk⟩
  exact hg0.cell hold (by simp)
theorem Tryz.info201:(Tryz.prog.info? 201).map (fun i=>(i.zero,i.size,i.bytes))=some (some (.agg #[.int .i64 0,.int .i64 0,.int .i64 0]),3,24):=by kernel_rfl
theorem Xip(w w0:World){o:Oper}{ac:Act}{K:Act->World->Prop}{Q:Exit->Act->World->Prop}(s x:Operand)
 (ho:o.op= .call {callee:= .builtin .append,args:= #[s,x],argTypes:= #[199,199]}) (B g n cap:Nat) (X:List Int) (a b c:Int) (hs:ac.eval s= .slice (some ⟨g,0,none⟩) n cap) (hown:w0.ownsRow B 201 3 (.slice (some ⟨g,0,none⟩) n cap) n (X.map (Value.int .i64)))
 (hw:w=w0.alloc (.cells #[.int .i64 a,.int .i64 b,.int .i64 c] 201)) (hx:ac.eval x= .slice (some ⟨w0.heap.size,0,none⟩) 1 1) (hbd:n+1<=100000) (hB:B<=w0.heap.size)
 (h:∀v' w',w'.ownsRow B 201 3 v' (n+1) ((X++ [a,b,c]).map (Value.int .i64))->w.grownBy w' (some g)->(∀j,j<X.length->w'.cell? ⟨g,j,none⟩=some (.int .i64 (X.getD j 0)))->K (ac.put o.dst v') w'):o.wp Tryz.prog ac w K Q:=by
 obtain⟨i0,hi,hz0,hz1,hz2⟩:=info_parts Tryz.info201
 subst hw
 obtain⟨v',w',hr,h2,h3,h4⟩:=Qoh (P:=Tryz.prog) (w0.alloc (.cells #[.int .i64 a,.int .i64 b,.int .i64 c] 201)) B 199 o.type 201 i0 _ 3 24 Tryz.underlying199 hi hz0 hz1 hz2 rfl (by decide) g n cap _ (hown.alloc _) ⟨w0.heap.size,0,none⟩ 1 1 [.int .i64 a,.int .i64 b,.int .i64 c] rfl (by
  intro j u hj
  match j,hj with
  | 0,hj=>simp at hj;subst hj;simp[Addr.add]
  | 1,hj=>simp at hj;subst hj;simp[Addr.add]
  | 2,hj=>simp at hj;subst hj;simp[Addr.add]) (by
  intro u hu
  simp at hu
  rcases hu with rfl | rfl | rfl<;>rfl) (by unfold maxLen;omega) (by omega) (by simp;omega)
 unfold Oper.wp execOp
 simp only[ho,resolve,invoke,builtin,Sem.run_bind,Sem.run_pure,Result.andThen_ok,List.map_toArray,List.map_cons,List.map_nil,hs,hx,hr]
 refine h v' w' (by rw[List.map_append];exact h2) h3 (fun j hj=>h4 j _ ?_)
 rw[List.getElem?_map]
 simp[List.getD,List.getElem?_eq_getElem hj]
end
section
namespace Hf
theorem Xkh(cs:List Int)(hc:∀k,0<=cs.getD k 0∧cs.getD k 0<=1073741824)(q:Nat)(hq:q<(srt cs).length+((srt cs).length-1)):
 (Qcx cs).I.getD q 0= -1∨((q:Int)<(Qcx cs).I.getD q 0∧(Qcx cs).I.getD q 0<(((srt cs).length+((srt cs).length-1):Nat):Int)):=by
 have hR:=Qqx cs hc (by omega)
 obtain⟨C,hI,_,hf⟩:=Qir cs hc ((srt cs).length-1) (by omega)
 obtain⟨j,e,h1,h2⟩:=hf.sur' q
 have hj:j<(srt cs).length+((srt cs).length-1):=by
  by_cases c:q<(srt cs).length
  ·have:=h1 c;omega
  ·have:=h2 (by omega);omega
 by_cases c:j<(Qae (Qcb cs (srt cs)) ((srt cs).length-1)).l∨((srt cs).length<=j∧j<(Qae (Qcb cs (srt cs)) ((srt cs).length-1)).p)
 ·have e1:=hR.taken j c
  have e2:=hR.par j c
  have e3:=hI.par j c
  rw[e] at e1
  right
  by_cases c2:q<(srt cs).length
  ·omega
  ·have:=h2 (by omega);omega
 ·have e1:=hR.free j (by omega)
  rw[e] at e1
  exact Or.inl e1
theorem Qyt(I:List Int)(f:Nat)(q:Int)(h:q<0):chn I f q=0:=by
 cases f with
 | zero=>rfl
 | succ f=>rw[chn,if_neg (by omega)]
theorem Qzy(cs:List Int)(p:Nat)(hp:p<(srt cs).length):(Qfq cs).getD p 0=max (chn (Qcx cs).I (2*(srt cs).length) ((Qcx cs).I.getD p 0)) 1:=by
 unfold Qfq;simp[List.getD,hp]
theorem Xi0(cs:List Int)(hc:∀k,0<=cs.getD k 0∧cs.getD k 0<=1073741824):(Qcx cs).W.length=(srt cs).length+((srt cs).length-1)∧(Qcx cs).I.length=(srt cs).length+((srt cs).length-1):=by
 by_cases h:1<=(srt cs).length
 ·exact⟨(Qqx cs hc h).lw,(Qqx cs hc h).li⟩
 ·have h0:(srt cs).length=0:=by omega
  have hl:=Qca cs
  have eW:(Qcz cs 0).W=(nz cs cs.length).map (key cs):=rfl
  have eI:(Qcz cs 0).I=List.replicate (nz cs cs.length).length (-1):=rfl
  unfold Qcx
  rw[h0]
  exact⟨by rw[show(0:Nat)-1=0 from rfl,eW,List.length_map];omega,by rw[show(0:Nat)-1=0 from rfl,eI,List.length_replicate];omega⟩
end Hf
end
end Go.Proofs.YtibjlbcnapoblaaGreatDoor
