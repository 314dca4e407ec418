/- Contracts and facts. -/
import Derived.Test.YtibjlbcnapoblaaGreatDoorPart01
namespace Go.Proofs.YtibjlbcnapoblaaGreatDoor
set_option maxRecDepth 100000
set_option maxHeartbeats 6400000
section
namespace Hf
def nB(bs:List Bool):Nat->Nat
 | 0=>0
 | k+1=>nB bs k*2+(if bs.getD k false then 1 else 0)
def Qta(c n i:Nat):Bool:=c/2^(n-1-i)%2==1
def Qct(c n:Nat):List Bool:=(List.range n).map (Qta c n)
theorem Qbi(c n:Nat):(Qct c n).length=n:=by simp[Qct]
theorem Qyd(c n i:Nat)(h:i<n):(Qct c n).getD i false=Qta c n i:=by simp[Qct,List.getD,h]
def Qjt(c n j:Nat):List Bool:=(List.range n).map (fun i=>if n-j<=i then Qta c n i else false)
theorem Qd6(c n j:Nat):(Qjt c n j).length=n:=by simp[Qjt]
theorem Qha(c n j i:Nat)(h:i<n):(Qjt c n j).getD i false=if n-j<=i then Qta c n i else false:=by simp[Qjt,List.getD,h]
theorem Qzl{l m:List Bool}(h:l.length=m.length)(he:∀i,i<l.length->l.getD i false=m.getD i false):l=m:=by
 refine List.ext_getElem h (fun i h1 h2=>?_)
 have:=he i h1
 simpa [List.getD,List.getElem?_eq_getElem h1,List.getElem?_eq_getElem h2] using this
theorem Xa0(l:List Bool)(i j:Nat)(v:Bool)(h:i<l.length):(l.set i v).getD j false=if j=i then v else l.getD j false:=by
 simp only[List.getD,List.getElem?_set]
 by_cases e:i=j
 ·subst e;simp[h]
 ·rw[if_neg e,if_neg (fun x=>e x.symm)]
theorem Qxc(c n:Nat):Qjt c n 0=List.replicate n false:=by
 refine Qzl (by simp[Qjt]) (fun i hi=>?_)
 rw[Qd6] at hi
 rw[Qha _ _ _ _ hi,if_neg (by omega)]
 simp[List.getD,hi]
theorem Qxq(c n:Nat):Qjt c n n=Qct c n:=by
 refine Qzl (by simp[Qjt,Qct]) (fun i hi=>?_)
 rw[Qd6] at hi
 rw[Qha _ _ _ _ hi,Qyd _ _ _ hi,if_pos (by omega)]
theorem Xbj(c n j:Nat)(hj:j<n):(Qjt c n j).set (n-1-j) (c/2^j%2==1)=Qjt c n (j+1):=by
 refine Qzl (by simp[Qjt]) (fun i hi=>?_)
 rw[List.length_set,Qd6] at hi
 rw[Xa0 _ _ _ _ (by rw[Qd6];omega),Qha _ _ _ _ hi,Qha _ _ _ _ hi]
 by_cases e:i=n-1-j
 ·rw[if_pos e,if_pos (by omega)]
  unfold Qta
  rw[show n-1-i=j from by omega]
 ·rw[if_neg e]
  by_cases h:n-j<=i
  ·rw[if_pos h,if_pos (by omega)]
  ·rw[if_neg h,if_neg (by omega)]
theorem Xje(xs ys:List Bool)(j:Nat)(hj:j<=xs.length):nB (xs++ys) j=nB xs j:=by
 induction j with
 | zero=>rfl
 | succ j ih=>
   rw[nB,nB,ih (by omega)]
   have e:(xs++ys).getD j false=xs.getD j false:=by simp[List.getD,List.getElem?_append_left (show j<xs.length from by omega)]
   rw[e]
theorem Xa7(xs ys:List Bool)(j:Nat):nB (xs++ys) (xs.length+j)=nB xs xs.length*2^j+nB ys j:=by
 induction j with
 | zero=>simp[nB,Xje xs ys xs.length (Nat.le_refl _)]
 | succ j ih=>
   rw[<-Nat.add_assoc,nB,ih]
   have e:(xs++ys).getD (xs.length+j) false=ys.getD j false:=by simp[List.getD,List.getElem?_append_right (show xs.length<=xs.length+j from by omega)]
   rw[e,nB,Nat.pow_succ,Nat.add_mul,Nat.mul_assoc]
   omega
theorem Xlh(i:Nat):Xfd (i+1)=7-i%8:=by
 unfold Xfd;split<;>omega
theorem Qk0(M i:Nat):Qbw M (i+1)=Qex (M*2^(7-i%8)) (8*(i/8+1)):=by
 unfold Qbw
 rw[Xlh,show i+1+(7-i%8)=8*(i/8+1) from by omega]
theorem Qpk(N i:Nat)(h:i%8≠0):Qbw (N*2) (i+1)=Qbw N i:=by
 rw[Qk0]
 unfold Qbw Xfd
 rw[if_neg h,show i+(8-i%8)=8*(i/8+1) from by omega,Nat.mul_assoc,show 2*2^(7-i%8)=2^(8-i%8) from by rw[show 8-i%8=(7-i%8)+1 from by omega,Nat.pow_succ];omega]
theorem Qys(N q:Nat):Qex (N*256) (8*(q+1))=Qex N (8*q)++ [0]:=by
 refine Qqc (by rw[List.length_append,Qa6,Qa6];simp) (fun j hj=>?_)
 rw[Qa6] at hj
 have hq:8*(q+1)/8=q+1:=by omega
 have hq2:8*q/8=q:=by omega
 rw[hq] at hj
 rw[Qc8 _ _ _ (by omega)]
 by_cases h:j<q
 ·have e:(Qex N (8*q)++ [0]).getD j 0=(Qex N (8*q)).getD j 0:=by
   simp[List.getD,List.getElem?_append_left (show j<(Qex N (8*q)).length from by rw[Qa6];omega)]
  rw[e,Qc8 _ _ _ (by omega)]
  have hd:=Xa6 N 0 8 (8*q-8*(j+1)) (by decide)
  rw[Nat.add_zero,show 8*q-8*(j+1)+8=8*(q+1)-8*(j+1) from by omega] at hd
  rw[show(256:Nat)=2^8 from rfl,hd]
 ·obtain rfl:j=q:=by omega
  have e:(Qex N (8*j)++ [0]).getD j 0=0:=by
   simp[List.getD,Qa6,hq2]
  rw[e,Nat.sub_self,Nat.pow_zero,Nat.div_one,Nat.mul_mod_left]
  rfl
theorem Qo3(N i:Nat)(h:i%8=0):Qbw (N*2) (i+1)=Qbw N i++ [0]:=by
 rw[Qk0,h,Nat.mul_assoc,show 2*2^(7-0)=256 from rfl,Qys]
 unfold Qbw Xfd
 rw[if_pos h,Nat.pow_zero,Nat.mul_one,Nat.add_zero,show 8*(i/8)=i from by omega]
theorem Xac(N k:Nat)(hk:k<8):(N*2+1)*2^(7-k)%256=N*2*2^(7-k)%256+2^(7-k):=by
 match k,hk with
 | 0,_=>omega
 | 1,_=>omega
 | 2,_=>omega
 | 3,_=>omega
 | 4,_=>omega
 | 5,_=>omega
 | 6,_=>omega
 | 7,_=>omega
theorem Xa1(N k e:Nat)(hk:k<8):(N*2+1)*2^(7-k)/2^(e+8)=N*2*2^(7-k)/2^(e+8):=by
 have e2:2^(8-k)=2*2^(7-k):=by rw[show 8-k=(7-k)+1 from by omega,Nat.pow_succ];omega
 have e1:(N*2+1)*2^(7-k)=N*2^(8-k)+2^(7-k):=by rw[Nat.add_mul,e2,Nat.mul_assoc];omega
 have e3:N*2*2^(7-k)=N*2^(8-k)+0:=by rw[e2,Nat.mul_assoc];omega
 rw[e1,e3,show e+8=(e+k)+(8-k) from by omega,Xa6 _ _ _ _ (by rw[e2];have:=Nat.two_pow_pos (7-k);omega),Xa6 _ _ _ _ (Nat.two_pow_pos _)]
theorem Qkr(N i:Nat):Qbw (N*2+1) (i+1)=(Qbw (N*2) (i+1)).set (i/8) ((Qbw (N*2) (i+1)).getD (i/8) 0+((2^(7-i%8):Nat):Int)):=by
 have hq:8*(i/8+1)/8=i/8+1:=by omega
 refine Qqc (by rw[List.length_set,Qbr,Qbr]) (fun j hj=>?_)
 rw[Qbr] at hj
 have hset:∀(l:List Int) (a b:Nat) (v:Int),a<l.length->(l.set a v).getD b 0=if b=a then v else l.getD b 0:=by
  intro l a b v h
  simp only[List.getD,List.getElem?_set]
  by_cases e:a=b
  ·subst e;simp[h]
  ·rw[if_neg e,if_neg (fun x=>e x.symm)]
 rw[hset _ _ _ _ (by rw[Qbr];omega),Qk0,Qk0,Qc8 _ _ _ (by omega),Qc8 _ _ _ (by omega),Qc8 _ _ _ (by omega)]
 by_cases e:j=i/8
 ·rw[if_pos e,e,Nat.sub_self,Nat.pow_zero,Nat.div_one,Nat.div_one,Xac N (i%8) (by omega)]
  simp
 ·rw[if_neg e]
  have hh:=Xa1 N (i%8) (8*(i/8+1)-8*(j+1)-8) (by omega)
  rw[show 8*(i/8+1)-8*(j+1)-8+8=8*(i/8+1)-8*(j+1) from by omega] at hh
  rw[hh]
end Hf
end
/-
 Plain facts on how deep the symbols are, by the nodes that nodes stand in.
-/
section
namespace Hf
def dvF(N:Nodes):Nat->Nat->Int
 | 0,_=>0
 | f+1,i=>if i+1<N.length then dvF N f (inn N i).toNat+1 else 0
def dv(N:Nodes)(i:Nat):Int:=dvF N N.length i
def Ups(N:Nodes):Prop:=∀i,i+1<N.length->(i:Int)<inn N i∧inn N i<(N.length:Int)
theorem Qvu{N:Nodes}(h:Ups N):∀(f g i:Nat),N.length<=f+i+1->N.length<=g+i+1->dvF N f i=dvF N g i
 | 0,0,_,_,_=>rfl
 | 0,g+1,i,h1,_=>by rw[dvF,dvF,if_neg (by omega)]
 | f+1,0,i,_,h2=>by rw[dvF,dvF,if_neg (by omega)]
 | f+1,g+1,i,h1,h2=>by
   rw[dvF,dvF]
   by_cases hi:i+1<N.length
   ·rw[if_pos hi,if_pos hi]
    have hu:=h i hi
    rw[Qvu h f g _ (by omega) (by omega)]
   ·rw[if_neg hi,if_neg hi]
theorem Qjk{N:Nodes}(h:Ups N)(i:Nat)(hi:i+1<N.length):dv N i=dv N (inn N i).toNat+1:=by
 have hu:=h i hi
 unfold dv
 obtain⟨m,hm⟩:∃m,N.length=m+1:=⟨N.length-1,by omega⟩
 conv=>lhs;rw[hm,dvF,if_pos hi]
 rw[Qvu h m N.length _ (by omega) (by omega)]
theorem Qld(N:Nodes)(i:Nat)(hi:¬i+1<N.length):dv N i=0:=by
 unfold dv
 cases hN:N.length with
 | zero=>rfl
 | succ m=>rw[dvF,if_neg (by omega)]
theorem Qyq(N:Nodes):∀(f i:Nat),0<=dvF N f i∧dvF N f i<=(f:Int)
 | 0,_=>by simp[dvF]
 | f+1,i=>by
   rw[dvF]
   have:=Qyq N f (inn N i).toNat
   split<;>omega
theorem Qoe(N:Nodes)(i:Nat):0<=dv N i∧dv N i<=(N.length:Int):=Qyq N _ i
def Qb2(N:Nodes)(j:Nat):List Int:=(List.range N.length).map (fun i=>if j<=i then dv N i else 0)
theorem Qcp(N:Nodes)(j:Nat):(Qb2 N j).length=N.length:=by simp[Qb2]
theorem Qc3(N:Nodes)(j i:Nat)(h:i<N.length):(Qb2 N j).getD i 0=if j<=i then dv N i else 0:=by
 simp[Qb2,List.getD,h]
theorem Qnf{l m:List Int}(h:l.length=m.length)(he:∀i,i<l.length->l.getD i 0=m.getD i 0):l=m:=by
 refine List.ext_getElem h (fun i h1 h2=>?_)
 have:=he i h1
 simpa [List.getD,List.getElem?_eq_getElem h1,List.getElem?_eq_getElem h2] using this
theorem Qp3(N:Nodes)(j:Nat)(hj:N.length<=j+1):Qb2 N j=List.replicate N.length 0:=by
 refine Qnf (by simp[Qb2]) (fun i hi=>?_)
 rw[Qcp] at hi
 rw[Qc3 _ _ _ hi]
 have e:(List.replicate N.length (0:Int)).getD i 0=0:=by simp[List.getD,hi]
 rw[e]
 split
 ·exact Qld N i (by omega)
 ·rfl
theorem Qx3{N:Nodes}(h:Ups N)(j:Nat)(hj:j+1<N.length):(Qb2 N (j+1)).set j (dv N (inn N j).toNat+1)=Qb2 N j:=by
 refine Qnf (by simp[Qb2]) (fun i hi=>?_)
 rw[List.length_set,Qcp] at hi
 rw[Qb7 _ _ _ _ (by rw[Qcp];omega),Qc3 _ _ _ hi,Qc3 _ _ _ hi]
 by_cases e:i=j
 ·subst e;rw[if_pos rfl,if_pos (Nat.le_refl _),Qjk h i hj]
 ·rw[if_neg e]
  by_cases h2:j<=i
  ·rw[if_pos (by omega),if_pos h2]
  ·rw[if_neg (by omega),if_neg h2]
def Qfd(m:Nat)(sy:List Int)(B:List Int):Nat->List Int
 | 0=>List.replicate m 0
 | k+1=>(Qfd m sy B k).set (sy.getD k 0).toNat (B.getD k 0)
theorem Qb4(m:Nat)(sy B:List Int)(k:Nat):(Qfd m sy B k).length=m:=by
 induction k with
 | zero=>simp[Qfd]
 | succ k ih=>rw[Qfd,List.length_set,ih]
def Qae(cs:List Int):List Int:=
 if (srt cs).length=1 then (List.replicate cs.length 0).set ((srt cs).getD 0 0).toNat 1
 else Qfd cs.length (srt cs) (Qb2 (Qad ((srt cs).map (key cs)) ((srt cs).length-1)).N 0) (srt cs).length
theorem Qk8(ws:List Int)(h:∀i,0<=ws.getD i 0)(hn:2<=ws.length):Ups (Qad ws (ws.length-1)).N∧(Qad ws (ws.length-1)).N.length=2*ws.length-1:=by
 have hI:=TI.run ws h (ws.length-1) (by omega)
 have hl:=hI.len
 refine⟨fun i hi=>?_,by omega⟩
 have h1:=hI.ln
 have h2:=hI.np
 have h3:=hI.cnt
 have h4:=hI.last (by omega)
 have:=hI.par i (by omega)
 rw[hl]
 exact this
end Hf
end
/-
 Plain facts: the depths of a tree of counts fill a code, and the tree of weights of 1 and 2 is not deep.
-/
section
namespace Hf
def Qqx(g:Nat->Int):Nat->Nat->Int
 | _,0=>0
 | i,k+1=>g i+Qqx g (i+1) k
theorem Qlp(g:Nat->Int):∀(k i:Nat),Qqx g i (k+1)=Qqx g i k+g (i+k)
 | 0,i=>by simp[Qqx]
 | k+1,i=>by
   rw[Qqx,Qlp g k (i+1),Qqx]
   rw[show i+1+k=i+(k+1) from by omega]
   omega
def Qmf(n len:Nat)(g:Nat->Int)(l p:Nat):Int:=Qqx g l (n-l)+Qqx g p (len-p)
theorem Qng(g:Nat->Int){n:Nat}{N:Nodes}{l p:Nat}(ln:l<=n)(np:n<=p)(pl:p<=N.length)(hfree:0<(n-l)+(N.length-p)):
 Qmf n N.length g l p=g (takeA n N l p)+Qmf n N.length g (Qay n N l p) (Qav n N l p):=by
 obtain⟨_,_,_,_,_,_,h⟩:=take_one (n:=n) (N:=N) (l:=l) (p:=p) ln np pl hfree
 unfold Qmf
 rcases h with ⟨h1,h2,h3,h4⟩ | ⟨h1,h2,h3,h4⟩
 ·rw[h1,h3,h4,show n-l=(n-(l+1))+1 from by omega,Qqx];omega
 ·rw[h1,h3,h4,show N.length-p=(N.length-(p+1))+1 from by omega,Qqx];omega
theorem Qf1{n:Nat}{C:Int}{t:Nat}{s:TS}(h:TI n C t s)(ht:t+2<=n):
 (∀i,(i<s.l∨(n<=i∧i<s.p))->inn (Qb6 n s).N i=inn s.N i)∧inn (Qb6 n s).N (Qe6 n s)=(s.N.length:Int)∧inn (Qb6 n s).N (Qfc n s)=(s.N.length:Int) ∧
 (∀i,i<s.N.length->wt (Qb6 n s).N i=wt s.N i)∧wt (Qb6 n s).N s.N.length=wt s.N (Qe6 n s)+wt s.N (Qfc n s):=by
 have hlen:=h.len
 have hln:=h.ln
 have hnp:=h.np
 have hpl:=h.pl
 have hcnt:=h.cnt
 obtain⟨a1,a2,a3,a4,a5,_,a7⟩:=take_one (n:=n) (N:=s.N) (l:=s.l) (p:=s.p) h.ln h.np (by omega) (by omega)
 obtain⟨b1,b2,b3,b4,b5,_,b7⟩:=take_one (n:=n) (N:=s.N) (l:=Qay n s.N s.l s.p) (p:=Qav n s.N s.l s.p) a2 a3 a4 (by omega)
 have hA:Qe6 n s=takeA n s.N s.l s.p:=rfl
 have hB:Qfc n s=takeA n s.N (Qay n s.N s.l s.p) (Qav n s.N s.l s.p):=rfl
 rw[<-hA] at a1 a7
 rw[<-hB] at b1 b7
 have hN2:(Qb6 n s).N=Qcd (Qcd s.N (Qe6 n s) (s.N.length:Int)) (Qfc n s) (s.N.length:Int)++ [(wt s.N (Qe6 n s)+wt s.N (Qfc n s),0)]:=rfl
 generalize Qe6 n s=A at *
 generalize Qfc n s=B at *
 generalize Qay n s.N s.l s.p=l1 at *
 generalize Qav n s.N s.l s.p=p1 at *
 have hM:(Qcd (Qcd s.N A (s.N.length:Int)) B (s.N.length:Int)).length=s.N.length:=by rw[Qbj,Qbj]
 have hin:∀i,i<s.N.length->inn (Qb6 n s).N i=if i=B then (s.N.length:Int) else if i=A then (s.N.length:Int) else inn s.N i:=fun i hi=>by
  rw[hN2,Xca _ _ _ (by rw[hM];exact hi),Qig _ _ _ _ (by rw[Qbj];exact b1),Qig _ _ _ _ a1]
 refine⟨fun i hi=>?_,?_,?_,fun j hj=>?_,?_⟩
 ·rw[hin i (by omega),if_neg (by omega),if_neg (by omega)]
 ·rw[hin A a1]
  by_cases e:A=B
  ·rw[if_pos e]
  ·rw[if_neg e,if_pos rfl]
 ·rw[hin B b1,if_pos rfl]
 ·rw[hN2,Qzy _ _ _ (by rw[hM];exact hj),Qe0,Qe0]
 ·rw[hN2]
  have:=Qzo (Qcd (Qcd s.N A (s.N.length:Int)) B (s.N.length:Int)) (wt s.N A+wt s.N B,0)
  rw[hM] at this
  exact this
theorem Xah(ws:List Int)(h:∀i,0<=ws.getD i 0):∀(k t:Nat),t+k+1=ws.length->∀i,(i<(Qad ws t).l∨(ws.length<=i∧i<(Qad ws t).p))->inn (Qad ws (ws.length-1)).N i=inn (Qad ws t).N i
 | 0,t,ht,i,_=>by rw[show ws.length-1=t from by omega]
 | k+1,t,ht,i,hi=>by
   have hI:=TI.run ws h t (by omega)
   have hs:=Qf1 hI (by omega)
   obtain⟨a1,a2,a3,a4,a5,_,a7⟩:=take_one (n:=ws.length) (N:=(Qad ws t).N) (l:=(Qad ws t).l) (p:=(Qad ws t).p) hI.ln hI.np (by rw[hI.len];exact hI.pl) (by have:=hI.len;have:=hI.cnt;have:=hI.ln;have:=hI.pl;omega)
   obtain⟨b1,b2,b3,b4,b5,_,b7⟩:=take_one (n:=ws.length) (N:=(Qad ws t).N) (l:=Qay ws.length (Qad ws t).N (Qad ws t).l (Qad ws t).p) (p:=Qav ws.length (Qad ws t).N (Qad ws t).l (Qad ws t).p) a2 a3 a4 (by have:=hI.len;have:=hI.cnt;have:=hI.ln;have:=hI.pl;omega)
   have e1:(Qad ws (t+1)).l=Qay ws.length (Qad ws t).N (Qay ws.length (Qad ws t).N (Qad ws t).l (Qad ws t).p) (Qav ws.length (Qad ws t).N (Qad ws t).l (Qad ws t).p):=rfl
   have e2:(Qad ws (t+1)).p=Qav ws.length (Qad ws t).N (Qay ws.length (Qad ws t).N (Qad ws t).l (Qad ws t).p) (Qav ws.length (Qad ws t).N (Qad ws t).l (Qad ws t).p):=rfl
   rw[Xah ws h k (t+1) (by omega) i (by rw[e1,e2];omega)]
   exact hs.1 i hi
theorem Xe9(ws:List Int)(h:∀i,0<=ws.getD i 0)(t:Nat)(ht:t+2<=ws.length)(g:Nat->Int):
 ∃A B,Qmf ws.length (ws.length+t) g (Qad ws t).l (Qad ws t).p+g (ws.length+t)=g A+g B+Qmf ws.length (ws.length+(t+1)) g (Qad ws (t+1)).l (Qad ws (t+1)).p ∧
  inn (Qad ws (ws.length-1)).N A=((ws.length+t:Nat):Int)∧inn (Qad ws (ws.length-1)).N B=((ws.length+t:Nat):Int)∧A<ws.length+t∧B<ws.length+t:=by
 have hI:=TI.run ws h t (by omega)
 have hs:=Qf1 hI (by omega)
 have hlen:=hI.len
 obtain⟨a1,a2,a3,a4,a5,_,a7⟩:=take_one (n:=ws.length) (N:=(Qad ws t).N) (l:=(Qad ws t).l) (p:=(Qad ws t).p) hI.ln hI.np (by rw[hI.len];exact hI.pl) (by have:=hI.cnt;have:=hI.ln;have:=hI.pl;omega)
 have hf1:=Qng g (n:=ws.length) (N:=(Qad ws t).N) (l:=(Qad ws t).l) (p:=(Qad ws t).p) hI.ln hI.np (by rw[hI.len];exact hI.pl) (by have:=hI.cnt;have:=hI.ln;have:=hI.pl;omega)
 obtain⟨b1,b2,b3,b4,b5,_,b7⟩:=take_one (n:=ws.length) (N:=(Qad ws t).N) (l:=Qay ws.length (Qad ws t).N (Qad ws t).l (Qad ws t).p) (p:=Qav ws.length (Qad ws t).N (Qad ws t).l (Qad ws t).p) a2 a3 a4 (by have:=hI.cnt;have:=hI.ln;have:=hI.pl;omega)
 have hf2:=Qng g (n:=ws.length) (N:=(Qad ws t).N) (l:=Qay ws.length (Qad ws t).N (Qad ws t).l (Qad ws t).p) (p:=Qav ws.length (Qad ws t).N (Qad ws t).l (Qad ws t).p) a2 a3 a4 (by have:=hI.cnt;have:=hI.ln;have:=hI.pl;omega)
 have e1:(Qad ws (t+1)).l=Qay ws.length (Qad ws t).N (Qay ws.length (Qad ws t).N (Qad ws t).l (Qad ws t).p) (Qav ws.length (Qad ws t).N (Qad ws t).l (Qad ws t).p):=rfl
 have e2:(Qad ws (t+1)).p=Qav ws.length (Qad ws t).N (Qay ws.length (Qad ws t).N (Qad ws t).l (Qad ws t).p) (Qav ws.length (Qad ws t).N (Qad ws t).l (Qad ws t).p):=rfl
 have hA:Qe6 ws.length (Qad ws t)=takeA ws.length (Qad ws t).N (Qad ws t).l (Qad ws t).p:=rfl
 have hB:Qfc ws.length (Qad ws t)=takeA ws.length (Qad ws t).N (Qay ws.length (Qad ws t).N (Qad ws t).l (Qad ws t).p) (Qav ws.length (Qad ws t).N (Qad ws t).l (Qad ws t).p):=rfl
 rw[<-hA] at hf1 a1 a7
 rw[<-hB] at hf2 b1 b7
 rw[<-e1,<-e2] at hf2
 rw[<-e2] at b3 b4
 rw[<-e1,<-e2] at b7
 rw[hlen] at hf1 hf2 a1 b1 b4 b7
 have hend:=Xah ws h (ws.length-1-(t+1)) (t+1) (by omega)
 have tA:Qe6 ws.length (Qad ws t)<(Qad ws (t+1)).l∨(ws.length<=Qe6 ws.length (Qad ws t)∧Qe6 ws.length (Qad ws t)<(Qad ws (t+1)).p):=by
  have h1:=hI.np
  clear hs hf1 hf2 hend e1 e2 hA hB
  generalize Qe6 ws.length (Qad ws t)=A at *
  generalize Qfc ws.length (Qad ws t)=B at *
  generalize Qay ws.length (Qad ws t).N (Qad ws t).l (Qad ws t).p=l1 at *
  generalize Qav ws.length (Qad ws t).N (Qad ws t).l (Qad ws t).p=p1 at *
  omega
 have tB:Qfc ws.length (Qad ws t)<(Qad ws (t+1)).l∨(ws.length<=Qfc ws.length (Qad ws t)∧Qfc ws.length (Qad ws t)<(Qad ws (t+1)).p):=by
  have h1:=hI.np
  clear hs hf1 hf2 hend e1 e2 hA hB
  generalize Qe6 ws.length (Qad ws t)=A at *
  generalize Qfc ws.length (Qad ws t)=B at *
  generalize Qay ws.length (Qad ws t).N (Qad ws t).l (Qad ws t).p=l1 at *
  generalize Qav ws.length (Qad ws t).N (Qad ws t).l (Qad ws t).p=p1 at *
  omega
 refine⟨Qe6 ws.length (Qad ws t),Qfc ws.length (Qad ws t),?_,?_,?_,a1,b1⟩
 ·have e3:Qmf ws.length (ws.length+(t+1)) g (Qad ws (t+1)).l (Qad ws (t+1)).p=Qmf ws.length (ws.length+t) g (Qad ws (t+1)).l (Qad ws (t+1)).p+g (ws.length+t):=by
   unfold Qmf
   rw[show ws.length+(t+1)-(Qad ws (t+1)).p=(ws.length+t-(Qad ws (t+1)).p)+1 from by omega,Qlp,show(Qad ws (t+1)).p+(ws.length+t-(Qad ws (t+1)).p)=ws.length+t from by omega]
   omega
  rw[e3,hf1,hf2];omega
 ·have:=hs.2.1
  rw[hlen] at this
  rw[hend (Qe6 ws.length (Qad ws t)) tA]
  exact this
 ·have:=hs.2.2.1
  rw[hlen] at this
  rw[hend (Qfc ws.length (Qad ws t)) tB]
  exact this
def shr(M:Nat)(N:Nodes)(i:Nat):Int:=2^(M-(dv N i).toNat)
theorem Qrk{N:Nodes}(hu:Ups N)(M i:Nat)(hi:i+1<N.length)(hM:N.length<=M):shr M N (inn N i).toNat=2*shr M N i:=by
 have h1:=Qjk hu i hi
 have h2:=Qoe N i
 have h3:=Qoe N (inn N i).toNat
 unfold shr
 rw[show M-(dv N (inn N i).toNat).toNat=(M-(dv N i).toNat)+1 from by omega,Int.pow_succ]
 omega
theorem Qwx(ws:List Int)(h:∀i,0<=ws.getD i 0)(hn:2<=ws.length)(M:Nat)(hM:2*ws.length<=M):∀(k t:Nat),t+k+1=ws.length->Qmf ws.length (ws.length+t) (shr M (Qad ws (ws.length-1)).N) (Qad ws t).l (Qad ws t).p=2^M:=by
 obtain⟨hu,hl⟩:=Qk8 ws h hn
 intro k
 induction k with
 | zero=>
   intro t ht
   have hI:=TI.run ws h t (by omega)
   have h1:=hI.ln
   have h2:=hI.np
   have h3:=hI.pl
   have h4:=hI.cnt
   have h5:=hI.last (by omega)
   unfold Qmf
   rw[show ws.length-(Qad ws t).l=0 from by omega,show ws.length+t-(Qad ws t).p=1 from by omega]
   rw[Qqx,Qqx,Qqx]
   unfold shr
   rw[Qld _ _ (by rw[hl];omega)]
   simp
 | succ k ih=>
   intro t ht
   obtain⟨A,B,e,hA,hB,lA,lB⟩:=Xe9 ws h t (by omega) (shr M (Qad ws (ws.length-1)).N)
   rw[ih (t+1) (by omega)] at e
   have cA:=Qrk hu M A (by rw[hl];omega) (by rw[hl];omega)
   have cB:=Qrk hu M B (by rw[hl];omega) (by rw[hl];omega)
   rw[hA,Int.toNat_natCast] at cA
   rw[hB,Int.toNat_natCast] at cB
   omega
theorem Xl7(ws:List Int)(h:∀i,0<=ws.getD i 0)(hn:2<=ws.length)(M:Nat)(hM:2*ws.length<=M):Qqx (shr M (Qad ws (ws.length-1)).N) 0 ws.length=2^M:=by
 have:=Qwx ws h hn M hM (ws.length-1) 0 (by omega)
 unfold Qmf at this
 have e1:(Qad ws 0).l=0:=rfl
 have e2:(Qad ws 0).p=ws.length:=rfl
 rw[e1,e2,Nat.sub_zero,Nat.add_zero,Nat.sub_self,Qqx] at this
 omega
end Hf
end
/-
 Plain facts: a tree of at most 512 weights of 1 and 2 is at most 15 deep.
-/
section
namespace Hf
theorem Qko{n:Nat}{N:Nodes}{l p:Nat}(hl:∀i j,i<=j->j<n->wt N i<=wt N j)(hp:∀i j,n<=i->i<=j->j<N.length->wt N i<=wt N j)(np:n<=p):
 ∀j,((l<=j∧j<n)∨(p<=j∧j<N.length))->wt N (takeA n N l p)<=wt N j:=by
 intro j hj
 unfold takeA
 cases hu:Qb3 n N l p with
 | true=>
   unfold Qb3 at hu
   rw[Bool.or_eq_true,beq_iff_eq,Bool.and_eq_true,decide_eq_true_eq,decide_eq_true_eq] at hu
   simp only[if_true]
   rcases hj with hj | hj
   ·exact hl l j hj.1 hj.2
   ·rcases hu with hu | hu
    ·omega
    ·have:=hp p j np hj.1 hj.2;omega
 | false=>
   unfold Qb3 at hu
   rw[Bool.or_eq_false_iff,Bool.and_eq_false_iff,decide_eq_false_iff_not,decide_eq_false_iff_not] at hu
   simp only[Bool.false_eq_true,if_false]
   rcases hj with hj | hj
   ·have:=hl l j hj.1 hj.2
    have h2:¬wt N l<=wt N p:=by
     rcases hu.2 with h | h
     ·omega
     ·exact h
    omega
   ·exact hp p j np hj.1 hj.2
structure NI (n t:Nat) (s:TS):Prop where
 leaf:∀i j,i<=j->j<n->wt s.N i<=wt s.N j
 pair:∀i j,n<=i->i<=j->j<n+t->wt s.N i<=wt s.N j
 pos:∀i,i<n+t->1<=wt s.N i
 near:∀i j,((s.l<=i∧i<n)∨(s.p<=i∧i<n+t))->((s.l<=j∧j<n)∨(s.p<=j∧j<n+t))->wt s.N i<=2*wt s.N j
 up:∀i,(i<s.l∨(n<=i∧i<s.p))->3*wt s.N i<=2*wt s.N (inn s.N i).toNat
 low:∀i j,(i<s.l∨(n<=i∧i<s.p))->((s.l<=j∧j<n)∨(s.p<=j∧j<n+t))->wt s.N i<=wt s.N j
 up2:∀i,(i<s.l∨(n<=i∧i<s.p))->((inn s.N i).toNat<s.l∨(n<=(inn s.N i).toNat∧(inn s.N i).toNat<s.p))->5*wt s.N i<=2*wt s.N (inn s.N (inn s.N i).toNat).toNat
theorem NI.step{n:Nat}{C:Int}{t:Nat}{s:TS}(h:TI n C t s)(hN:NI n t s)(ht:t+2<=n):NI n (t+1) (Qb6 n s):=by
 have hlen:=h.len
 have hln:=h.ln
 have hnp:=h.np
 have hpl:=h.pl
 have hcnt:=h.cnt
 have hlast:=h.last
 obtain⟨s1,s2,s3,s4,s5⟩:=Qf1 h ht
 obtain⟨a1,a2,a3,a4,a5,_,a7⟩:=take_one (n:=n) (N:=s.N) (l:=s.l) (p:=s.p) h.ln h.np (by omega) (by omega)
 obtain⟨b1,b2,b3,b4,b5,_,b7⟩:=take_one (n:=n) (N:=s.N) (l:=Qay n s.N s.l s.p) (p:=Qav n s.N s.l s.p) a2 a3 a4 (by omega)
 have m1:=Qko (n:=n) (N:=s.N) (l:=s.l) (p:=s.p) hN.leaf (by rw[hlen];exact hN.pair) h.np
 have m2:=Qko (n:=n) (N:=s.N) (l:=Qay n s.N s.l s.p) (p:=Qav n s.N s.l s.p) hN.leaf (by rw[hlen];exact hN.pair) a3
 have hA:Qe6 n s=takeA n s.N s.l s.p:=rfl
 have hB:Qfc n s=takeA n s.N (Qay n s.N s.l s.p) (Qav n s.N s.l s.p):=rfl
 rw[<-hA] at a1 a7 m1
 rw[<-hB] at b1 b7 m2
 have hl2:(Qb6 n s).l=Qay n s.N (Qay n s.N s.l s.p) (Qav n s.N s.l s.p):=rfl
 have hp2:(Qb6 n s).p=Qav n s.N (Qay n s.N s.l s.p) (Qav n s.N s.l s.p):=rfl
 rw[<-hl2,<-hp2] at b5 b7
 rw[<-hl2] at b2
 rw[<-hp2] at b3 b4
 rw[hlen] at a1 a4 a7 b1 b4 b7 m1 m2 s2 s3 s4 s5
 have hpar:=h.par
 have hnear:=hN.near
 clear hA hB hl2 hp2
 generalize Qe6 n s=A at *
 generalize Qfc n s=B at *
 generalize Qay n s.N s.l s.p=l1 at *
 generalize Qav n s.N s.l s.p=p1 at *
 have fA:(s.l<=A∧A<n)∨(s.p<=A∧A<n+t):=by omega
 have fB:(s.l<=B∧B<n)∨(s.p<=B∧B<n+t):=by omega
 have hab:=m1 B fB
 have nAB:=hnear A B fA fB
 have nBA:=hnear B A fB fA
 have pA:=hN.pos A a1
 have pB:=hN.pos B b1
 refine⟨fun i j e1 e2=>?_,fun i j e1 e2 e3=>?_,fun i e1=>?_,fun i j e1 e2=>?_,fun i e1=>?_,fun i j e1 e2=>?_,fun i e1 e2=>?_⟩
 ·rw[s4 i (by omega),s4 j (by omega)];exact hN.leaf i j e1 e2
 ·by_cases c1:j<n+t
  ·rw[s4 i (by omega),s4 j c1];exact hN.pair i j e1 e2 c1
  ·obtain rfl:j=n+t:=by omega
   by_cases c2:i=n+t
   ·rw[c2];omega
   ·rw[s4 i (by omega),s5]
    have h1:=hN.pair i (n+t-1) e1 (by omega) (by omega)
    have h2:=hnear (n+t-1) A (by have:=hlast (by omega);omega) fA
    omega
 ·by_cases c1:i<n+t
  ·rw[s4 i c1];exact hN.pos i c1
  ·obtain rfl:i=n+t:=by omega
   rw[s5];omega
 ·by_cases c1:i<n+t
  ·have fi:(s.l<=i∧i<n)∨(s.p<=i∧i<n+t):=by omega
   rw[s4 i c1]
   by_cases c2:j<n+t
   ·rw[s4 j c2];exact hnear i j fi (by omega)
   ·obtain rfl:j=n+t:=by omega
    rw[s5]
    have:=hnear i A fi fA
    omega
  ·obtain rfl:i=n+t:=by omega
   rw[s5]
   by_cases c2:j<n+t
   ·rw[s4 j c2]
    have:=m2 j (by omega)
    omega
   ·obtain rfl:j=n+t:=by omega
    rw[s5];omega
 ·by_cases c1:i=A
  ·subst c1
   rw[s2,Int.toNat_natCast,s5,s4 i a1];omega
  ·by_cases c2:i=B
   ·subst c2
    rw[s3,Int.toNat_natCast,s5,s4 i b1];omega
   ·have ti:i<s.l∨(n<=i∧i<s.p):=by omega
    have hp:=hpar i ti
    rw[s1 i ti,s4 i (by omega),s4 _ (by omega)]
    exact hN.up i ti
 ·have hj:(j<n+t∧wt s.N B<=wt s.N j∧wt (Qb6 n s).N j=wt s.N j∧((s.l<=j∧j<n)∨(s.p<=j∧j<n+t)))∨(j=n+t∧wt (Qb6 n s).N j=wt s.N A+wt s.N B):=by
   by_cases c:j<n+t
   ·exact Or.inl ⟨c,m2 j (by omega),s4 j c,by omega⟩
   ·obtain rfl:j=n+t:=by omega
    exact Or.inr ⟨rfl,s5⟩
  by_cases c1:i=A
  ·rw[c1,s4 A a1];omega
  ·by_cases c2:i=B
   ·rw[c2,s4 B b1];omega
   ·have ti:i<s.l∨(n<=i∧i<s.p):=by omega
    have l1:=hN.low i A ti fA
    rw[s4 i (by omega)]
    rcases hj with ⟨_,_,e,fj⟩ | ⟨_,e⟩
    ·rw[e];exact hN.low i j ti fj
    ·rw[e];omega
 ·by_cases c1:i=A
  ·rw[c1,s2,Int.toNat_natCast] at e2;omega
  ·by_cases c2:i=B
   ·rw[c2,s3,Int.toNat_natCast] at e2;omega
   ·have ti:i<s.l∨(n<=i∧i<s.p):=by omega
    have hp:=hpar i ti
    have hu:=hN.up i ti
    have lA:=hN.low i A ti fA
    have lB:=hN.low i B ti fB
    have hu2:=hN.up2 i ti
    rw[s1 i ti] at e2
    rw[s1 i ti,s4 i (by omega)]
    obtain⟨q,hq⟩:∃q,q=(inn s.N i).toNat:=⟨_,rfl⟩
    rw[<-hq] at e2 hu hu2
    rw[<-hq]
    by_cases d1:q=A
    ·rw[d1] at hu
     rw[d1,s2,Int.toNat_natCast,s5];omega
    ·by_cases d2:q=B
     ·rw[d2] at hu
      rw[d2,s3,Int.toNat_natCast,s5];omega
     ·have tq:q<s.l∨(n<=q∧q<s.p):=by omega
      have hpq:=hpar q tq
      rw[s1 q tq,s4 _ (by omega)]
      exact hu2 tq
theorem Qdu(ws:List Int)(i:Nat):wt (Qbf ws).N i=ws.getD i 0:=by
 unfold wt Qbf
 simp only[List.getD,List.getElem?_map]
 cases ws[i]?<;>simp
theorem NI.start(ws:List Int)(hs:∀i j,i<=j->j<ws.length->ws.getD i 0<=ws.getD j 0)(h12:∀i,i<ws.length->1<=ws.getD i 0∧ws.getD i 0<=2):NI ws.length 0 (Qbf ws):=by
 have e1:(Qbf ws).l=0:=rfl
 have e2:(Qbf ws).p=ws.length:=rfl
 refine⟨fun i j a b=>?_,fun i j a b c=>by omega,fun i a=>?_,fun i j a b=>?_,fun i a=>by omega,fun i j a b=>by omega,fun i a=>by omega⟩
 ·rw[Qdu,Qdu];exact hs i j a b
 ·rw[Qdu];exact(h12 i (by omega)).1
 ·rw[Qdu,Qdu]
  have:=h12 i (by omega)
  have:=h12 j (by omega)
  omega
theorem NI.run(ws:List Int)(hs:∀i j,i<=j->j<ws.length->ws.getD i 0<=ws.getD j 0)(h12:∀i,i<ws.length->1<=ws.getD i 0∧ws.getD i 0<=2)(h0:∀i,0<=ws.getD i 0)(t:Nat)(ht:t+1<=ws.length):NI ws.length t (Qad ws t):=by
 induction t with
 | zero=>exact NI.start ws hs h12
 | succ t ih=>exact NI.step (TI.run ws h0 t (by omega)) (ih (by omega)) (by omega)
theorem Qjr(N:Nodes)(c:Int):∀(k i:Nat),(∀j,i<=j->j<i+k->wt N j<=c)->Qir N i k<=c*(k:Int)
 | 0,_,_=>by simp[Qir]
 | k+1,i,h=>by
   rw[Qir]
   have h1:=h i (Nat.le_refl _) (by omega)
   have h2:=Qjr N c k (i+1) (fun j a b=>h j (by omega) (by omega))
   have e:c*((k+1:Nat):Int)=c*(k:Int)+c:=by rw[Int.natCast_add,Int.mul_add];simp
   omega
theorem Xa4(ws:List Int)(hs:∀i j,i<=j->j<ws.length->ws.getD i 0<=ws.getD j 0)(h12:∀i,i<ws.length->1<=ws.getD i 0∧ws.getD i 0<=2)(hn:2<=ws.length)(h60:ws.length<=512)(i:Nat)(hi:i<2*ws.length-1):dv (Qad ws (ws.length-1)).N i<=15:=by
 have h0:∀i,0<=ws.getD i 0:=fun i=>by
  by_cases h:i<ws.length
  ·have:=h12 i h;omega
  ·simp[List.getD,List.getElem?_eq_none (show ws.length<=i by omega)]
 obtain⟨hu,hl⟩:=Qk8 ws h0 hn
 have hI:=TI.run ws h0 (ws.length-1) (by omega)
 have hN:=NI.run ws hs h12 h0 (ws.length-1) (by omega)
 have k1:=hI.ln
 have k2:=hI.np
 have k3:=hI.pl
 have k4:=hI.cnt
 have k5:=hI.last (by omega)
 have hsum:=hI.sum
 have hC:Qfl ws.length (Qbf ws).N 0 ws.length<=1024:=by
  unfold Qfl
  have e1:(Qbf ws).N.length=ws.length:=by simp[Qbf]
  rw[e1,Nat.sub_zero,Nat.sub_self,Qir]
  have:=Qjr (Qbf ws).N 2 ws.length 0 (fun j _ b=>by rw[Qdu];exact(h12 j (by omega)).2)
  omega
 unfold Qfl at hsum
 rw[hl,show ws.length-(Qad ws (ws.length-1)).l=0 from by omega,show(Qad ws (ws.length-1)).p=2*ws.length-2 from by omega,show 2*ws.length-1-(2*ws.length-2)=1 from by omega,Qir,Qir,Qir] at hsum
 have hroot:wt (Qad ws (ws.length-1)).N (2*ws.length-2)<=1024:=by unfold Qfl at hC;omega
 have hup:∀i,i+1<2*ws.length-1->3*wt (Qad ws (ws.length-1)).N i<=2*wt (Qad ws (ws.length-1)).N (inn (Qad ws (ws.length-1)).N i).toNat:=fun i hi=>hN.up i (by omega)
 have hup2:∀i,i+1<2*ws.length-1->(inn (Qad ws (ws.length-1)).N i).toNat+1<2*ws.length-1->5*wt (Qad ws (ws.length-1)).N i<=2*wt (Qad ws (ws.length-1)).N (inn (Qad ws (ws.length-1)).N (inn (Qad ws (ws.length-1)).N i).toNat).toNat:=fun i hi hj=>hN.up2 i (by omega) (by omega)
 have hpos:∀i,i<2*ws.length-1->1<=wt (Qad ws (ws.length-1)).N i:=fun i hi=>hN.pos i (by omega)
 generalize (Qad ws (ws.length-1)).N=N at *
 clear hI hN hsum hC k1 k2 k3 k4 k5
 have htop:∀(k i:Nat),i<N.length->N.length<=i+k->wt N i<=1024:=by
  intro k
  induction k with
  | zero=>intro i h1 h2;omega
  | succ k ih=>
    intro i h1 h2
    by_cases c:i+1<N.length
    ·have hui:=hu i c
     have h3:=ih (inn N i).toNat (by omega) (by omega)
     have h4:=hup i (by omega)
     have h5:=hpos i (by omega)
     omega
    ·rw[show i=2*ws.length-2 from by omega];exact hroot
 have hd:∀(k i:Nat),i<N.length->2*(k:Int)<=dv N i->(5:Int)^k*wt N i<=2^k*1024:=by
  intro k
  induction k with
  | zero=>intro i h1 _;have:=htop N.length i h1 (by omega);simpa using this
  | succ k ih=>
    intro i h1 h2
    have c:i+1<N.length:=by
     by_cases c:i+1<N.length
     ·exact c
     ·rw[Qld N i c] at h2;omega
    have hui:=hu i c
    have e:=Qjk hu i c
    have c2:(inn N i).toNat+1<N.length:=by
     by_cases c2:(inn N i).toNat+1<N.length
     ·exact c2
     ·rw[Qld N _ c2] at e;omega
    have hui2:=hu _ c2
    have e2:=Qjk hu _ c2
    have h3:=ih (inn N (inn N i).toNat).toNat (by omega) (by omega)
    have h4:=hup2 i (by omega) (by omega)
    rw[Int.pow_succ,Int.pow_succ]
    have p5:(0:Int)<=5^k:=Int.le_of_lt (Int.pow_pos (by omega))
    have h5:=Int.mul_le_mul_of_nonneg_left h4 p5
    generalize (5:Int)^k=P at *
    generalize (2:Int)^k=Q at *
    generalize wt N (inn N (inn N i).toNat).toNat=y at *
    generalize wt N i=x at *
    have e1:P*5*x=P*(5*x):=by rw[Int.mul_assoc]
    have e2:P*(2*y)=2*(P*y):=by rw[Int.mul_left_comm]
    omega
 have h2:=hpos i hi
 by_cases c:dv N i<=15
 ·exact c
 ·exfalso
  have h1:=hd 8 i (by omega) (by omega)
  have e5:(5:Int)^8=390625:=by decide
  have e2:(2:Int)^8=256:=by decide
  rw[e5,e2] at h1
  omega
end Hf
end
/-
 CRC-32C as plain mathematics over natural numbers: a bit in, a byte in, a row in; that they are linear and can be taken back; joined sums; four bytes that make any sum; rows that differ within four bytes.
-/
namespace Cr.Crc
def poly:Nat:=2197175160
def ones:Nat:=4294967295
def sel(t:Nat):Nat:=if t%2=1 then poly else 0
def Qdy(r b:Nat):Nat:=r/2^^^sel (r^^^b)
def inN:Nat->Nat->Nat->Nat
 | 0,r,_=>r
 | k+1,r,b=>inN k (Qdy r b) (b/2)
def inB(r b:Nat):Nat:=inN 8 r b
def inR(r:Nat)(l:List Nat):Nat:=l.foldl inB r
theorem Xj4(r:Nat):inR r []=r:=rfl
theorem Xfx(r b:Nat)(l:List Nat):inR r (b::l)=inR (inB r b) l:=List.foldl_cons ..
theorem xac(a b c d:Nat):(a^^^b)^^^(c^^^d)=(a^^^c)^^^(b^^^d):=by
 rw[Nat.xor_assoc,<-Nat.xor_assoc b c d,Nat.xor_comm b c,Nat.xor_assoc c b d,<-Nat.xor_assoc]
theorem Xi3(a b:Nat):(a^^^b)^^^b=a:=by rw[Nat.xor_assoc,Nat.xor_self,Nat.xor_zero]
theorem Qph(a b:Nat):(a^^^b)%2=(a+b)%2:=by
 have h:=Nat.testBit_xor a b 0
 rw[Nat.testBit_zero,Nat.testBit_zero,Nat.testBit_zero] at h
 rcases Nat.mod_two_eq_zero_or_one a with ha | ha<;>rcases Nat.mod_two_eq_zero_or_one b with hb | hb<;>rcases Nat.mod_two_eq_zero_or_one (a^^^b) with hc | hc<;>rw[ha,hb,hc] at h<;>simp at h<;>omega
theorem Xie(a b:Nat):sel (a^^^b)=sel a^^^sel b:=by
 have h:(a^^^b)%2=(a+b)%2:=Qph _ _
 unfold sel
 rw[h]
 rcases Nat.mod_two_eq_zero_or_one a with ha | ha<;>rcases Nat.mod_two_eq_zero_or_one b with hb | hb
 ·rw[if_neg (by omega),if_neg (by omega),if_neg (by omega)];rfl
 ·rw[if_pos (by omega),if_neg (by omega),if_pos (by omega)];simp
 ·rw[if_pos (by omega),if_pos (by omega),if_neg (by omega)];simp
 ·rw[if_neg (by omega),if_pos (by omega),if_pos (by omega)];simp
theorem Qvq(a b:Nat):(a^^^b)/2=a/2^^^b/2:=Nat.xor_div_two
theorem Qy1(r s a b:Nat):Qdy (r^^^s) (a^^^b)=Qdy r a^^^Qdy s b:=by
 unfold Qdy
 rw[Qvq,xac r s a b,Xie,xac]
theorem Qop(k:Nat):∀r s a b:Nat,inN k (r^^^s) (a^^^b)=inN k r a^^^inN k s b:=by
 induction k with
 | zero=>intro r s a b;rfl
 | succ k ih=>intro r s a b;rw[inN,inN,inN,Qy1,Qvq,ih]
theorem Qpz(k r b:Nat):inN k r b=inN k r 0^^^inN k 0 b:=by
 have:=Qop k r 0 0 b
 rw[Nat.xor_zero,Nat.zero_xor] at this
 exact this
theorem Qo4(k:Nat):∀b:Nat,b<2^k->inN k 0 b=inN k b 0:=by
 induction k with
 | zero=> intro b h;have:b=0:=by simpa using h
          rw[this]
 | succ k ih=>
   intro b h
   have hb:b/2<2^k:=by rw[Nat.pow_succ] at h;omega
   have e1:Qdy 0 b=sel b:=by simp[Qdy]
   have e2:Qdy b 0=sel b^^^b/2:=by rw[Qdy,Nat.xor_zero,Nat.xor_comm]
   rw[inN,inN,e1,e2,Qpz k (sel b) (b/2),ih _ hb]
   have:=Qop k (sel b) (b/2) 0 0
   rw[Nat.xor_zero] at this
   rw[show 0/2=0 from rfl,this]
theorem Xe0(k r b:Nat)(h:b<2^k):inN k r b=inN k (r^^^b) 0:=by
 have:=Qop k r b 0 0
 rw[Nat.xor_zero] at this
 rw[Qpz,Qo4 k b h,this]
theorem Xbe(k:Nat):∀x:Nat,inN k (x*2^k) 0=x:=by
 induction k with
 | zero=>intro x;simp[inN]
 | succ k ih=>
   intro x
   have e:Qdy (x*2^(k+1)) 0=x*2^k:=by
    unfold Qdy sel
    rw[Nat.xor_zero,Nat.pow_succ,<-Nat.mul_assoc,if_neg (by omega),Nat.xor_zero]
    omega
   rw[inN,e]
   exact ih x
theorem Xch(r:Nat):r=(r/256*2^8)^^^(r%256):=by
 have h1:(r/256*2^8)|||(r%256)=r/256*2^8+r%256:=nat_join 8 _ _ (Nat.mul_mod_left _ _) (by omega)
 have h2:(r/256*2^8)&&&(r%256)=0:=by
  apply Nat.eq_of_testBit_eq
  intro i
  rw[Nat.testBit_and,Nat.zero_testBit]
  by_cases hi:i<8
  ·have:(r/256*2^8).testBit i=false:=by rw[Nat.testBit_mul_two_pow];simp;omega
   rw[this];rfl
  ·have:(r%256).testBit i=false:=Nat.testBit_lt_two_pow (Nat.lt_of_lt_of_le (show r%256<2^8 from by omega) (Nat.pow_le_pow_right (n:=2) (by decide) (by omega)))
   rw[this,Bool.and_false]
 have h3:(r/256*2^8)^^^(r%256)=(r/256*2^8)|||(r%256):=by
  apply Nat.eq_of_testBit_eq
  intro i
  have h:=congrArg (fun x=>x.testBit i) h2
  simp only[Nat.testBit_and,Nat.zero_testBit] at h
  rw[Nat.testBit_xor,Nat.testBit_or]
  revert h
  cases (r/256*2^8).testBit i<;>cases (r%256).testBit i<;>simp
 rw[h3,h1]
 omega
theorem Xcr(r b:Nat)(h:b<256):inB r b=r/256^^^inB 0 (r%256^^^b):=by
 have hx:r%256^^^b<2^8:=Nat.xor_lt_two_pow (by omega) (by omega)
 unfold inB
 rw[Xe0 8 r b (by omega),Qo4 8 _ hx]
 conv=>lhs;rw[Xch r]
 rw[Nat.xor_assoc]
 have:=Qop 8 (r/256*2^8) (r%256^^^b) 0 0
 rw[Nat.xor_zero] at this
 rw[this,Xbe]
theorem Xhp(t:Nat):sel t<2^32:=by unfold sel poly;split<;>omega
theorem Qu0(r b:Nat)(h:r<2^32):Qdy r b<2^32:=Nat.xor_lt_two_pow (by omega) (Xhp _)
theorem Xhk(k:Nat):∀r b:Nat,r<2^32->inN k r b<2^32:=by
 induction k with
 | zero=>intro r b h;exact h
 | succ k ih=>intro r b h;exact ih _ _ (Qu0 r b h)
theorem Xgw(r b:Nat)(h:r<2^32):inB r b<2^32:=Xhk 8 r b h
theorem Xb2(l:List Nat):∀r:Nat,r<2^32->inR r l<2^32:=by
 induction l with
 | nil=>intro r h;rw[Xj4];exact h
 | cons b l ih=>intro r h;rw[Xfx];exact ih _ (Xgw r b h)
/-! Back -/
theorem Xey(k:Nat):∀r b:Nat,inN (k+1) r b=Qdy (inN k r b) (b/2^k):=by
 induction k with
 | zero=>intro r b;simp[inN]
 | succ k ih=>
   intro r b
   rw[inN,ih,inN,Nat.div_div_eq_div_mul,<-Nat.pow_succ']
theorem Qn1(r:Nat)(l m:List Nat):inR r (l++m)=inR (inR r l) m:=by
 unfold inR;rw[List.foldl_append]
/-! Two rows at once -/
def add(sum:Nat)(l:List Nat):Nat:=inR (sum^^^ones) l^^^ones
theorem Qox(a:Nat)(h:a<2^32):a^^^ones<2^32:=Nat.xor_lt_two_pow h (by unfold ones;omega)
theorem add_lt(s:Nat)(l:List Nat)(h:s<2^32):add s l<2^32:=Qox _ (Xb2 l _ (Qox s h))
theorem Qxh(s:Nat)(l m:List Nat):add s (l++m)=add (add s l) m:=by
 rw[add,add,add,Xi3,Qn1]
end Cr.Crc
/-
 Registers as polynomials: the product by which many bytes 0 go in at once.
-/
namespace Cr.Crc
def st(k r:Nat):Nat:=inN k r 0
theorem Xiq(k r:Nat):st (k+1) r=Qdy (st k r) 0:=by
 unfold st;rw[Xey,Nat.zero_div]
theorem Xl2(k r:Nat)(h:r<2^32):st k r<2^32:=Xhk k r 0 h
theorem Qog(r:Nat):Qdy r 0=r/2^^^sel r:=by rw[Qdy,Nat.xor_zero]
def pick(b t:Nat):Nat:=b*(t%2)
def mulN(a b:Nat):Nat->Nat
 | 0=>0
 | k+1=>Qdy (mulN a b k) 0^^^pick b (a/2^k)
def mul(a b:Nat):Nat:=mulN a b 32
theorem Qy6(i x y:Nat)(hx:x<2^i)(hy:y%2^i=0):x^^^y=x+y:=by
 have h1:y|||x=y+x:=nat_join i y x hy hx
 have h3:x^^^y=y|||x:=by
  apply Nat.eq_of_testBit_eq
  intro j
  rw[Nat.testBit_xor,Nat.testBit_or]
  by_cases hj:j<i
  ·have:y.testBit j=false:=by
    have hy':y=2^i*(y/2^i):=by have:=Nat.div_add_mod y (2^i);omega
    rw[hy',Nat.testBit_two_pow_mul]
    simp;omega
   rw[this];simp
  ·have:x.testBit j=false:=Nat.testBit_lt_two_pow (Nat.lt_of_lt_of_le hx (Nat.pow_le_pow_right (n:=2) (by decide) (by omega)))
   rw[this];simp
 rw[h3,h1];omega
theorem Xe4(a:Nat):∀k,k<=32->mulN a (2^31) k=a%2^k*2^(32-k):=by
 intro k
 induction k with
 | zero=>intro _;rw[Nat.pow_zero,Nat.mod_one,Nat.zero_mul];rfl
 | succ k ih=>
   intro hk
   rw[mulN,ih (by omega),Qog]
   have e1:a%2^k*2^(32-k)=2*(a%2^k*2^(31-k)):=by
    rw[show 32-k=(31-k)+1 from by omega,Nat.pow_succ,<-Nat.mul_assoc,Nat.mul_comm]
   rw[e1,sel,if_neg (by omega),Nat.xor_zero,Nat.mul_div_cancel_left _ (by decide),show 32-(k+1)=31-k from by omega]
   have hlt:a%2^k*2^(31-k)<2^31:=by
    have h1:a%2^k<2^k:=Nat.mod_lt _ (Nat.two_pow_pos k)
    have h2:a%2^k*2^(31-k)<2^k*2^(31-k):=Nat.mul_lt_mul_of_pos_right h1 (Nat.two_pow_pos _)
    rwa[<-Nat.pow_add,show k+(31-k)=31 from by omega] at h2
   have hp:pick (2^31) (a/2^k)%2^31=0:=by unfold pick;exact Nat.mul_mod_right _ _
   rw[Qy6 31 _ _ hlt hp,Nat.mod_pow_succ,Nat.add_mul,pick]
   have e2:2^k*(a/2^k%2)*2^(31-k)=2^31*(a/2^k%2):=by
    rw[Nat.mul_right_comm,<-Nat.pow_add,show k+(31-k)=31 from by omega]
   rw[e2]
theorem mul_one(a:Nat)(h:a<2^32):mul a (2^31)=a:=by
 rw[mul,Xe4 a 32 (Nat.le_refl _),Nat.mod_eq_of_lt h,Nat.sub_self,Nat.pow_zero,Nat.mul_one]
end Cr.Crc
/-
 Plain facts: what was encoded is decoded, whatever stands behind it.
-/
section
namespace Hf
theorem Xkw(b:List Int)(at' l d:Nat):vb b at' l=vb b at' (l+d)/2^d:=by
 induction d with
 | zero=>simp
 | succ d ih=>
   have:=Qol b (at'+(l+d))
   rw[ih,<-Nat.add_assoc,vb,Nat.pow_succ,Nat.mul_comm (2^d) 2,<-Nat.div_div_eq_div_mul,show(vb b at' (l+d)*2+Quk b (at'+(l+d)))/2=vb b at' (l+d) from by omega]
theorem Xcx(zs:List Int)(l d:Nat):(first zs l+cnt zs l)*2^(d+1)<=first zs (l+d+1):=by
 induction d with
 | zero=>rw[first];simp
 | succ d ih=>
   rw[Nat.pow_succ,<-Nat.mul_assoc,show l+(d+1)+1=(l+d+1)+1 from by omega,first]
   exact Nat.mul_le_mul_right 2 (Nat.le_trans ih (Nat.le_add_right _ _))
theorem Qvx(zs b:List Int)(at' s L:Nat)(hs:s<zs.length)(hz:zs.getD s 0=(L:Int))(hL:L<16)(h0:0<L)(hr:at'+L<=8*b.length)(hv:vb b at' L=Qbt zs s):
 ∀f l,0<l->l<=L->L<l+f->oneG zs b at' f l=((s:Int),(L:Int))
 | 0,l,_,h1,h2=>by omega
 | f+1,l,h,h1,h2=>by
   rw[oneG,if_pos ⟨by omega,by omega⟩]
   by_cases he:l=L
   ·subst he;rw[Qvr h0 hs hz hv.symm]
   ·have hw:who zs l (vb b at' l)=none:=Qu6 (fun t ht htz hc=>by
     have c1:=Qf2 zs t l htz
     have c2:=Qes zs t l ht htz h
     have c3:=Qf2 zs s L hz
     have c4:=Xcx zs l (L-l-1)
     rw[show L-l-1+1=L-l from by omega,show l+(L-l-1)+1=L from by omega] at c4
     have c5:=Xkw b at' l (L-l)
     rw[show l+(L-l)=L from by omega,hv] at c5
     have c6:first zs l+cnt zs l<=Qbt zs s/2^(L-l):=by
      rw[Nat.le_div_iff_mul_le (Nat.two_pow_pos _)]
      omega
     omega)
    rw[hw]
    exact Qvx zs b at' s L hs hz hL h0 hr hv f (l+1) (by omega) (by omega) (by omega)
theorem Xf7(zs b:List Int)(at' s L:Nat)(hs:s<zs.length)(hz:zs.getD s 0=(L:Int))(hL:L<16)(h0:0<L)(hr:at'+L<=8*b.length)(hv:vb b at' L=Qbt zs s):Qed zs b at'=((s:Int),(L:Int)):=
 Qvx zs b at' s L hs hz hL h0 hr hv 16 1 (by omega) (by omega) (by omega)
end Hf
end
/-
 Bits as the document packs them: bytes whose bits are a row of bits and fewer than eight zeros are the row's packing.
-/
section
open Hf
def Qk4(a:Nat)(l:List Nat):Nat:=l.foldl (fun a b=>a*2+b) a
theorem Qpe:∀(l:List Nat) (a:Nat),Qk4 a l=a*2^l.length+Qk4 0 l
 | [],a=>by simp[Qk4]
 | b::l,a=>by
   have h1:=Qpe l (a*2+b)
   have h2:=Qpe l (0*2+b)
   show Qk4 (a*2+b) l=a*2^(l.length+1)+Qk4 (0*2+b) l
   rw[h1,h2,Nat.pow_succ,Nat.add_mul,Nat.zero_mul,Nat.zero_add,Nat.mul_assoc,Nat.mul_comm 2,Nat.add_assoc]
theorem Qkq(l m:List Nat)(a:Nat):Qk4 a (l++m)=Qk4 a l*2^m.length+Qk4 0 m:=by
 rw[show Qk4 a (l++m)=Qk4 (Qk4 a l) m from by simp[Qk4,List.foldl_append],Qpe m]
theorem Qkp(x:Nat):∀n,Qk4 0 (low x n)=x%2^n
 | 0=>by simp[low,Qk4,Nat.mod_one]
 | n+1=>by
   show Qk4 (0*2+x/2^n%2) (low x n)=_
   rw[Qpe,Qkp x n,Qa2,Nat.zero_mul,Nat.zero_add,Nat.pow_succ]
   have h:=Nat.mod_mul (a:=2^n) (b:=2) (x:=x)
   rw[h,Nat.mul_comm,Nat.add_comm]
theorem Qw1(p:Nat):Qk4 0 (List.replicate p 0)=0:=by
 induction p with
 | zero=>rfl
 | succ p ih=>show Qk4 (0*2+0) (List.replicate p 0)=0;exact ih
theorem Qxk(N q:Nat)(z:Nat)(hz:z<256):Qex (N*256+z) (8*(q+1))=Qex N (8*q)++ [(z:Int)]:=by
 refine Qqc (by rw[List.length_append,Qa6,Qa6];simp) (fun j hj=>?_)
 rw[Qa6] at hj
 have hq:8*(q+1)/8=q+1:=by omega
 have hq2:8*q/8=q:=by omega
 rw[hq] at hj
 rw[Qc8 _ _ _ (by omega)]
 by_cases h:j<q
 ·have e:(Qex N (8*q)++ [(z:Int)]).getD j 0=(Qex N (8*q)).getD j 0:=by
   simp[List.getD,List.getElem?_append_left (show j<(Qex N (8*q)).length from by rw[Qa6];omega)]
  rw[e,Qc8 _ _ _ (by omega),show 8*(q+1)-8*(j+1)=8+(8*q-8*(j+1)) from by omega,Nat.pow_add,<-Nat.div_div_eq_div_mul,show(N*256+z)/2^8=N from by omega]
 ·obtain rfl:j=q:=by omega
  have e:(Qex N (8*j)++ [(z:Int)]).getD j 0=(z:Int):=by
   simp[List.getD,Qa6,hq2]
  rw[e,Nat.sub_self,Nat.pow_zero,Nat.div_one]
  omega
def Qgg(M:List Int):List Nat:=M.flatMap fun z=>low z.toNat 8
theorem Qhv(M:List Int):(Qgg M).length=8*M.length:=by
 induction M with
 | nil=>rfl
 | cons z M ih=>rw[show Qgg (z::M)=low z.toNat 8++Qgg M from rfl,List.length_append,Qa2,ih,List.length_cons];omega
theorem Qyy(M:List Int)(z:Int):Qgg (M++ [z])=Qgg M++low z.toNat 8:=by simp[Qgg]
theorem Qnb:∀(k:Nat) (M:List Int),M.length=k->(∀z∈M,0<=z∧z<=255)->M=Qex (Qk4 0 (Qgg M)) (8*M.length)
 | 0,M,h,_=>by
   obtain rfl:=List.length_eq_zero_iff.1 h
   rfl
 | k+1,M,h,hM=>by
   obtain⟨M',z,rfl⟩:∃M' z,M=M'++ [z]:=⟨M.dropLast,M.getLast (by intro e;subst e;cases h),(List.dropLast_concat_getLast _).symm⟩
   have hl:M'.length=k:=by simpa using h
   have ih:=Qnb k M' hl (fun y hy=>hM y (by simp[hy]))
   have hz:=hM z (by simp)
   have e:((z.toNat:Nat):Int)=z:=by omega
   rw[Qyy,Qkq,Qa2,Qkp,Nat.mod_eq_of_lt (show z.toNat<2^8 from by omega),List.length_append,List.length_singleton,show(2:Nat)^8=256 from rfl,Qxk _ _ _ (by omega),<-ih,e]
theorem Xlo{n p k:Nat}(h:8*k=n+p)(hp:p<8):p=Xfd n:=by
 unfold Xfd
 split<;>omega
theorem Qxi(M:List Int)(hM:∀z∈M,0<=z∧z<=255)(B:List Nat)(p:Nat)(h:Qgg M=B++List.replicate p 0)(hp:p<8):M=Qbw (Qk4 0 B) B.length:=by
 have h1:=Qnb M.length M rfl hM
 have h2:8*M.length=B.length+p:=by rw[<-Qhv,h];simp
 rw[h1,h,Qkq,List.length_replicate,Qw1,Nat.add_zero,h2,Xlo h2 hp]
 rfl
def Xhc(b:Bool):Nat:=if b then 1 else 0
theorem Xgu:∀(k:Nat) (bs:List Bool),bs.length=k->nB bs bs.length=Qk4 0 (bs.map Xhc)
 | 0,bs,h=>by
   obtain rfl:=List.length_eq_zero_iff.1 h
   rfl
 | k+1,bs,h=>by
   obtain⟨b',z,rfl⟩:∃M' z,bs=M'++ [z]:=⟨bs.dropLast,bs.getLast (by intro e;subst e;cases h),(List.dropLast_concat_getLast _).symm⟩
   have hl:b'.length=k:=by simpa using h
   have ih:=Xgu k b' hl
   rw[List.length_append,List.length_singleton,Xa7,ih,List.map_append,Qkq]
   simp[nB,Qk4,Xhc]
theorem Qkl(c:Nat):∀n,(Qct c n).map Xhc=low c n
 | 0=>rfl
 | n+1=>by
   have ih:=Qkl c n
   refine List.ext_getElem (by rw[List.length_map,Qbi,Qa2]) (fun i h1 h2=>?_)
   cases i with
   | zero=>simp[Qct,Qta,low,Xhc];split<;>omega
   | succ i=>
     have e:(low c n)[i]'(by rw[Qa2] at h2|-;omega)=((Qct c n).map Xhc)[i]'(by rw[List.length_map,Qbi];rw[Qa2] at h2;omega):=by
      simp only[ih]
     simp only[low,List.getElem_cons_succ]
     rw[e]
     simp only[List.getElem_map,Qct,List.getElem_range,Qta]
     rw[show n+1-1-(i+1)=n-1-i from by omega]
theorem Qyn(M:List Int)(hM:∀z∈M,0<=z∧z<=255)(bs:List Bool)(p:Nat)(h:Qgg M=bs.map Xhc++List.replicate p 0)(hp:p<8):M=Qbw (nB bs bs.length) bs.length:=by
 have:=Qxi M hM _ p h hp
 rwa[<-Xgu _ _ rfl,List.length_map] at this
end
/-
 What the document's reader finds at a place of the bits.
-/
section
open Hf
theorem Qvv(x:Nat):∀n i,i<n->(low x n).getD i 0=x/2^(n-1-i)%2
 | 0,_,h=>absurd h (Nat.not_lt_zero _)
 | n+1,0,_=>by simp[low]
 | n+1,i+1,h=>by
   rw[show(low x (n+1)).getD (i+1) 0=(low x n).getD i 0 from by simp[low,List.getD],Qvv x n i (by omega),show n+1-1-(i+1)=n-1-i from by omega]
theorem Quy:∀(b:List Int) (i:Nat),i<8*b.length->(Qgg b).getD i 0=Quk b i
 | [],i,h=>absurd h (by simp)
 | z::b,i,h=>by
   rw[show Qgg (z::b)=low z.toNat 8++Qgg b from rfl]
   by_cases h8:i<8
   ·rw[show(low z.toNat 8++Qgg b).getD i 0=(low z.toNat 8).getD i 0 from by simp[List.getD,List.getElem?_append_left (show i<(low z.toNat 8).length by rw[Qa2];exact h8)],Qvv _ _ _ h8]
    unfold Quk
    rw[show i/8=0 from by omega,show i%8=i from by omega,show 8-1-i=7-i from by omega]
    rfl
   ·rw[show(low z.toNat 8++Qgg b).getD i 0=(Qgg b).getD (i-8) 0 from by simp[List.getD,List.getElem?_append_right (show(low z.toNat 8).length<=i by rw[Qa2];omega),Qa2],Quy b (i-8) (by rw[List.length_cons] at h;omega)]
    unfold Quk
    rw[show i/8=(i-8)/8+1 from by omega,show(i-8)%8=i%8 from by omega]
    rfl
theorem Xbl(b:List Int)(at':Nat):∀l,at'+l<=8*b.length->vb b at' l=Qk4 0 (((Qgg b).drop at').take l)
 | 0,_=>by simp[vb,Qk4]
 | l+1,h=>by
   have hl:at'+l<(Qgg b).length:=by rw[Qhv];omega
   have e:((Qgg b).drop at').take (l+1)=((Qgg b).drop at').take l++ [(Qgg b).getD (at'+l) 0]:=by
    rw[List.take_succ_eq_append_getElem (by rw[List.length_drop];omega),List.getElem_drop]
    simp[List.getD,List.getElem?_eq_getElem hl]
   rw[e,Qkq,Quy _ _ (by omega),vb,Xbl b at' l (by omega)]
   simp[Qk4]
theorem Qqv(b:List Int)(at' c l:Nat)(r:List Nat)(h:(Qgg b).drop at'=low c l++r):at'+l<=8*b.length∨l=0:=by
 by_cases h0:l=0
 ·exact .inr h0
 ·have:=congrArg List.length h
  rw[List.length_drop,Qhv,List.length_append,Qa2] at this
  exact .inl (by omega)
theorem Xim(b:List Int)(at' c l:Nat)(r:List Nat)(h:(Qgg b).drop at'=low c l++r)(hc:c<2^l):vb b at' l=c:=by
 rcases Qqv b at' c l r h with h1 | h1
 ·rw[Xbl b at' l h1,h,show(low c l++r).take l=low c l from by
   have:=List.take_left (l₁:=low c l) (l₂:=r)
   rwa[Qa2] at this,Qkp,Nat.mod_eq_of_lt hc]
 ·subst h1
  have:c=0:=by simpa using hc
  rw[this];rfl
theorem Qto(zs b:List Int)(hc:Qal zs=true)(at' s L:Nat)(r:List Nat)(hs:s<zs.length)(hz:zs.getD s 0=(L:Int))(h0:0<L)(hL:L<=15)(h:(Qgg b).drop at'=low (Qbt zs s) L++r):Qed zs b at'=((s:Int),(L:Int)):=by
 have hlt:=Qi4 hc s L hs hz h0 hL
 refine Xf7 zs b at' s L hs hz (by omega) h0 ?_ (Xim b at' _ _ r h hlt)
 rcases Qqv b at' _ _ r h with h1 | h1
 ·exact h1
 ·omega
theorem Qkx(b:List Int)(at' c l:Nat)(r:List Nat)(h:(Qgg b).drop at'=low c l++r):(Qgg b).drop (at'+l)=r:=by
 rw[<-List.drop_drop,h]
 have:=List.drop_left (l₁:=low c l) (l₂:=r)
 rwa[Qa2] at this
end
end Go.Proofs.YtibjlbcnapoblaaGreatDoor
