/-
 Plain facts on rows of bits, and how they stand in bytes.
-/
import Derived.Test.YtibjlbcnapoblaaGreatDoorPart00
import Derived.Test.YtibjlbcnapoblaaGreatDoorPart01
import Derived.Laws.BitsAllLaws
namespace Go.Proofs.YtibjlbcnapoblaaGreatDoor
set_option maxRecDepth 100000
set_option maxHeartbeats 6400000
section
namespace Hf
def nB(bs:List Bool):Nat->Nat
 | 0=>0
 | k+1=>nB bs k*2+(if bs.getD k false then 1 else 0)
def Qsb(c n i:Nat):Bool:=c/2^(n-1-i)%2==1
def Qcv(c n:Nat):List Bool:=(List.range n).map (Qsb c n)
theorem Qbg(c n:Nat):(Qcv c n).length=n:=by simp[Qcv]
theorem Qv7(c n i:Nat)(h:i<n):(Qcv c n).getD i false=Qsb c n i:=by simp[Qcv,List.getD,h]
def Qi0(c n j:Nat):List Bool:=(List.range n).map (fun i=>if n-j<=i then Qsb c n i else false)
theorem Qd3(c n j:Nat):(Qi0 c n j).length=n:=by simp[Qi0]
theorem Qgn(c n j i:Nat)(h:i<n):(Qi0 c n j).getD i false=if n-j<=i then Qsb c n i else false:=by simp[Qi0,List.getD,h]
theorem Xap{l m:List Bool}(h:l.length=m.length)(he:∀i,i<l.length->l.getD i false=m.getD i false):l=m:=by
 refine List.ext_getElem h (fun i h1 h2=>?_)
 have:=he i h1
 simpa [List.getD,List.getElem?_eq_getElem h1,List.getElem?_eq_getElem h2] using this
theorem Xao(l:List Bool)(i j:Nat)(v:Bool)(h:i<l.length):(l.set i v).getD j false=if j=i then v else l.getD j false:=by
 simp only[List.getD,List.getElem?_set]
 by_cases e:i=j
 ·subst e;simp[h]
 ·rw[if_neg e,if_neg (fun x=>e x.symm)]
theorem Qwa(c n:Nat):Qi0 c n 0=List.replicate n false:=by
 refine Xap (by simp[Qi0]) (fun i hi=>?_)
 rw[Qd3] at hi
 rw[Qgn _ _ _ _ hi,if_neg (by omega)]
 simp[List.getD,hi]
theorem Qws(c n:Nat):Qi0 c n n=Qcv c n:=by
 refine Xap (by simp[Qi0,Qcv]) (fun i hi=>?_)
 rw[Qd3] at hi
 rw[Qgn _ _ _ _ hi,Qv7 _ _ _ hi,if_pos (by omega)]
theorem Xa8(c n j:Nat)(hj:j<n):(Qi0 c n j).set (n-1-j) (c/2^j%2==1)=Qi0 c n (j+1):=by
 refine Xap (by simp[Qi0]) (fun i hi=>?_)
 rw[List.length_set,Qd3] at hi
 rw[Xao _ _ _ _ (by rw[Qd3];omega),Qgn _ _ _ _ hi,Qgn _ _ _ _ hi]
 by_cases e:i=n-1-j
 ·rw[if_pos e,if_pos (by omega)]
  unfold Qsb
  rw[show n-1-i=j from by omega]
 ·rw[if_neg e]
  by_cases h:n-j<=i
  ·rw[if_pos h,if_pos (by omega)]
  ·rw[if_neg h,if_neg (by omega)]
theorem Xgz(xs ys:List Bool)(j:Nat)(hj:j<=xs.length):nB (xs++ys) j=nB xs j:=by
 induction j with
 | zero=>rfl
 | succ j ih=>
   rw[nB,nB,ih (by omega)]
   have e:(xs++ys).getD j false=xs.getD j false:=by simp[List.getD,List.getElem?_append_left (show j<xs.length from by omega)]
   rw[e]
theorem Qyl(xs ys:List Bool)(j:Nat):nB (xs++ys) (xs.length+j)=nB xs xs.length*2^j+nB ys j:=by
 induction j with
 | zero=>simp[nB,Xgz xs ys xs.length (Nat.le_refl _)]
 | succ j ih=>
   rw[<-Nat.add_assoc,nB,ih]
   have e:(xs++ys).getD (xs.length+j) false=ys.getD j false:=by simp[List.getD,List.getElem?_append_right (show xs.length<=xs.length+j from by omega)]
   rw[e,nB,Nat.pow_succ,Nat.add_mul,Nat.mul_assoc]
   omega
theorem Xh9(i:Nat):padN (i+1)=7-i%8:=by
 unfold padN;split<;>omega
theorem Qjs(M i:Nat):Qby M (i+1)=Qep (M*2^(7-i%8)) (8*(i/8+1)):=by
 unfold Qby
 rw[Xh9,show i+1+(7-i%8)=8*(i/8+1) from by omega]
theorem Qoa(N i:Nat)(h:i%8≠0):Qby (N*2) (i+1)=Qby N i:=by
 rw[Qjs]
 unfold Qby padN
 rw[if_neg h,show i+(8-i%8)=8*(i/8+1) from by omega,Nat.mul_assoc,show 2*2^(7-i%8)=2^(8-i%8) from by rw[show 8-i%8=(7-i%8)+1 from by omega,Nat.pow_succ];omega]
theorem Qzx(N q:Nat):Qep (N*256) (8*(q+1))=Qep N (8*q)++ [0]:=by
 refine Qos (by rw[List.length_append,Qa8,Qa8];simp) (fun j hj=>?_)
 rw[Qa8] at hj
 have hq:8*(q+1)/8=q+1:=by omega
 have hq2:8*q/8=q:=by omega
 rw[hq] at hj
 rw[Qc6 _ _ _ (by omega)]
 by_cases h:j<q
 ·have e:(Qep N (8*q)++ [0]).getD j 0=(Qep N (8*q)).getD j 0:=by
   simp[List.getD,List.getElem?_append_left (show j<(Qep N (8*q)).length from by rw[Qa8];omega)]
  rw[e,Qc6 _ _ _ (by omega)]
  have hd:=Qx8 N 0 8 (8*q-8*(j+1)) (by decide)
  rw[Nat.add_zero,show 8*q-8*(j+1)+8=8*(q+1)-8*(j+1) from by omega] at hd
  rw[show(256:Nat)=2^8 from rfl,hd]
 ·obtain rfl:j=q:=by omega
  have e:(Qep N (8*j)++ [0]).getD j 0=0:=by
   simp[List.getD,Qa8,hq2]
  rw[e,Nat.sub_self,Nat.pow_zero,Nat.div_one,Nat.mul_mod_left]
  rfl
theorem Qno(N i:Nat)(h:i%8=0):Qby (N*2) (i+1)=Qby N i++ [0]:=by
 rw[Qjs,h,Nat.mul_assoc,show 2*2^(7-0)=256 from rfl,Qzx]
 unfold Qby padN
 rw[if_pos h,Nat.pow_zero,Nat.mul_one,Nat.add_zero,show 8*(i/8)=i from by omega]
theorem Qxe(N k:Nat)(hk:k<8):(N*2+1)*2^(7-k)%256=N*2*2^(7-k)%256+2^(7-k):=by
 match k,hk with
 | 0,_=>omega
 | 1,_=>omega
 | 2,_=>omega
 | 3,_=>omega
 | 4,_=>omega
 | 5,_=>omega
 | 6,_=>omega
 | 7,_=>omega
theorem Qz6(N k e:Nat)(hk:k<8):(N*2+1)*2^(7-k)/2^(e+8)=N*2*2^(7-k)/2^(e+8):=by
 have e2:2^(8-k)=2*2^(7-k):=by rw[show 8-k=(7-k)+1 from by omega,Nat.pow_succ];omega
 have e1:(N*2+1)*2^(7-k)=N*2^(8-k)+2^(7-k):=by rw[Nat.add_mul,e2,Nat.mul_assoc];omega
 have e3:N*2*2^(7-k)=N*2^(8-k)+0:=by rw[e2,Nat.mul_assoc];omega
 rw[e1,e3,show e+8=(e+k)+(8-k) from by omega,Qx8 _ _ _ _ (by rw[e2];have:=Nat.two_pow_pos (7-k);omega),Qx8 _ _ _ _ (Nat.two_pow_pos _)]
theorem Qj2(N i:Nat):Qby (N*2+1) (i+1)=(Qby (N*2) (i+1)).set (i/8) ((Qby (N*2) (i+1)).getD (i/8) 0+((2^(7-i%8):Nat):Int)):=by
 have hq:8*(i/8+1)/8=i/8+1:=by omega
 refine Qos (by rw[List.length_set,Qbr,Qbr]) (fun j hj=>?_)
 rw[Qbr] at hj
 have hset:∀(l:List Int) (a b:Nat) (v:Int),a<l.length->(l.set a v).getD b 0=if b=a then v else l.getD b 0:=by
  intro l a b v h
  simp only[List.getD,List.getElem?_set]
  by_cases e:a=b
  ·subst e;simp[h]
  ·rw[if_neg e,if_neg (fun x=>e x.symm)]
 rw[hset _ _ _ _ (by rw[Qbr];omega),Qjs,Qjs,Qc6 _ _ _ (by omega),Qc6 _ _ _ (by omega),Qc6 _ _ _ (by omega)]
 by_cases e:j=i/8
 ·rw[if_pos e,e,Nat.sub_self,Nat.pow_zero,Nat.div_one,Nat.div_one,Qxe N (i%8) (by omega)]
  simp
 ·rw[if_neg e]
  have hh:=Qz6 N (i%8) (8*(i/8+1)-8*(j+1)-8) (by omega)
  rw[show 8*(i/8+1)-8*(j+1)-8+8=8*(i/8+1)-8*(j+1) from by omega] at hh
  rw[hh]
end Hf
end
/-
 Plain facts on how deep the symbols are, by the nodes that nodes stand in.
-/
section
namespace Hf
def dvF(N:Nodes):Nat->Nat->Int
 | 0,_=>0
 | f+1,i=>if i+1<N.length then dvF N f (inn N i).toNat+1 else 0
def dv(N:Nodes)(i:Nat):Int:=dvF N N.length i
def Ups(N:Nodes):Prop:=∀i,i+1<N.length->(i:Int)<inn N i∧inn N i<(N.length:Int)
theorem Qt6{N:Nodes}(h:Ups N):∀(f g i:Nat),N.length<=f+i+1->N.length<=g+i+1->dvF N f i=dvF N g i
 | 0,0,_,_,_=>rfl
 | 0,g+1,i,h1,_=>by rw[dvF,dvF,if_neg (by omega)]
 | f+1,0,i,_,h2=>by rw[dvF,dvF,if_neg (by omega)]
 | f+1,g+1,i,h1,h2=>by
   rw[dvF,dvF]
   by_cases hi:i+1<N.length
   ·rw[if_pos hi,if_pos hi]
    have hu:=h i hi
    rw[Qt6 h f g _ (by omega) (by omega)]
   ·rw[if_neg hi,if_neg hi]
theorem Qim{N:Nodes}(h:Ups N)(i:Nat)(hi:i+1<N.length):dv N i=dv N (inn N i).toNat+1:=by
 have hu:=h i hi
 unfold dv
 obtain⟨m,hm⟩:∃m,N.length=m+1:=⟨N.length-1,by omega⟩
 conv=>lhs;rw[hm,dvF,if_pos hi]
 rw[Qt6 h m N.length _ (by omega) (by omega)]
theorem Qlu(N:Nodes)(i:Nat)(hi:¬i+1<N.length):dv N i=0:=by
 unfold dv
 cases hN:N.length with
 | zero=>rfl
 | succ m=>rw[dvF,if_neg (by omega)]
theorem Qx9(N:Nodes):∀(f i:Nat),0<=dvF N f i∧dvF N f i<=(f:Int)
 | 0,_=>by simp[dvF]
 | f+1,i=>by
   rw[dvF]
   have:=Qx9 N f (inn N i).toNat
   split<;>omega
theorem Qm3(N:Nodes)(i:Nat):0<=dv N i∧dv N i<=(N.length:Int):=Qx9 N _ i
def Qb2(N:Nodes)(j:Nat):List Int:=(List.range N.length).map (fun i=>if j<=i then dv N i else 0)
theorem Qcr(N:Nodes)(j:Nat):(Qb2 N j).length=N.length:=by simp[Qb2]
theorem Qc2(N:Nodes)(j i:Nat)(h:i<N.length):(Qb2 N j).getD i 0=if j<=i then dv N i else 0:=by
 simp[Qb2,List.getD,h]
theorem Qmp{l m:List Int}(h:l.length=m.length)(he:∀i,i<l.length->l.getD i 0=m.getD i 0):l=m:=by
 refine List.ext_getElem h (fun i h1 h2=>?_)
 have:=he i h1
 simpa [List.getD,List.getElem?_eq_getElem h1,List.getElem?_eq_getElem h2] using this
theorem Qoq(N:Nodes)(j:Nat)(hj:N.length<=j+1):Qb2 N j=List.replicate N.length 0:=by
 refine Qmp (by simp[Qb2]) (fun i hi=>?_)
 rw[Qcr] at hi
 rw[Qc2 _ _ _ hi]
 have e:(List.replicate N.length (0:Int)).getD i 0=0:=by simp[List.getD,hi]
 rw[e]
 split
 ·exact Qlu N i (by omega)
 ·rfl
theorem Qwx{N:Nodes}(h:Ups N)(j:Nat)(hj:j+1<N.length):(Qb2 N (j+1)).set j (dv N (inn N j).toNat+1)=Qb2 N j:=by
 refine Qmp (by simp[Qb2]) (fun i hi=>?_)
 rw[List.length_set,Qcr] at hi
 rw[Qb8 _ _ _ _ (by rw[Qcr];omega),Qc2 _ _ _ hi,Qc2 _ _ _ hi]
 by_cases e:i=j
 ·subst e;rw[if_pos rfl,if_pos (Nat.le_refl _),Qim h i hj]
 ·rw[if_neg e]
  by_cases h2:j<=i
  ·rw[if_pos (by omega),if_pos h2]
  ·rw[if_neg (by omega),if_neg h2]
def outL(m:Nat)(sy:List Int)(B:List Int):Nat->List Int
 | 0=>List.replicate m 0
 | k+1=>(outL m sy B k).set (sy.getD k 0).toNat (B.getD k 0)
theorem Qb5(m:Nat)(sy B:List Int)(k:Nat):(outL m sy B k).length=m:=by
 induction k with
 | zero=>simp[outL]
 | succ k ih=>rw[outL,List.length_set,ih]
def Qaf(cs:List Int):List Int:=
 if (srt cs).length=1 then (List.replicate cs.length 0).set ((srt cs).getD 0 0).toNat 1
 else outL cs.length (srt cs) (Qb2 (Qae ((srt cs).map (key cs)) ((srt cs).length-1)).N 0) (srt cs).length
theorem Qkb(ws:List Int)(h:∀i,0<=ws.getD i 0)(hn:2<=ws.length):Ups (Qae ws (ws.length-1)).N∧(Qae ws (ws.length-1)).N.length=2*ws.length-1:=by
 have hI:=TI.run ws h (ws.length-1) (by omega)
 have hl:=hI.len
 refine⟨fun i hi=>?_,by omega⟩
 have h1:=hI.ln
 have h2:=hI.np
 have h3:=hI.cnt
 have h4:=hI.last (by omega)
 have:=hI.par i (by omega)
 rw[hl]
 exact this
end Hf
end
/-
 Plain facts: the depths of a tree of counts fill a code, and the tree of weights of 1 and 2 is not deep.
-/
section
namespace Hf
def sumG(g:Nat->Int):Nat->Nat->Int
 | _,0=>0
 | i,k+1=>g i+sumG g (i+1) k
theorem Qlh(g:Nat->Int):∀(k i:Nat),sumG g i (k+1)=sumG g i k+g (i+k)
 | 0,i=>by simp[sumG]
 | k+1,i=>by
   rw[sumG,Qlh g k (i+1),sumG]
   rw[show i+1+k=i+(k+1) from by omega]
   omega
def Qkk(n len:Nat)(g:Nat->Int)(l p:Nat):Int:=sumG g l (n-l)+sumG g p (len-p)
theorem Qm8(g:Nat->Int){n:Nat}{N:Nodes}{l p:Nat}(ln:l<=n)(np:n<=p)(pl:p<=N.length)(hfree:0<(n-l)+(N.length-p)):
 Qkk n N.length g l p=g (takeA n N l p)+Qkk n N.length g (Qay n N l p) (Qax n N l p):=by
 obtain⟨_,_,_,_,_,_,h⟩:=take_one (n:=n) (N:=N) (l:=l) (p:=p) ln np pl hfree
 unfold Qkk
 rcases h with ⟨h1,h2,h3,h4⟩ | ⟨h1,h2,h3,h4⟩
 ·rw[h1,h3,h4,show n-l=(n-(l+1))+1 from by omega,sumG];omega
 ·rw[h1,h3,h4,show N.length-p=(N.length-(p+1))+1 from by omega,sumG];omega
theorem Qfr{n:Nat}{C:Int}{t:Nat}{s:TS}(h:TI n C t s)(ht:t+2<=n):
 (∀i,(i<s.l∨(n<=i∧i<s.p))->inn (Qca n s).N i=inn s.N i)∧inn (Qca n s).N (oneA n s)=(s.N.length:Int)∧inn (Qca n s).N (oneB n s)=(s.N.length:Int) ∧
 (∀i,i<s.N.length->wt (Qca n s).N i=wt s.N i)∧wt (Qca n s).N s.N.length=wt s.N (oneA n s)+wt s.N (oneB n s):=by
 have hlen:=h.len
 have hln:=h.ln
 have hnp:=h.np
 have hpl:=h.pl
 have hcnt:=h.cnt
 obtain⟨a1,a2,a3,a4,a5,_,a7⟩:=take_one (n:=n) (N:=s.N) (l:=s.l) (p:=s.p) h.ln h.np (by omega) (by omega)
 obtain⟨b1,b2,b3,b4,b5,_,b7⟩:=take_one (n:=n) (N:=s.N) (l:=Qay n s.N s.l s.p) (p:=Qax n s.N s.l s.p) a2 a3 a4 (by omega)
 have hA:oneA n s=takeA n s.N s.l s.p:=rfl
 have hB:oneB n s=takeA n s.N (Qay n s.N s.l s.p) (Qax n s.N s.l s.p):=rfl
 rw[<-hA] at a1 a7
 rw[<-hB] at b1 b7
 have hN2:(Qca n s).N=Qcc (Qcc s.N (oneA n s) (s.N.length:Int)) (oneB n s) (s.N.length:Int)++ [(wt s.N (oneA n s)+wt s.N (oneB n s),0)]:=rfl
 generalize oneA n s=A at *
 generalize oneB n s=B at *
 generalize Qay n s.N s.l s.p=l1 at *
 generalize Qax n s.N s.l s.p=p1 at *
 have hM:(Qcc (Qcc s.N A (s.N.length:Int)) B (s.N.length:Int)).length=s.N.length:=by rw[Qbk,Qbk]
 have hin:∀i,i<s.N.length->inn (Qca n s).N i=if i=B then (s.N.length:Int) else if i=A then (s.N.length:Int) else inn s.N i:=fun i hi=>by
  rw[hN2,Qw7 _ _ _ (by rw[hM];exact hi),Qh7 _ _ _ _ (by rw[Qbk];exact b1),Qh7 _ _ _ _ a1]
 refine⟨fun i hi=>?_,?_,?_,fun j hj=>?_,?_⟩
 ·rw[hin i (by omega),if_neg (by omega),if_neg (by omega)]
 ·rw[hin A a1]
  by_cases e:A=B
  ·rw[if_pos e]
  ·rw[if_neg e,if_pos rfl]
 ·rw[hin B b1,if_pos rfl]
 ·rw[hN2,Xa3 _ _ _ (by rw[hM];exact hj),Qev,Qev]
 ·rw[hN2]
  have:=Qxo (Qcc (Qcc s.N A (s.N.length:Int)) B (s.N.length:Int)) (wt s.N A+wt s.N B,0)
  rw[hM] at this
  exact this
theorem Qyk(ws:List Int)(h:∀i,0<=ws.getD i 0):∀(k t:Nat),t+k+1=ws.length->∀i,(i<(Qae ws t).l∨(ws.length<=i∧i<(Qae ws t).p))->inn (Qae ws (ws.length-1)).N i=inn (Qae ws t).N i
 | 0,t,ht,i,_=>by rw[show ws.length-1=t from by omega]
 | k+1,t,ht,i,hi=>by
   have hI:=TI.run ws h t (by omega)
   have hs:=Qfr hI (by omega)
   obtain⟨a1,a2,a3,a4,a5,_,a7⟩:=take_one (n:=ws.length) (N:=(Qae ws t).N) (l:=(Qae ws t).l) (p:=(Qae ws t).p) hI.ln hI.np (by rw[hI.len];exact hI.pl) (by have:=hI.len;have:=hI.cnt;have:=hI.ln;have:=hI.pl;omega)
   obtain⟨b1,b2,b3,b4,b5,_,b7⟩:=take_one (n:=ws.length) (N:=(Qae ws t).N) (l:=Qay ws.length (Qae ws t).N (Qae ws t).l (Qae ws t).p) (p:=Qax ws.length (Qae ws t).N (Qae ws t).l (Qae ws t).p) a2 a3 a4 (by have:=hI.len;have:=hI.cnt;have:=hI.ln;have:=hI.pl;omega)
   have e1:(Qae ws (t+1)).l=Qay ws.length (Qae ws t).N (Qay ws.length (Qae ws t).N (Qae ws t).l (Qae ws t).p) (Qax ws.length (Qae ws t).N (Qae ws t).l (Qae ws t).p):=rfl
   have e2:(Qae ws (t+1)).p=Qax ws.length (Qae ws t).N (Qay ws.length (Qae ws t).N (Qae ws t).l (Qae ws t).p) (Qax ws.length (Qae ws t).N (Qae ws t).l (Qae ws t).p):=rfl
   rw[Qyk ws h k (t+1) (by omega) i (by rw[e1,e2];omega)]
   exact hs.1 i hi
theorem Xb3(ws:List Int)(h:∀i,0<=ws.getD i 0)(t:Nat)(ht:t+2<=ws.length)(g:Nat->Int):
 ∃A B,Qkk ws.length (ws.length+t) g (Qae ws t).l (Qae ws t).p+g (ws.length+t)=g A+g B+Qkk ws.length (ws.length+(t+1)) g (Qae ws (t+1)).l (Qae ws (t+1)).p ∧
  inn (Qae ws (ws.length-1)).N A=((ws.length+t:Nat):Int)∧inn (Qae ws (ws.length-1)).N B=((ws.length+t:Nat):Int)∧A<ws.length+t∧B<ws.length+t:=by
 have hI:=TI.run ws h t (by omega)
 have hs:=Qfr hI (by omega)
 have hlen:=hI.len
 obtain⟨a1,a2,a3,a4,a5,_,a7⟩:=take_one (n:=ws.length) (N:=(Qae ws t).N) (l:=(Qae ws t).l) (p:=(Qae ws t).p) hI.ln hI.np (by rw[hI.len];exact hI.pl) (by have:=hI.cnt;have:=hI.ln;have:=hI.pl;omega)
 have hf1:=Qm8 g (n:=ws.length) (N:=(Qae ws t).N) (l:=(Qae ws t).l) (p:=(Qae ws t).p) hI.ln hI.np (by rw[hI.len];exact hI.pl) (by have:=hI.cnt;have:=hI.ln;have:=hI.pl;omega)
 obtain⟨b1,b2,b3,b4,b5,_,b7⟩:=take_one (n:=ws.length) (N:=(Qae ws t).N) (l:=Qay ws.length (Qae ws t).N (Qae ws t).l (Qae ws t).p) (p:=Qax ws.length (Qae ws t).N (Qae ws t).l (Qae ws t).p) a2 a3 a4 (by have:=hI.cnt;have:=hI.ln;have:=hI.pl;omega)
 have hf2:=Qm8 g (n:=ws.length) (N:=(Qae ws t).N) (l:=Qay ws.length (Qae ws t).N (Qae ws t).l (Qae ws t).p) (p:=Qax ws.length (Qae ws t).N (Qae ws t).l (Qae ws t).p) a2 a3 a4 (by have:=hI.cnt;have:=hI.ln;have:=hI.pl;omega)
 have e1:(Qae ws (t+1)).l=Qay ws.length (Qae ws t).N (Qay ws.length (Qae ws t).N (Qae ws t).l (Qae ws t).p) (Qax ws.length (Qae ws t).N (Qae ws t).l (Qae ws t).p):=rfl
 have e2:(Qae ws (t+1)).p=Qax ws.length (Qae ws t).N (Qay ws.length (Qae ws t).N (Qae ws t).l (Qae ws t).p) (Qax ws.length (Qae ws t).N (Qae ws t).l (Qae ws t).p):=rfl
 have hA:oneA ws.length (Qae ws t)=takeA ws.length (Qae ws t).N (Qae ws t).l (Qae ws t).p:=rfl
 have hB:oneB ws.length (Qae ws t)=takeA ws.length (Qae ws t).N (Qay ws.length (Qae ws t).N (Qae ws t).l (Qae ws t).p) (Qax ws.length (Qae ws t).N (Qae ws t).l (Qae ws t).p):=rfl
 rw[<-hA] at hf1 a1 a7
 rw[<-hB] at hf2 b1 b7
 rw[<-e1,<-e2] at hf2
 rw[<-e2] at b3 b4
 rw[<-e1,<-e2] at b7
 rw[hlen] at hf1 hf2 a1 b1 b4 b7
 have hend:=Qyk ws h (ws.length-1-(t+1)) (t+1) (by omega)
 have tA:oneA ws.length (Qae ws t)<(Qae ws (t+1)).l∨(ws.length<=oneA ws.length (Qae ws t)∧oneA ws.length (Qae ws t)<(Qae ws (t+1)).p):=by
  have h1:=hI.np
  clear hs hf1 hf2 hend e1 e2 hA hB
  generalize oneA ws.length (Qae ws t)=A at *
  generalize oneB ws.length (Qae ws t)=B at *
  generalize Qay ws.length (Qae ws t).N (Qae ws t).l (Qae ws t).p=l1 at *
  generalize Qax ws.length (Qae ws t).N (Qae ws t).l (Qae ws t).p=p1 at *
  omega
 have tB:oneB ws.length (Qae ws t)<(Qae ws (t+1)).l∨(ws.length<=oneB ws.length (Qae ws t)∧oneB ws.length (Qae ws t)<(Qae ws (t+1)).p):=by
  have h1:=hI.np
  clear hs hf1 hf2 hend e1 e2 hA hB
  generalize oneA ws.length (Qae ws t)=A at *
  generalize oneB ws.length (Qae ws t)=B at *
  generalize Qay ws.length (Qae ws t).N (Qae ws t).l (Qae ws t).p=l1 at *
  generalize Qax ws.length (Qae ws t).N (Qae ws t).l (Qae ws t).p=p1 at *
  omega
 refine⟨oneA ws.length (Qae ws t),oneB ws.length (Qae ws t),?_,?_,?_,a1,b1⟩
 ·have e3:Qkk ws.length (ws.length+(t+1)) g (Qae ws (t+1)).l (Qae ws (t+1)).p=Qkk ws.length (ws.length+t) g (Qae ws (t+1)).l (Qae ws (t+1)).p+g (ws.length+t):=by
   unfold Qkk
   rw[show ws.length+(t+1)-(Qae ws (t+1)).p=(ws.length+t-(Qae ws (t+1)).p)+1 from by omega,Qlh,show(Qae ws (t+1)).p+(ws.length+t-(Qae ws (t+1)).p)=ws.length+t from by omega]
   omega
  rw[e3,hf1,hf2];omega
 ·have:=hs.2.1
  rw[hlen] at this
  rw[hend (oneA ws.length (Qae ws t)) tA]
  exact this
 ·have:=hs.2.2.1
  rw[hlen] at this
  rw[hend (oneB ws.length (Qae ws t)) tB]
  exact this
def shr(M:Nat)(N:Nodes)(i:Nat):Int:=2^(M-(dv N i).toNat)
theorem Qqf{N:Nodes}(hu:Ups N)(M i:Nat)(hi:i+1<N.length)(hM:N.length<=M):shr M N (inn N i).toNat=2*shr M N i:=by
 have h1:=Qim hu i hi
 have h2:=Qm3 N i
 have h3:=Qm3 N (inn N i).toNat
 unfold shr
 rw[show M-(dv N (inn N i).toNat).toNat=(M-(dv N i).toNat)+1 from by omega,Int.pow_succ]
 omega
theorem Qv4(ws:List Int)(h:∀i,0<=ws.getD i 0)(hn:2<=ws.length)(M:Nat)(hM:2*ws.length<=M):∀(k t:Nat),t+k+1=ws.length->Qkk ws.length (ws.length+t) (shr M (Qae ws (ws.length-1)).N) (Qae ws t).l (Qae ws t).p=2^M:=by
 obtain⟨hu,hl⟩:=Qkb ws h hn
 intro k
 induction k with
 | zero=>
   intro t ht
   have hI:=TI.run ws h t (by omega)
   have h1:=hI.ln
   have h2:=hI.np
   have h3:=hI.pl
   have h4:=hI.cnt
   have h5:=hI.last (by omega)
   unfold Qkk
   rw[show ws.length-(Qae ws t).l=0 from by omega,show ws.length+t-(Qae ws t).p=1 from by omega]
   rw[sumG,sumG,sumG]
   unfold shr
   rw[Qlu _ _ (by rw[hl];omega)]
   simp
 | succ k ih=>
   intro t ht
   obtain⟨A,B,e,hA,hB,lA,lB⟩:=Xb3 ws h t (by omega) (shr M (Qae ws (ws.length-1)).N)
   rw[ih (t+1) (by omega)] at e
   have cA:=Qqf hu M A (by rw[hl];omega) (by rw[hl];omega)
   have cB:=Qqf hu M B (by rw[hl];omega) (by rw[hl];omega)
   rw[hA,Int.toNat_natCast] at cA
   rw[hB,Int.toNat_natCast] at cB
   omega
theorem Xjo(ws:List Int)(h:∀i,0<=ws.getD i 0)(hn:2<=ws.length)(M:Nat)(hM:2*ws.length<=M):sumG (shr M (Qae ws (ws.length-1)).N) 0 ws.length=2^M:=by
 have:=Qv4 ws h hn M hM (ws.length-1) 0 (by omega)
 unfold Qkk at this
 have e1:(Qae ws 0).l=0:=rfl
 have e2:(Qae ws 0).p=ws.length:=rfl
 rw[e1,e2,Nat.sub_zero,Nat.add_zero,Nat.sub_self,sumG] at this
 omega
end Hf
end
/-
 Plain facts: a tree of at most 512 weights of 1 and 2 is at most 15 deep.
-/
section
namespace Hf
theorem Qju{n:Nat}{N:Nodes}{l p:Nat}(hl:∀i j,i<=j->j<n->wt N i<=wt N j)(hp:∀i j,n<=i->i<=j->j<N.length->wt N i<=wt N j)(np:n<=p):
 ∀j,((l<=j∧j<n)∨(p<=j∧j<N.length))->wt N (takeA n N l p)<=wt N j:=by
 intro j hj
 unfold takeA
 cases hu:Qb4 n N l p with
 | true=>
   unfold Qb4 at hu
   rw[Bool.or_eq_true,beq_iff_eq,Bool.and_eq_true,decide_eq_true_eq,decide_eq_true_eq] at hu
   simp only[if_true]
   rcases hj with hj | hj
   ·exact hl l j hj.1 hj.2
   ·rcases hu with hu | hu
    ·omega
    ·have:=hp p j np hj.1 hj.2;omega
 | false=>
   unfold Qb4 at hu
   rw[Bool.or_eq_false_iff,Bool.and_eq_false_iff,decide_eq_false_iff_not,decide_eq_false_iff_not] at hu
   simp only[Bool.false_eq_true,if_false]
   rcases hj with hj | hj
   ·have:=hl l j hj.1 hj.2
    have h2:¬wt N l<=wt N p:=by
     rcases hu.2 with h | h
     ·omega
     ·exact h
    omega
   ·exact hp p j np hj.1 hj.2
structure NI (n t:Nat) (s:TS):Prop where
 leaf:∀i j,i<=j->j<n->wt s.N i<=wt s.N j
 pair:∀i j,n<=i->i<=j->j<n+t->wt s.N i<=wt s.N j
 pos:∀i,i<n+t->1<=wt s.N i
 near:∀i j,((s.l<=i∧i<n)∨(s.p<=i∧i<n+t))->((s.l<=j∧j<n)∨(s.p<=j∧j<n+t))->wt s.N i<=2*wt s.N j
 up:∀i,(i<s.l∨(n<=i∧i<s.p))->3*wt s.N i<=2*wt s.N (inn s.N i).toNat
 low:∀i j,(i<s.l∨(n<=i∧i<s.p))->((s.l<=j∧j<n)∨(s.p<=j∧j<n+t))->wt s.N i<=wt s.N j
 up2:∀i,(i<s.l∨(n<=i∧i<s.p))->((inn s.N i).toNat<s.l∨(n<=(inn s.N i).toNat∧(inn s.N i).toNat<s.p))->5*wt s.N i<=2*wt s.N (inn s.N (inn s.N i).toNat).toNat
theorem NI.step{n:Nat}{C:Int}{t:Nat}{s:TS}(h:TI n C t s)(hN:NI n t s)(ht:t+2<=n):NI n (t+1) (Qca n s):=by
 have hlen:=h.len
 have hln:=h.ln
 have hnp:=h.np
 have hpl:=h.pl
 have hcnt:=h.cnt
 have hlast:=h.last
 obtain⟨s1,s2,s3,s4,s5⟩:=Qfr h ht
 obtain⟨a1,a2,a3,a4,a5,_,a7⟩:=take_one (n:=n) (N:=s.N) (l:=s.l) (p:=s.p) h.ln h.np (by omega) (by omega)
 obtain⟨b1,b2,b3,b4,b5,_,b7⟩:=take_one (n:=n) (N:=s.N) (l:=Qay n s.N s.l s.p) (p:=Qax n s.N s.l s.p) a2 a3 a4 (by omega)
 have m1:=Qju (n:=n) (N:=s.N) (l:=s.l) (p:=s.p) hN.leaf (by rw[hlen];exact hN.pair) h.np
 have m2:=Qju (n:=n) (N:=s.N) (l:=Qay n s.N s.l s.p) (p:=Qax n s.N s.l s.p) hN.leaf (by rw[hlen];exact hN.pair) a3
 have hA:oneA n s=takeA n s.N s.l s.p:=rfl
 have hB:oneB n s=takeA n s.N (Qay n s.N s.l s.p) (Qax n s.N s.l s.p):=rfl
 rw[<-hA] at a1 a7 m1
 rw[<-hB] at b1 b7 m2
 have hl2:(Qca n s).l=Qay n s.N (Qay n s.N s.l s.p) (Qax n s.N s.l s.p):=rfl
 have hp2:(Qca n s).p=Qax n s.N (Qay n s.N s.l s.p) (Qax n s.N s.l s.p):=rfl
 rw[<-hl2,<-hp2] at b5 b7
 rw[<-hl2] at b2
 rw[<-hp2] at b3 b4
 rw[hlen] at a1 a4 a7 b1 b4 b7 m1 m2 s2 s3 s4 s5
 have hpar:=h.par
 have hnear:=hN.near
 clear hA hB hl2 hp2
 generalize oneA n s=A at *
 generalize oneB n s=B at *
 generalize Qay n s.N s.l s.p=l1 at *
 generalize Qax n s.N s.l s.p=p1 at *
 have fA:(s.l<=A∧A<n)∨(s.p<=A∧A<n+t):=by omega
 have fB:(s.l<=B∧B<n)∨(s.p<=B∧B<n+t):=by omega
 have hab:=m1 B fB
 have nAB:=hnear A B fA fB
 have nBA:=hnear B A fB fA
 have pA:=hN.pos A a1
 have pB:=hN.pos B b1
 refine⟨fun i j e1 e2=>?_,fun i j e1 e2 e3=>?_,fun i e1=>?_,fun i j e1 e2=>?_,fun i e1=>?_,fun i j e1 e2=>?_,fun i e1 e2=>?_⟩
 ·rw[s4 i (by omega),s4 j (by omega)];exact hN.leaf i j e1 e2
 ·by_cases c1:j<n+t
  ·rw[s4 i (by omega),s4 j c1];exact hN.pair i j e1 e2 c1
  ·obtain rfl:j=n+t:=by omega
   by_cases c2:i=n+t
   ·rw[c2];omega
   ·rw[s4 i (by omega),s5]
    have h1:=hN.pair i (n+t-1) e1 (by omega) (by omega)
    have h2:=hnear (n+t-1) A (by have:=hlast (by omega);omega) fA
    omega
 ·by_cases c1:i<n+t
  ·rw[s4 i c1];exact hN.pos i c1
  ·obtain rfl:i=n+t:=by omega
   rw[s5];omega
 ·by_cases c1:i<n+t
  ·have fi:(s.l<=i∧i<n)∨(s.p<=i∧i<n+t):=by omega
   rw[s4 i c1]
   by_cases c2:j<n+t
   ·rw[s4 j c2];exact hnear i j fi (by omega)
   ·obtain rfl:j=n+t:=by omega
    rw[s5]
    have:=hnear i A fi fA
    omega
  ·obtain rfl:i=n+t:=by omega
   rw[s5]
   by_cases c2:j<n+t
   ·rw[s4 j c2]
    have:=m2 j (by omega)
    omega
   ·obtain rfl:j=n+t:=by omega
    rw[s5];omega
 ·by_cases c1:i=A
  ·subst c1
   rw[s2,Int.toNat_natCast,s5,s4 i a1];omega
  ·by_cases c2:i=B
   ·subst c2
    rw[s3,Int.toNat_natCast,s5,s4 i b1];omega
   ·have ti:i<s.l∨(n<=i∧i<s.p):=by omega
    have hp:=hpar i ti
    rw[s1 i ti,s4 i (by omega),s4 _ (by omega)]
    exact hN.up i ti
 ·have hj:(j<n+t∧wt s.N B<=wt s.N j∧wt (Qca n s).N j=wt s.N j∧((s.l<=j∧j<n)∨(s.p<=j∧j<n+t)))∨(j=n+t∧wt (Qca n s).N j=wt s.N A+wt s.N B):=by
   by_cases c:j<n+t
   ·exact Or.inl ⟨c,m2 j (by omega),s4 j c,by omega⟩
   ·obtain rfl:j=n+t:=by omega
    exact Or.inr ⟨rfl,s5⟩
  by_cases c1:i=A
  ·rw[c1,s4 A a1];omega
  ·by_cases c2:i=B
   ·rw[c2,s4 B b1];omega
   ·have ti:i<s.l∨(n<=i∧i<s.p):=by omega
    have l1:=hN.low i A ti fA
    rw[s4 i (by omega)]
    rcases hj with ⟨_,_,e,fj⟩ | ⟨_,e⟩
    ·rw[e];exact hN.low i j ti fj
    ·rw[e];omega
 ·by_cases c1:i=A
  ·rw[c1,s2,Int.toNat_natCast] at e2;omega
  ·by_cases c2:i=B
   ·rw[c2,s3,Int.toNat_natCast] at e2;omega
   ·have ti:i<s.l∨(n<=i∧i<s.p):=by omega
    have hp:=hpar i ti
    have hu:=hN.up i ti
    have lA:=hN.low i A ti fA
    have lB:=hN.low i B ti fB
    have hu2:=hN.up2 i ti
    rw[s1 i ti] at e2
    rw[s1 i ti,s4 i (by omega)]
    obtain⟨q,hq⟩:∃q,q=(inn s.N i).toNat:=⟨_,rfl⟩
    rw[<-hq] at e2 hu hu2
    rw[<-hq]
    by_cases d1:q=A
    ·rw[d1] at hu
     rw[d1,s2,Int.toNat_natCast,s5];omega
    ·by_cases d2:q=B
     ·rw[d2] at hu
      rw[d2,s3,Int.toNat_natCast,s5];omega
     ·have tq:q<s.l∨(n<=q∧q<s.p):=by omega
      have hpq:=hpar q tq
      rw[s1 q tq,s4 _ (by omega)]
      exact hu2 tq
theorem Qdt(ws:List Int)(i:Nat):wt (Qbj ws).N i=ws.getD i 0:=by
 unfold wt Qbj
 simp only[List.getD,List.getElem?_map]
 cases ws[i]?<;>simp
theorem NI.start(ws:List Int)(hs:∀i j,i<=j->j<ws.length->ws.getD i 0<=ws.getD j 0)(h12:∀i,i<ws.length->1<=ws.getD i 0∧ws.getD i 0<=2):NI ws.length 0 (Qbj ws):=by
 have e1:(Qbj ws).l=0:=rfl
 have e2:(Qbj ws).p=ws.length:=rfl
 refine⟨fun i j a b=>?_,fun i j a b c=>by omega,fun i a=>?_,fun i j a b=>?_,fun i a=>by omega,fun i j a b=>by omega,fun i a=>by omega⟩
 ·rw[Qdt,Qdt];exact hs i j a b
 ·rw[Qdt];exact(h12 i (by omega)).1
 ·rw[Qdt,Qdt]
  have:=h12 i (by omega)
  have:=h12 j (by omega)
  omega
theorem NI.run(ws:List Int)(hs:∀i j,i<=j->j<ws.length->ws.getD i 0<=ws.getD j 0)(h12:∀i,i<ws.length->1<=ws.getD i 0∧ws.getD i 0<=2)(h0:∀i,0<=ws.getD i 0)(t:Nat)(ht:t+1<=ws.length):NI ws.length t (Qae ws t):=by
 induction t with
 | zero=>exact NI.start ws hs h12
 | succ t ih=>exact NI.step (TI.run ws h0 t (by omega)) (ih (by omega)) (by omega)
theorem Qip(N:Nodes)(c:Int):∀(k i:Nat),(∀j,i<=j->j<i+k->wt N j<=c)->sumW N i k<=c*(k:Int)
 | 0,_,_=>by simp[sumW]
 | k+1,i,h=>by
   rw[sumW]
   have h1:=h i (Nat.le_refl _) (by omega)
   have h2:=Qip N c k (i+1) (fun j a b=>h j (by omega) (by omega))
   have e:c*((k+1:Nat):Int)=c*(k:Int)+c:=by rw[Int.natCast_add,Int.mul_add];simp
   omega
theorem Xae(ws:List Int)(hs:∀i j,i<=j->j<ws.length->ws.getD i 0<=ws.getD j 0)(h12:∀i,i<ws.length->1<=ws.getD i 0∧ws.getD i 0<=2)(hn:2<=ws.length)(h60:ws.length<=512)(i:Nat)(hi:i<2*ws.length-1):dv (Qae ws (ws.length-1)).N i<=15:=by
 have h0:∀i,0<=ws.getD i 0:=fun i=>by
  by_cases h:i<ws.length
  ·have:=h12 i h;omega
  ·simp[List.getD,List.getElem?_eq_none (show ws.length<=i by omega)]
 obtain⟨hu,hl⟩:=Qkb ws h0 hn
 have hI:=TI.run ws h0 (ws.length-1) (by omega)
 have hN:=NI.run ws hs h12 h0 (ws.length-1) (by omega)
 have k1:=hI.ln
 have k2:=hI.np
 have k3:=hI.pl
 have k4:=hI.cnt
 have k5:=hI.last (by omega)
 have hsum:=hI.sum
 have hC:Qfk ws.length (Qbj ws).N 0 ws.length<=1024:=by
  unfold Qfk
  have e1:(Qbj ws).N.length=ws.length:=by simp[Qbj]
  rw[e1,Nat.sub_zero,Nat.sub_self,sumW]
  have:=Qip (Qbj ws).N 2 ws.length 0 (fun j _ b=>by rw[Qdt];exact(h12 j (by omega)).2)
  omega
 unfold Qfk at hsum
 rw[hl,show ws.length-(Qae ws (ws.length-1)).l=0 from by omega,show(Qae ws (ws.length-1)).p=2*ws.length-2 from by omega,show 2*ws.length-1-(2*ws.length-2)=1 from by omega,sumW,sumW,sumW] at hsum
 have hroot:wt (Qae ws (ws.length-1)).N (2*ws.length-2)<=1024:=by unfold Qfk at hC;omega
 have hup:∀i,i+1<2*ws.length-1->3*wt (Qae ws (ws.length-1)).N i<=2*wt (Qae ws (ws.length-1)).N (inn (Qae ws (ws.length-1)).N i).toNat:=fun i hi=>hN.up i (by omega)
 have hup2:∀i,i+1<2*ws.length-1->(inn (Qae ws (ws.length-1)).N i).toNat+1<2*ws.length-1->5*wt (Qae ws (ws.length-1)).N i<=2*wt (Qae ws (ws.length-1)).N (inn (Qae ws (ws.length-1)).N (inn (Qae ws (ws.length-1)).N i).toNat).toNat:=fun i hi hj=>hN.up2 i (by omega) (by omega)
 have hpos:∀i,i<2*ws.length-1->1<=wt (Qae ws (ws.length-1)).N i:=fun i hi=>hN.pos i (by omega)
 generalize (Qae ws (ws.length-1)).N=N at *
 clear hI hN hsum hC k1 k2 k3 k4 k5
 have htop:∀(k i:Nat),i<N.length->N.length<=i+k->wt N i<=1024:=by
  intro k
  induction k with
  | zero=>intro i h1 h2;omega
  | succ k ih=>
    intro i h1 h2
    by_cases c:i+1<N.length
    ·have hui:=hu i c
     have h3:=ih (inn N i).toNat (by omega) (by omega)
     have h4:=hup i (by omega)
     have h5:=hpos i (by omega)
     omega
    ·rw[show i=2*ws.length-2 from by omega];exact hroot
 have hd:∀(k i:Nat),i<N.length->2*(k:Int)<=dv N i->(5:Int)^k*wt N i<=2^k*1024:=by
  intro k
  induction k with
  | zero=>intro i h1 _;have:=htop N.length i h1 (by omega);simpa using this
  | succ k ih=>
    intro i h1 h2
    have c:i+1<N.length:=by
     by_cases c:i+1<N.length
     ·exact c
     ·rw[Qlu N i c] at h2;omega
    have hui:=hu i c
    have e:=Qim hu i c
    have c2:(inn N i).toNat+1<N.length:=by
     by_cases c2:(inn N i).toNat+1<N.length
     ·exact c2
     ·rw[Qlu N _ c2] at e;omega
    have hui2:=hu _ c2
    have e2:=Qim hu _ c2
    have h3:=ih (inn N (inn N i).toNat).toNat (by omega) (by omega)
    have h4:=hup2 i (by omega) (by omega)
    rw[Int.pow_succ,Int.pow_succ]
    have p5:(0:Int)<=5^k:=Int.le_of_lt (Int.pow_pos (by omega))
    have h5:=Int.mul_le_mul_of_nonneg_left h4 p5
    generalize (5:Int)^k=P at *
    generalize (2:Int)^k=Q at *
    generalize wt N (inn N (inn N i).toNat).toNat=y at *
    generalize wt N i=x at *
    have e1:P*5*x=P*(5*x):=by rw[Int.mul_assoc]
    have e2:P*(2*y)=2*(P*y):=by rw[Int.mul_left_comm]
    omega
 have h2:=hpos i hi
 by_cases c:dv N i<=15
 ·exact c
 ·exfalso
  have h1:=hd 8 i (by omega) (by omega)
  have e5:(5:Int)^8=390625:=by decide
  have e2:(2:Int)^8=256:=by decide
  rw[e5,e2] at h1
  omega
end Hf
end
/-
 CRC-32C as plain mathematics over natural numbers: a bit in, a byte in, a row in; that they are linear and can be taken back; joined sums; four bytes that make any sum; rows that differ within four bytes.
-/
namespace Cr.Crc
def poly:Nat:=2197175160
def ones:Nat:=4294967295
def sel(t:Nat):Nat:=if t%2=1 then poly else 0
def Qdh(r b:Nat):Nat:=r/2^^^sel (r^^^b)
def inN:Nat->Nat->Nat->Nat
 | 0,r,_=>r
 | k+1,r,b=>inN k (Qdh r b) (b/2)
def inB(r b:Nat):Nat:=inN 8 r b
def inR(r:Nat)(l:List Nat):Nat:=l.foldl inB r
theorem Qi2(r:Nat):inR r []=r:=rfl
theorem Qgo(r b:Nat)(l:List Nat):inR r (b::l)=inR (inB r b) l:=List.foldl_cons ..
theorem xac(a b c d:Nat):(a^^^b)^^^(c^^^d)=(a^^^c)^^^(b^^^d):=by
 rw[Nat.xor_assoc,<-Nat.xor_assoc b c d,Nat.xor_comm b c,Nat.xor_assoc c b d,<-Nat.xor_assoc]
theorem Qr6(a b:Nat):(a^^^b)^^^b=a:=by rw[Nat.xor_assoc,Nat.xor_self,Nat.xor_zero]
theorem Qjz(a b:Nat):(a^^^b)%2=(a+b)%2:=by
 have h:=Nat.testBit_xor a b 0
 rw[Nat.testBit_zero,Nat.testBit_zero,Nat.testBit_zero] at h
 rcases Nat.mod_two_eq_zero_or_one a with ha | ha<;>rcases Nat.mod_two_eq_zero_or_one b with hb | hb<;>rcases Nat.mod_two_eq_zero_or_one (a^^^b) with hc | hc<;>rw[ha,hb,hc] at h<;>simp at h<;>omega
theorem Xg9(a b:Nat):sel (a^^^b)=sel a^^^sel b:=by
 have h:(a^^^b)%2=(a+b)%2:=Qjz _ _
 unfold sel
 rw[h]
 rcases Nat.mod_two_eq_zero_or_one a with ha | ha<;>rcases Nat.mod_two_eq_zero_or_one b with hb | hb
 ·rw[if_neg (by omega),if_neg (by omega),if_neg (by omega)];rfl
 ·rw[if_pos (by omega),if_neg (by omega),if_pos (by omega)];simp
 ·rw[if_pos (by omega),if_pos (by omega),if_neg (by omega)];simp
 ·rw[if_neg (by omega),if_pos (by omega),if_pos (by omega)];simp
theorem Quv(a b:Nat):(a^^^b)/2=a/2^^^b/2:=Nat.xor_div_two
theorem Qw6(r s a b:Nat):Qdh (r^^^s) (a^^^b)=Qdh r a^^^Qdh s b:=by
 unfold Qdh
 rw[Quv,xac r s a b,Xg9,xac]
theorem Qk0(k:Nat):∀r s a b:Nat,inN k (r^^^s) (a^^^b)=inN k r a^^^inN k s b:=by
 induction k with
 | zero=>intro r s a b;rfl
 | succ k ih=>intro r s a b;rw[inN,inN,inN,Qw6,Quv,ih]
theorem Xbs(r s a b:Nat):inB (r^^^s) (a^^^b)=inB r a^^^inB s b:=Qk0 8 r s a b
theorem Qq2(k r b:Nat):inN k r b=inN k r 0^^^inN k 0 b:=by
 have:=Qk0 k r 0 0 b
 rw[Nat.xor_zero,Nat.zero_xor] at this
 exact this
theorem Qnb(k:Nat):∀b:Nat,b<2^k->inN k 0 b=inN k b 0:=by
 induction k with
 | zero=> intro b h;have:b=0:=by simpa using h
          rw[this]
 | succ k ih=>
   intro b h
   have hb:b/2<2^k:=by rw[Nat.pow_succ] at h;omega
   have e1:Qdh 0 b=sel b:=by simp[Qdh]
   have e2:Qdh b 0=sel b^^^b/2:=by rw[Qdh,Nat.xor_zero,Nat.xor_comm]
   rw[inN,inN,e1,e2,Qq2 k (sel b) (b/2),ih _ hb]
   have:=Qk0 k (sel b) (b/2) 0 0
   rw[Nat.xor_zero] at this
   rw[show 0/2=0 from rfl,this]
theorem Quw(k r b:Nat)(h:b<2^k):inN k r b=inN k (r^^^b) 0:=by
 have:=Qk0 k r b 0 0
 rw[Nat.xor_zero] at this
 rw[Qq2,Qnb k b h,this]
theorem Qqv(k:Nat):∀x:Nat,inN k (x*2^k) 0=x:=by
 induction k with
 | zero=>intro x;simp[inN]
 | succ k ih=>
   intro x
   have e:Qdh (x*2^(k+1)) 0=x*2^k:=by
    unfold Qdh sel
    rw[Nat.xor_zero,Nat.pow_succ,<-Nat.mul_assoc,if_neg (by omega),Nat.xor_zero]
    omega
   rw[inN,e]
   exact ih x
theorem Qpm(r:Nat):r=(r/256*2^8)^^^(r%256):=by
 have h1:(r/256*2^8)|||(r%256)=r/256*2^8+r%256:=nat_join 8 _ _ (Nat.mul_mod_left _ _) (by omega)
 have h2:(r/256*2^8)&&&(r%256)=0:=by
  apply Nat.eq_of_testBit_eq
  intro i
  rw[Nat.testBit_and,Nat.zero_testBit]
  by_cases hi:i<8
  ·have:(r/256*2^8).testBit i=false:=by rw[Nat.testBit_mul_two_pow];simp;omega
   rw[this];rfl
  ·have:(r%256).testBit i=false:=Nat.testBit_lt_two_pow (Nat.lt_of_lt_of_le (show r%256<2^8 from by omega) (Nat.pow_le_pow_right (n:=2) (by decide) (by omega)))
   rw[this,Bool.and_false]
 have h3:(r/256*2^8)^^^(r%256)=(r/256*2^8)|||(r%256):=by
  apply Nat.eq_of_testBit_eq
  intro i
  have h:=congrArg (fun x=>x.testBit i) h2
  simp only[Nat.testBit_and,Nat.zero_testBit] at h
  rw[Nat.testBit_xor,Nat.testBit_or]
  revert h
  cases (r/256*2^8).testBit i<;>cases (r%256).testBit i<;>simp
 rw[h3,h1]
 omega
theorem Qzm(r b:Nat)(h:b<256):inB r b=r/256^^^inB 0 (r%256^^^b):=by
 have hx:r%256^^^b<2^8:=Nat.xor_lt_two_pow (by omega) (by omega)
 unfold inB
 rw[Quw 8 r b (by omega),Qnb 8 _ hx]
 conv=>lhs;rw[Qpm r]
 rw[Nat.xor_assoc]
 have:=Qk0 8 (r/256*2^8) (r%256^^^b) 0 0
 rw[Nat.xor_zero] at this
 rw[this,Qqv]
theorem Xfm(t:Nat):sel t<2^32:=by unfold sel poly;split<;>omega
theorem Qtp(r b:Nat)(h:r<2^32):Qdh r b<2^32:=Nat.xor_lt_two_pow (by omega) (Xfm _)
theorem Qzc(k:Nat):∀r b:Nat,r<2^32->inN k r b<2^32:=by
 induction k with
 | zero=>intro r b h;exact h
 | succ k ih=>intro r b h;exact ih _ _ (Qtp r b h)
theorem Qyr(r b:Nat)(h:r<2^32):inB r b<2^32:=Qzc 8 r b h
theorem Qmq(l:List Nat):∀r:Nat,r<2^32->inR r l<2^32:=by
 induction l with
 | nil=>intro r h;rw[Qi2];exact h
 | cons b l ih=>intro r h;rw[Qgo];exact ih _ (Qyr r b h)
/-! Back -/
def Qym(r b:Nat):Nat:=if r<2^31 then 2*r+b%2 else 2*(r^^^poly)+(1-b%2)
theorem Xgf(x:Nat)(h:x<2^31):2^31<=x^^^poly∧x^^^poly<2^32:=by
 have h1:x^^^poly<2^32:=Nat.xor_lt_two_pow (by omega) (by unfold poly;omega)
 refine⟨?_,h1⟩
 have hb:(x^^^poly).testBit 31=true:=by
  rw[Nat.testBit_xor,Nat.testBit_lt_two_pow h]
  decide
 exact Nat.ge_two_pow_of_testBit hb
theorem Xhb(r b:Nat):(r^^^b)%2=(r+b)%2:=Qjz _ _
theorem Qxu(r b:Nat)(h:r<2^32):Qym (Qdh r b) b=r:=by
 have hx:=Xhb r b
 unfold Qdh sel Qym
 by_cases hs:(r^^^b)%2=1
 ·rw[if_pos hs,if_neg (by have:=(Xgf (r/2) (by omega)).1;omega),Qr6]
  omega
 ·rw[if_neg hs,Nat.xor_zero,if_pos (by omega)]
  omega
theorem Quo(k:Nat):∀r b:Nat,inN (k+1) r b=Qdh (inN k r b) (b/2^k):=by
 induction k with
 | zero=>intro r b;simp[inN]
 | succ k ih=>
   intro r b
   rw[inN,ih,inN,Nat.div_div_eq_div_mul,<-Nat.pow_succ']
def outN:Nat->Nat->Nat->Nat
 | 0,r,_=>r
 | k+1,r,b=>outN k (Qym r (b/2^k)) b
def outB(r b:Nat):Nat:=outN 8 r b
def outR(r:Nat)(l:List Nat):Nat:=l.foldr (fun b r=>outB r b) r
theorem Xcp(r:Nat):outR r []=r:=rfl
theorem Qxh(r b:Nat)(l:List Nat):outR r (b::l)=outB (outR r l) b:=List.foldr_cons ..
theorem Xf9(k:Nat):∀r b:Nat,r<2^32->outN k (inN k r b) b=r:=by
 induction k with
 | zero=>intro r b _;rfl
 | succ k ih=>intro r b h;rw[Quo,outN,Qxu _ _ (Qzc k r b h),ih r b h]
theorem Xf5(r b:Nat)(h:r<2^32):outB (inB r b) b=r:=Xf9 8 r b h
theorem Xau(l:List Nat):∀r:Nat,r<2^32->outR (inR r l) l=r:=by
 induction l with
 | nil=>intro r _;rw[Qi2,Xcp]
 | cons b l ih=>
   intro r h
   rw[Qgo,Qxh,ih _ (Qyr r b h),Xf5 r b h]
theorem Qz4(l:List Nat)(r s:Nat)(hr:r<2^32)(hs:s<2^32)(h:inR r l=inR s l):r=s:=by
 rw[<-Xau l r hr,<-Xau l s hs,h]
theorem Qef(r:Nat)(l m:List Nat):inR r (l++m)=inR (inR r l) m:=by
 unfold inR;rw[List.foldl_append]
/-! Two rows at once -/
theorem Xhd(l:List Nat):∀(m:List Nat) (r s:Nat),l.length=m.length->inR (r^^^s) (List.zipWith (· ^^^ ·) l m)=inR r l^^^inR s m:=by
 induction l with
 | nil=>intro m r s h;cases m with
   | nil=>rw[List.zipWith_nil_left,Qi2,Qi2,Qi2]
   | cons c m=>simp at h
 | cons b l ih=>
   intro m r s h
   cases m with
   | nil=>simp at h
   | cons c m=>
     rw[List.zipWith_cons_cons,Qgo,Qgo,Qgo,Xbs,ih m _ _ (by simpa using h)]
def add(sum:Nat)(l:List Nat):Nat:=inR (sum^^^ones) l^^^ones
def back(sum:Nat)(l:List Nat):Nat:=outR (sum^^^ones) l^^^ones
theorem Ql1(a:Nat)(h:a<2^32):a^^^ones<2^32:=Nat.xor_lt_two_pow h (by unfold ones;omega)
theorem add_lt(s:Nat)(l:List Nat)(h:s<2^32):add s l<2^32:=Ql1 _ (Qmq l _ (Ql1 s h))
theorem Qwo(s:Nat)(l m:List Nat):add s (l++m)=add (add s l) m:=by
 rw[add,add,add,Qr6,Qef]
def four(x:Nat):List Nat:= [x%256,x/256%256,x/65536%256,x/16777216%256]
theorem Qnm(d x:Nat):inB (d^^^x) 0=inB d (x%256)^^^x/256:=by
 conv=>lhs;rw[Qpm x]
 have h1:d^^^((x/256*2^8)^^^(x%256))=(d^^^(x%256))^^^(x/256*2^8):=by
  rw[Nat.xor_comm (x/256*2^8),Nat.xor_assoc]
 rw[h1]
 have h2:=Xbs (d^^^(x%256)) (x/256*2^8) 0 0
 rw[Nat.xor_zero] at h2
 rw[h2]
 have h3:inB (x/256*2^8) 0=x/256:=Qqv 8 (x/256)
 have h4:inB d (x%256)=inB (d^^^(x%256)) 0:=Quw 8 d (x%256) (by omega)
 rw[h3,h4]
theorem Xd3(d x:Nat)(hx:x<2^32):inR d (four x)=inR (d^^^x) [0,0,0,0]:=by
 rw[four]
 simp only[Qgo,Qi2]
 rw[Qnm d x,Qnm _ (x/256),Nat.div_div_eq_div_mul,Qnm _ (x/(256*256)),Nat.div_div_eq_div_mul,Qnm _ (x/(256*256*256)),Nat.div_div_eq_div_mul]
 rw[show x/(256*256*256*256)=0 from by omega,Nat.xor_zero]
theorem near(s x:Nat)(pre mid suf:List Nat)(hs:s<2^32)(hx:x<2^32)(h0:x≠0)(hm:mid.length=4):
 add s (pre++mid++suf)≠add s (pre++List.zipWith (· ^^^ ·) mid (four x)++suf):=by
 intro h
 unfold add at h
 have h1:=congrArg (· ^^^ ones) h
 simp only[Qr6] at h1
 rw[Qef,Qef,Qef,Qef] at h1
 have hr:=Qmq pre _ (Ql1 s hs)
 have h2:=Qz4 suf _ _ (Qmq mid _ hr) (Qmq _ _ hr) h1
 have h3:=Xhd mid (four x) (inR (s^^^ones) pre) 0 (by rw[hm];rfl)
 rw[Nat.xor_zero] at h3
 rw[h3] at h2
 have h4:inR 0 (four x)=0:=by
  have:=congrArg (inR (inR (s^^^ones) pre) mid ^^^ ·) h2
  simp only[Nat.xor_self,<-Nat.xor_assoc,Nat.zero_xor] at this
  exact this.symm
 rw[Xd3 0 x hx,Nat.zero_xor] at h4
 have h5:inR 0 [0,0,0,0]=0:=by decide
 exact h0 (Qz4 [0,0,0,0] x 0 hx (by decide) (h4.trans h5.symm))
end Cr.Crc
/-
 Registers as polynomials: the product by which many bytes 0 go in at once.
-/
namespace Cr.Crc
def st(k r:Nat):Nat:=inN k r 0
theorem Xft(k r:Nat):st (k+1) r=Qdh (st k r) 0:=by
 unfold st;rw[Quo,Nat.zero_div]
theorem Xjm(k r:Nat)(h:r<2^32):st k r<2^32:=Qzc k r 0 h
theorem Qmv(r:Nat):Qdh r 0=r/2^^^sel r:=by rw[Qdh,Nat.xor_zero]
def pick(b t:Nat):Nat:=b*(t%2)
def mulN(a b:Nat):Nat->Nat
 | 0=>0
 | k+1=>Qdh (mulN a b k) 0^^^pick b (a/2^k)
def mul(a b:Nat):Nat:=mulN a b 32
theorem Xbp(i x y:Nat)(hx:x<2^i)(hy:y%2^i=0):x^^^y=x+y:=by
 have h1:y|||x=y+x:=nat_join i y x hy hx
 have h3:x^^^y=y|||x:=by
  apply Nat.eq_of_testBit_eq
  intro j
  rw[Nat.testBit_xor,Nat.testBit_or]
  by_cases hj:j<i
  ·have:y.testBit j=false:=by
    have hy':y=2^i*(y/2^i):=by have:=Nat.div_add_mod y (2^i);omega
    rw[hy',Nat.testBit_two_pow_mul]
    simp;omega
   rw[this];simp
  ·have:x.testBit j=false:=Nat.testBit_lt_two_pow (Nat.lt_of_lt_of_le hx (Nat.pow_le_pow_right (n:=2) (by decide) (by omega)))
   rw[this];simp
 rw[h3,h1];omega
theorem Xc3(a:Nat):∀k,k<=32->mulN a (2^31) k=a%2^k*2^(32-k):=by
 intro k
 induction k with
 | zero=>intro _;rw[Nat.pow_zero,Nat.mod_one,Nat.zero_mul];rfl
 | succ k ih=>
   intro hk
   rw[mulN,ih (by omega),Qmv]
   have e1:a%2^k*2^(32-k)=2*(a%2^k*2^(31-k)):=by
    rw[show 32-k=(31-k)+1 from by omega,Nat.pow_succ,<-Nat.mul_assoc,Nat.mul_comm]
   rw[e1,sel,if_neg (by omega),Nat.xor_zero,Nat.mul_div_cancel_left _ (by decide),show 32-(k+1)=31-k from by omega]
   have hlt:a%2^k*2^(31-k)<2^31:=by
    have h1:a%2^k<2^k:=Nat.mod_lt _ (Nat.two_pow_pos k)
    have h2:a%2^k*2^(31-k)<2^k*2^(31-k):=Nat.mul_lt_mul_of_pos_right h1 (Nat.two_pow_pos _)
    rwa[<-Nat.pow_add,show k+(31-k)=31 from by omega] at h2
   have hp:pick (2^31) (a/2^k)%2^31=0:=by unfold pick;exact Nat.mul_mod_right _ _
   rw[Xbp 31 _ _ hlt hp,Nat.mod_pow_succ,Nat.add_mul,pick]
   have e2:2^k*(a/2^k%2)*2^(31-k)=2^31*(a/2^k%2):=by
    rw[Nat.mul_right_comm,<-Nat.pow_add,show k+(31-k)=31 from by omega]
   rw[e2]
theorem mul_one(a:Nat)(h:a<2^32):mul a (2^31)=a:=by
 rw[mul,Xc3 a 32 (Nat.le_refl _),Nat.mod_eq_of_lt h,Nat.sub_self,Nat.pow_zero,Nat.mul_one]
end Cr.Crc
/-
 Plain facts: what was encoded is decoded, whatever stands behind it.
-/
section
namespace Hf
theorem Xim(b:List Int)(at' l d:Nat):vb b at' l=vb b at' (l+d)/2^d:=by
 induction d with
 | zero=>simp
 | succ d ih=>
   have:=Qok b (at'+(l+d))
   rw[ih,<-Nat.add_assoc,vb,Nat.pow_succ,Nat.mul_comm (2^d) 2,<-Nat.div_div_eq_div_mul,show(vb b at' (l+d)*2+bitV b (at'+(l+d)))/2=vb b at' (l+d) from by omega]
theorem Qzy(zs:List Int)(l d:Nat):(first zs l+cnt zs l)*2^(d+1)<=first zs (l+d+1):=by
 induction d with
 | zero=>rw[first];simp
 | succ d ih=>
   rw[Nat.pow_succ,<-Nat.mul_assoc,show l+(d+1)+1=(l+d+1)+1 from by omega,first]
   exact Nat.mul_le_mul_right 2 (Nat.le_trans ih (Nat.le_add_right _ _))
theorem Qui(zs b:List Int)(at' s L:Nat)(hs:s<zs.length)(hz:zs.getD s 0=(L:Int))(hL:L<16)(h0:0<L)(hr:at'+L<=8*b.length)(hv:vb b at' L=Qbv zs s):
 ∀f l,0<l->l<=L->L<l+f->oneG zs b at' f l=((s:Int),(L:Int))
 | 0,l,_,h1,h2=>by omega
 | f+1,l,h,h1,h2=>by
   rw[oneG,if_pos ⟨by omega,by omega⟩]
   by_cases he:l=L
   ·subst he;rw[Qtf h0 hs hz hv.symm]
   ·have hw:who zs l (vb b at' l)=none:=Qus (fun t ht htz hc=>by
     have c1:=Qfx zs t l htz
     have c2:=Qem zs t l ht htz h
     have c3:=Qfx zs s L hz
     have c4:=Qzy zs l (L-l-1)
     rw[show L-l-1+1=L-l from by omega,show l+(L-l-1)+1=L from by omega] at c4
     have c5:=Xim b at' l (L-l)
     rw[show l+(L-l)=L from by omega,hv] at c5
     have c6:first zs l+cnt zs l<=Qbv zs s/2^(L-l):=by
      rw[Nat.le_div_iff_mul_le (Nat.two_pow_pos _)]
      omega
     omega)
    rw[hw]
    exact Qui zs b at' s L hs hz hL h0 hr hv f (l+1) (by omega) (by omega) (by omega)
theorem Xcn(zs b:List Int)(at' s L:Nat)(hs:s<zs.length)(hz:zs.getD s 0=(L:Int))(hL:L<16)(h0:0<L)(hr:at'+L<=8*b.length)(hv:vb b at' L=Qbv zs s):oneF zs b at'=((s:Int),(L:Int)):=
 Qui zs b at' s L hs hz hL h0 hr hv 16 1 (by omega) (by omega) (by omega)
end Hf
end
/-
 Bits as the document packs them: bytes whose bits are a row of bits and fewer than eight zeros are the row's packing.
-/
section
open Hf
def numG(a:Nat)(l:List Nat):Nat:=l.foldl (fun a b=>a*2+b) a
theorem Qod:∀(l:List Nat) (a:Nat),numG a l=a*2^l.length+numG 0 l
 | [],a=>by simp[numG]
 | b::l,a=>by
   have h1:=Qod l (a*2+b)
   have h2:=Qod l (0*2+b)
   show numG (a*2+b) l=a*2^(l.length+1)+numG (0*2+b) l
   rw[h1,h2,Nat.pow_succ,Nat.add_mul,Nat.zero_mul,Nat.zero_add,Nat.mul_assoc,Nat.mul_comm 2,Nat.add_assoc]
theorem Qjq(l m:List Nat)(a:Nat):numG a (l++m)=numG a l*2^m.length+numG 0 m:=by
 rw[show numG a (l++m)=numG (numG a l) m from by simp[numG,List.foldl_append],Qod m]
theorem Qj0(x:Nat):∀n,numG 0 (low x n)=x%2^n
 | 0=>by simp[low,numG,Nat.mod_one]
 | n+1=>by
   show numG (0*2+x/2^n%2) (low x n)=_
   rw[Qod,Qj0 x n,Qa4,Nat.zero_mul,Nat.zero_add,Nat.pow_succ]
   have h:=Nat.mod_mul (a:=2^n) (b:=2) (x:=x)
   rw[h,Nat.mul_comm,Nat.add_comm]
theorem Qvf(p:Nat):numG 0 (List.replicate p 0)=0:=by
 induction p with
 | zero=>rfl
 | succ p ih=>show numG (0*2+0) (List.replicate p 0)=0;exact ih
theorem Qv3(N q:Nat)(z:Nat)(hz:z<256):Qep (N*256+z) (8*(q+1))=Qep N (8*q)++ [(z:Int)]:=by
 refine Qos (by rw[List.length_append,Qa8,Qa8];simp) (fun j hj=>?_)
 rw[Qa8] at hj
 have hq:8*(q+1)/8=q+1:=by omega
 have hq2:8*q/8=q:=by omega
 rw[hq] at hj
 rw[Qc6 _ _ _ (by omega)]
 by_cases h:j<q
 ·have e:(Qep N (8*q)++ [(z:Int)]).getD j 0=(Qep N (8*q)).getD j 0:=by
   simp[List.getD,List.getElem?_append_left (show j<(Qep N (8*q)).length from by rw[Qa8];omega)]
  rw[e,Qc6 _ _ _ (by omega),show 8*(q+1)-8*(j+1)=8+(8*q-8*(j+1)) from by omega,Nat.pow_add,<-Nat.div_div_eq_div_mul,show(N*256+z)/2^8=N from by omega]
 ·obtain rfl:j=q:=by omega
  have e:(Qep N (8*j)++ [(z:Int)]).getD j 0=(z:Int):=by
   simp[List.getD,Qa8,hq2]
  rw[e,Nat.sub_self,Nat.pow_zero,Nat.div_one]
  omega
def bytB(M:List Int):List Nat:=M.flatMap fun z=>low z.toNat 8
theorem Qg5(M:List Int):(bytB M).length=8*M.length:=by
 induction M with
 | nil=>rfl
 | cons z M ih=>rw[show bytB (z::M)=low z.toNat 8++bytB M from rfl,List.length_append,Qa4,ih,List.length_cons];omega
theorem Xan(M:List Int)(z:Int):bytB (M++ [z])=bytB M++low z.toNat 8:=by simp[bytB]
theorem Qna:∀(k:Nat) (M:List Int),M.length=k->(∀z∈M,0<=z∧z<=255)->M=Qep (numG 0 (bytB M)) (8*M.length)
 | 0,M,h,_=>by
   obtain rfl:=List.length_eq_zero_iff.1 h
   rfl
 | k+1,M,h,hM=>by
   obtain⟨M',z,rfl⟩:∃M' z,M=M'++ [z]:=⟨M.dropLast,M.getLast (by intro e;subst e;cases h),(List.dropLast_concat_getLast _).symm⟩
   have hl:M'.length=k:=by simpa using h
   have ih:=Qna k M' hl (fun y hy=>hM y (by simp[hy]))
   have hz:=hM z (by simp)
   have e:((z.toNat:Nat):Int)=z:=by omega
   rw[Xan,Qjq,Qa4,Qj0,Nat.mod_eq_of_lt (show z.toNat<2^8 from by omega),List.length_append,List.length_singleton,show(2:Nat)^8=256 from rfl,Qv3 _ _ _ (by omega),<-ih,e]
theorem Xid{n p k:Nat}(h:8*k=n+p)(hp:p<8):p=padN n:=by
 unfold padN
 split<;>omega
theorem Qvm(M:List Int)(hM:∀z∈M,0<=z∧z<=255)(B:List Nat)(p:Nat)(h:bytB M=B++List.replicate p 0)(hp:p<8):M=Qby (numG 0 B) B.length:=by
 have h1:=Qna M.length M rfl hM
 have h2:8*M.length=B.length+p:=by rw[<-Qg5,h];simp
 rw[h1,h,Qjq,List.length_replicate,Qvf,Nat.add_zero,h2,Xid h2 hp]
 rfl
def bitN(b:Bool):Nat:=if b then 1 else 0
theorem Xfi:∀(k:Nat) (bs:List Bool),bs.length=k->nB bs bs.length=numG 0 (bs.map bitN)
 | 0,bs,h=>by
   obtain rfl:=List.length_eq_zero_iff.1 h
   rfl
 | k+1,bs,h=>by
   obtain⟨b',z,rfl⟩:∃M' z,bs=M'++ [z]:=⟨bs.dropLast,bs.getLast (by intro e;subst e;cases h),(List.dropLast_concat_getLast _).symm⟩
   have hl:b'.length=k:=by simpa using h
   have ih:=Xfi k b' hl
   rw[List.length_append,List.length_singleton,Qyl,ih,List.map_append,Qjq]
   simp[nB,numG,bitN]
theorem Qjx(c:Nat):∀n,(Qcv c n).map bitN=low c n
 | 0=>rfl
 | n+1=>by
   have ih:=Qjx c n
   refine List.ext_getElem (by rw[List.length_map,Qbg,Qa4]) (fun i h1 h2=>?_)
   cases i with
   | zero=>simp[Qcv,Qsb,low,bitN];split<;>omega
   | succ i=>
     have e:(low c n)[i]'(by rw[Qa4] at h2|-;omega)=((Qcv c n).map bitN)[i]'(by rw[List.length_map,Qbg];rw[Qa4] at h2;omega):=by
      simp only[ih]
     simp only[low,List.getElem_cons_succ]
     rw[e]
     simp only[List.getElem_map,Qcv,List.getElem_range,Qsb]
     rw[show n+1-1-(i+1)=n-1-i from by omega]
theorem Xbo(M:List Int)(hM:∀z∈M,0<=z∧z<=255)(bs:List Bool)(p:Nat)(h:bytB M=bs.map bitN++List.replicate p 0)(hp:p<8):M=Qby (nB bs bs.length) bs.length:=by
 have:=Qvm M hM _ p h hp
 rwa[<-Xfi _ _ rfl,List.length_map] at this
end
end Go.Proofs.YtibjlbcnapoblaaGreatDoor
