/-
 Plain facts: a tree of at most 512 weights of 1 and 2 is at most 15 deep.
-/
import Derived.Test.YtibjlbcnapoblaaGreatDoorPart02
import Derived.Laws.BitsAllLaws
import Derived.Test.YtibjlbcnapoblaaGreatDoorPart00
import Derived.Test.YtibjlbcnapoblaaGreatDoorPart01
namespace Go.Proofs.YtibjlbcnapoblaaGreatDoor
set_option maxRecDepth 100000
set_option maxHeartbeats 6400000
section
namespace Hf
theorem Qj7{n:Nat}{N:Nodes}{l p:Nat}(hl:∀i j,i<=j->j<n->wt N i<=wt N j)(hp:∀i j,n<=i->i<=j->j<N.length->wt N i<=wt N j)(np:n<=p):
 ∀j,((l<=j∧j<n)∨(p<=j∧j<N.length))->wt N (takeA n N l p)<=wt N j:=by
 intro j hj
 unfold takeA
 cases hu:Qb6 n N l p with
 | true=>
   unfold Qb6 at hu
   rw[Bool.or_eq_true,beq_iff_eq,Bool.and_eq_true,decide_eq_true_eq,decide_eq_true_eq] at hu
   simp only[if_true]
   rcases hj with hj | hj
   ·exact hl l j hj.1 hj.2
   ·rcases hu with hu | hu
    ·omega
    ·have:=hp p j np hj.1 hj.2;omega
 | false=>
   unfold Qb6 at hu
   rw[Bool.or_eq_false_iff,Bool.and_eq_false_iff,decide_eq_false_iff_not,decide_eq_false_iff_not] at hu
   simp only[Bool.false_eq_true,if_false]
   rcases hj with hj | hj
   ·have:=hl l j hj.1 hj.2
    have h2:¬wt N l<=wt N p:=by
     rcases hu.2 with h | h
     ·omega
     ·exact h
    omega
   ·exact hp p j np hj.1 hj.2
structure NI (n t:Nat) (s:TS):Prop where
 leaf:∀i j,i<=j->j<n->wt s.N i<=wt s.N j
 pair:∀i j,n<=i->i<=j->j<n+t->wt s.N i<=wt s.N j
 pos:∀i,i<n+t->1<=wt s.N i
 near:∀i j,((s.l<=i∧i<n)∨(s.p<=i∧i<n+t))->((s.l<=j∧j<n)∨(s.p<=j∧j<n+t))->wt s.N i<=2*wt s.N j
 up:∀i,(i<s.l∨(n<=i∧i<s.p))->3*wt s.N i<=2*wt s.N (inn s.N i).toNat
 low:∀i j,(i<s.l∨(n<=i∧i<s.p))->((s.l<=j∧j<n)∨(s.p<=j∧j<n+t))->wt s.N i<=wt s.N j
 up2:∀i,(i<s.l∨(n<=i∧i<s.p))->((inn s.N i).toNat<s.l∨(n<=(inn s.N i).toNat∧(inn s.N i).toNat<s.p))->5*wt s.N i<=2*wt s.N (inn s.N (inn s.N i).toNat).toNat
theorem NI.step{n:Nat}{C:Int}{t:Nat}{s:TS}(h:TI n C t s)(hN:NI n t s)(ht:t+2<=n):NI n (t+1) (Qb9 n s):=by
 have hlen:=h.len
 have hln:=h.ln
 have hnp:=h.np
 have hpl:=h.pl
 have hcnt:=h.cnt
 have hlast:=h.last
 obtain⟨s1,s2,s3,s4,s5⟩:=Qf2 h ht
 obtain⟨a1,a2,a3,a4,a5,_,a7⟩:=take_one (n:=n) (N:=s.N) (l:=s.l) (p:=s.p) h.ln h.np (by omega) (by omega)
 obtain⟨b1,b2,b3,b4,b5,_,b7⟩:=take_one (n:=n) (N:=s.N) (l:=Qa1 n s.N s.l s.p) (p:=Qay n s.N s.l s.p) a2 a3 a4 (by omega)
 have m1:=Qj7 (n:=n) (N:=s.N) (l:=s.l) (p:=s.p) hN.leaf (by rw[hlen];exact hN.pair) h.np
 have m2:=Qj7 (n:=n) (N:=s.N) (l:=Qa1 n s.N s.l s.p) (p:=Qay n s.N s.l s.p) hN.leaf (by rw[hlen];exact hN.pair) a3
 have hA:oneA n s=takeA n s.N s.l s.p:=rfl
 have hB:oneB n s=takeA n s.N (Qa1 n s.N s.l s.p) (Qay n s.N s.l s.p):=rfl
 rw[<-hA] at a1 a7 m1
 rw[<-hB] at b1 b7 m2
 have hl2:(Qb9 n s).l=Qa1 n s.N (Qa1 n s.N s.l s.p) (Qay n s.N s.l s.p):=rfl
 have hp2:(Qb9 n s).p=Qay n s.N (Qa1 n s.N s.l s.p) (Qay n s.N s.l s.p):=rfl
 rw[<-hl2,<-hp2] at b5 b7
 rw[<-hl2] at b2
 rw[<-hp2] at b3 b4
 rw[hlen] at a1 a4 a7 b1 b4 b7 m1 m2 s2 s3 s4 s5
 have hpar:=h.par
 have hnear:=hN.near
 clear hA hB hl2 hp2
 generalize oneA n s=A at *
 generalize oneB n s=B at *
 generalize Qa1 n s.N s.l s.p=l1 at *
 generalize Qay n s.N s.l s.p=p1 at *
 have fA:(s.l<=A∧A<n)∨(s.p<=A∧A<n+t):=by omega
 have fB:(s.l<=B∧B<n)∨(s.p<=B∧B<n+t):=by omega
 have hab:=m1 B fB
 have nAB:=hnear A B fA fB
 have nBA:=hnear B A fB fA
 have pA:=hN.pos A a1
 have pB:=hN.pos B b1
 refine⟨fun i j e1 e2=>?_,fun i j e1 e2 e3=>?_,fun i e1=>?_,fun i j e1 e2=>?_,fun i e1=>?_,fun i j e1 e2=>?_,fun i e1 e2=>?_⟩
 ·rw[s4 i (by omega),s4 j (by omega)];exact hN.leaf i j e1 e2
 ·by_cases c1:j<n+t
  ·rw[s4 i (by omega),s4 j c1];exact hN.pair i j e1 e2 c1
  ·obtain rfl:j=n+t:=by omega
   by_cases c2:i=n+t
   ·rw[c2];omega
   ·rw[s4 i (by omega),s5]
    have h1:=hN.pair i (n+t-1) e1 (by omega) (by omega)
    have h2:=hnear (n+t-1) A (by have:=hlast (by omega);omega) fA
    omega
 ·by_cases c1:i<n+t
  ·rw[s4 i c1];exact hN.pos i c1
  ·obtain rfl:i=n+t:=by omega
   rw[s5];omega
 ·by_cases c1:i<n+t
  ·have fi:(s.l<=i∧i<n)∨(s.p<=i∧i<n+t):=by omega
   rw[s4 i c1]
   by_cases c2:j<n+t
   ·rw[s4 j c2];exact hnear i j fi (by omega)
   ·obtain rfl:j=n+t:=by omega
    rw[s5]
    have:=hnear i A fi fA
    omega
  ·obtain rfl:i=n+t:=by omega
   rw[s5]
   by_cases c2:j<n+t
   ·rw[s4 j c2]
    have:=m2 j (by omega)
    omega
   ·obtain rfl:j=n+t:=by omega
    rw[s5];omega
 ·by_cases c1:i=A
  ·subst c1
   rw[s2,Int.toNat_natCast,s5,s4 i a1];omega
  ·by_cases c2:i=B
   ·subst c2
    rw[s3,Int.toNat_natCast,s5,s4 i b1];omega
   ·have ti:i<s.l∨(n<=i∧i<s.p):=by omega
    have hp:=hpar i ti
    rw[s1 i ti,s4 i (by omega),s4 _ (by omega)]
    exact hN.up i ti
 ·have hj:(j<n+t∧wt s.N B<=wt s.N j∧wt (Qb9 n s).N j=wt s.N j∧((s.l<=j∧j<n)∨(s.p<=j∧j<n+t)))∨(j=n+t∧wt (Qb9 n s).N j=wt s.N A+wt s.N B):=by
   by_cases c:j<n+t
   ·exact Or.inl ⟨c,m2 j (by omega),s4 j c,by omega⟩
   ·obtain rfl:j=n+t:=by omega
    exact Or.inr ⟨rfl,s5⟩
  by_cases c1:i=A
  ·rw[c1,s4 A a1];omega
  ·by_cases c2:i=B
   ·rw[c2,s4 B b1];omega
   ·have ti:i<s.l∨(n<=i∧i<s.p):=by omega
    have l1:=hN.low i A ti fA
    rw[s4 i (by omega)]
    rcases hj with ⟨_,_,e,fj⟩ | ⟨_,e⟩
    ·rw[e];exact hN.low i j ti fj
    ·rw[e];omega
 ·by_cases c1:i=A
  ·rw[c1,s2,Int.toNat_natCast] at e2;omega
  ·by_cases c2:i=B
   ·rw[c2,s3,Int.toNat_natCast] at e2;omega
   ·have ti:i<s.l∨(n<=i∧i<s.p):=by omega
    have hp:=hpar i ti
    have hu:=hN.up i ti
    have lA:=hN.low i A ti fA
    have lB:=hN.low i B ti fB
    have hu2:=hN.up2 i ti
    rw[s1 i ti] at e2
    rw[s1 i ti,s4 i (by omega)]
    obtain⟨q,hq⟩:∃q,q=(inn s.N i).toNat:=⟨_,rfl⟩
    rw[<-hq] at e2 hu hu2
    rw[<-hq]
    by_cases d1:q=A
    ·rw[d1] at hu
     rw[d1,s2,Int.toNat_natCast,s5];omega
    ·by_cases d2:q=B
     ·rw[d2] at hu
      rw[d2,s3,Int.toNat_natCast,s5];omega
     ·have tq:q<s.l∨(n<=q∧q<s.p):=by omega
      have hpq:=hpar q tq
      rw[s1 q tq,s4 _ (by omega)]
      exact hu2 tq
theorem Qdw(ws:List Int)(i:Nat):wt (Qbl ws).N i=ws.getD i 0:=by
 unfold wt Qbl
 simp only[List.getD,List.getElem?_map]
 cases ws[i]?<;>simp
theorem NI.start(ws:List Int)(hs:∀i j,i<=j->j<ws.length->ws.getD i 0<=ws.getD j 0)(h12:∀i,i<ws.length->1<=ws.getD i 0∧ws.getD i 0<=2):NI ws.length 0 (Qbl ws):=by
 have e1:(Qbl ws).l=0:=rfl
 have e2:(Qbl ws).p=ws.length:=rfl
 refine⟨fun i j a b=>?_,fun i j a b c=>by omega,fun i a=>?_,fun i j a b=>?_,fun i a=>by omega,fun i j a b=>by omega,fun i a=>by omega⟩
 ·rw[Qdw,Qdw];exact hs i j a b
 ·rw[Qdw];exact(h12 i (by omega)).1
 ·rw[Qdw,Qdw]
  have:=h12 i (by omega)
  have:=h12 j (by omega)
  omega
theorem NI.run(ws:List Int)(hs:∀i j,i<=j->j<ws.length->ws.getD i 0<=ws.getD j 0)(h12:∀i,i<ws.length->1<=ws.getD i 0∧ws.getD i 0<=2)(h0:∀i,0<=ws.getD i 0)(t:Nat)(ht:t+1<=ws.length):NI ws.length t (Qae ws t):=by
 induction t with
 | zero=>exact NI.start ws hs h12
 | succ t ih=>exact NI.step (TI.run ws h0 t (by omega)) (ih (by omega)) (by omega)
theorem Qi7(N:Nodes)(c:Int):∀(k i:Nat),(∀j,i<=j->j<i+k->wt N j<=c)->sumW N i k<=c*(k:Int)
 | 0,_,_=>by simp[sumW]
 | k+1,i,h=>by
   rw[sumW]
   have h1:=h i (Nat.le_refl _) (by omega)
   have h2:=Qi7 N c k (i+1) (fun j a b=>h j (by omega) (by omega))
   have e:c*((k+1:Nat):Int)=c*(k:Int)+c:=by rw[Int.natCast_add,Int.mul_add];simp
   omega
theorem Xa9(ws:List Int)(hs:∀i j,i<=j->j<ws.length->ws.getD i 0<=ws.getD j 0)(h12:∀i,i<ws.length->1<=ws.getD i 0∧ws.getD i 0<=2)(hn:2<=ws.length)(h60:ws.length<=512)(i:Nat)(hi:i<2*ws.length-1):dv (Qae ws (ws.length-1)).N i<=15:=by
 have h0:∀i,0<=ws.getD i 0:=fun i=>by
  by_cases h:i<ws.length
  ·have:=h12 i h;omega
  ·simp[List.getD,List.getElem?_eq_none (show ws.length<=i by omega)]
 obtain⟨hu,hl⟩:=Qkg ws h0 hn
 have hI:=TI.run ws h0 (ws.length-1) (by omega)
 have hN:=NI.run ws hs h12 h0 (ws.length-1) (by omega)
 have k1:=hI.ln
 have k2:=hI.np
 have k3:=hI.pl
 have k4:=hI.cnt
 have k5:=hI.last (by omega)
 have hsum:=hI.sum
 have hC:Qfl ws.length (Qbl ws).N 0 ws.length<=1024:=by
  unfold Qfl
  have e1:(Qbl ws).N.length=ws.length:=by simp[Qbl]
  rw[e1,Nat.sub_zero,Nat.sub_self,sumW]
  have:=Qi7 (Qbl ws).N 2 ws.length 0 (fun j _ b=>by rw[Qdw];exact(h12 j (by omega)).2)
  omega
 unfold Qfl at hsum
 rw[hl,show ws.length-(Qae ws (ws.length-1)).l=0 from by omega,show(Qae ws (ws.length-1)).p=2*ws.length-2 from by omega,show 2*ws.length-1-(2*ws.length-2)=1 from by omega,sumW,sumW,sumW] at hsum
 have hroot:wt (Qae ws (ws.length-1)).N (2*ws.length-2)<=1024:=by unfold Qfl at hC;omega
 have hup:∀i,i+1<2*ws.length-1->3*wt (Qae ws (ws.length-1)).N i<=2*wt (Qae ws (ws.length-1)).N (inn (Qae ws (ws.length-1)).N i).toNat:=fun i hi=>hN.up i (by omega)
 have hup2:∀i,i+1<2*ws.length-1->(inn (Qae ws (ws.length-1)).N i).toNat+1<2*ws.length-1->5*wt (Qae ws (ws.length-1)).N i<=2*wt (Qae ws (ws.length-1)).N (inn (Qae ws (ws.length-1)).N (inn (Qae ws (ws.length-1)).N i).toNat).toNat:=fun i hi hj=>hN.up2 i (by omega) (by omega)
 have hpos:∀i,i<2*ws.length-1->1<=wt (Qae ws (ws.length-1)).N i:=fun i hi=>hN.pos i (by omega)
 generalize (Qae ws (ws.length-1)).N=N at *
 clear hI hN hsum hC k1 k2 k3 k4 k5
 have htop:∀(k i:Nat),i<N.length->N.length<=i+k->wt N i<=1024:=by
  intro k
  induction k with
  | zero=>intro i h1 h2;omega
  | succ k ih=>
    intro i h1 h2
    by_cases c:i+1<N.length
    ·have hui:=hu i c
     have h3:=ih (inn N i).toNat (by omega) (by omega)
     have h4:=hup i (by omega)
     have h5:=hpos i (by omega)
     omega
    ·rw[show i=2*ws.length-2 from by omega];exact hroot
 have hd:∀(k i:Nat),i<N.length->2*(k:Int)<=dv N i->(5:Int)^k*wt N i<=2^k*1024:=by
  intro k
  induction k with
  | zero=>intro i h1 _;have:=htop N.length i h1 (by omega);simpa using this
  | succ k ih=>
    intro i h1 h2
    have c:i+1<N.length:=by
     by_cases c:i+1<N.length
     ·exact c
     ·rw[Qln N i c] at h2;omega
    have hui:=hu i c
    have e:=Qi8 hu i c
    have c2:(inn N i).toNat+1<N.length:=by
     by_cases c2:(inn N i).toNat+1<N.length
     ·exact c2
     ·rw[Qln N _ c2] at e;omega
    have hui2:=hu _ c2
    have e2:=Qi8 hu _ c2
    have h3:=ih (inn N (inn N i).toNat).toNat (by omega) (by omega)
    have h4:=hup2 i (by omega) (by omega)
    rw[Int.pow_succ,Int.pow_succ]
    have p5:(0:Int)<=5^k:=Int.le_of_lt (Int.pow_pos (by omega))
    have h5:=Int.mul_le_mul_of_nonneg_left h4 p5
    generalize (5:Int)^k=P at *
    generalize (2:Int)^k=Q at *
    generalize wt N (inn N (inn N i).toNat).toNat=y at *
    generalize wt N i=x at *
    have e1:P*5*x=P*(5*x):=by rw[Int.mul_assoc]
    have e2:P*(2*y)=2*(P*y):=by rw[Int.mul_left_comm]
    omega
 have h2:=hpos i hi
 by_cases c:dv N i<=15
 ·exact c
 ·exfalso
  have h1:=hd 8 i (by omega) (by omega)
  have e5:(5:Int)^8=390625:=by decide
  have e2:(2:Int)^8=256:=by decide
  rw[e5,e2] at h1
  omega
end Hf
end
/-
 CRC-32C as plain mathematics over natural numbers: a bit in, a byte in, a row in; that they are linear and can be taken back; joined sums; four bytes that make any sum; rows that differ within four bytes.
-/
namespace Cr.Crc
def poly:Nat:=2197175160
def ones:Nat:=4294967295
def sel(t:Nat):Nat:=if t%2=1 then poly else 0
def Qdi(r b:Nat):Nat:=r/2^^^sel (r^^^b)
def inN:Nat->Nat->Nat->Nat
 | 0,r,_=>r
 | k+1,r,b=>inN k (Qdi r b) (b/2)
def inB(r b:Nat):Nat:=inN 8 r b
def inR(r:Nat)(l:List Nat):Nat:=l.foldl inB r
theorem Qje(r:Nat):inR r []=r:=rfl
theorem Qg3(r b:Nat)(l:List Nat):inR r (b::l)=inR (inB r b) l:=List.foldl_cons ..
theorem xac(a b c d:Nat):(a^^^b)^^^(c^^^d)=(a^^^c)^^^(b^^^d):=by
 rw[Nat.xor_assoc,<-Nat.xor_assoc b c d,Nat.xor_comm b c,Nat.xor_assoc c b d,<-Nat.xor_assoc]
theorem Qr8(a b:Nat):(a^^^b)^^^b=a:=by rw[Nat.xor_assoc,Nat.xor_self,Nat.xor_zero]
theorem Qkf(a b:Nat):(a^^^b)%2=(a+b)%2:=by
 have h:=Nat.testBit_xor a b 0
 rw[Nat.testBit_zero,Nat.testBit_zero,Nat.testBit_zero] at h
 rcases Nat.mod_two_eq_zero_or_one a with ha | ha<;>rcases Nat.mod_two_eq_zero_or_one b with hb | hb<;>rcases Nat.mod_two_eq_zero_or_one (a^^^b) with hc | hc<;>rw[ha,hb,hc] at h<;>simp at h<;>omega
theorem Xha(a b:Nat):sel (a^^^b)=sel a^^^sel b:=by
 have h:(a^^^b)%2=(a+b)%2:=Qkf _ _
 unfold sel
 rw[h]
 rcases Nat.mod_two_eq_zero_or_one a with ha | ha<;>rcases Nat.mod_two_eq_zero_or_one b with hb | hb
 ·rw[if_neg (by omega),if_neg (by omega),if_neg (by omega)];rfl
 ·rw[if_pos (by omega),if_neg (by omega),if_pos (by omega)];simp
 ·rw[if_pos (by omega),if_pos (by omega),if_neg (by omega)];simp
 ·rw[if_neg (by omega),if_pos (by omega),if_pos (by omega)];simp
theorem Quw(a b:Nat):(a^^^b)/2=a/2^^^b/2:=Nat.xor_div_two
theorem Qy2(r s a b:Nat):Qdi (r^^^s) (a^^^b)=Qdi r a^^^Qdi s b:=by
 unfold Qdi
 rw[Quw,xac r s a b,Xha,xac]
theorem Qk0(k:Nat):∀r s a b:Nat,inN k (r^^^s) (a^^^b)=inN k r a^^^inN k s b:=by
 induction k with
 | zero=>intro r s a b;rfl
 | succ k ih=>intro r s a b;rw[inN,inN,inN,Qy2,Quw,ih]
theorem Xch(r s a b:Nat):inB (r^^^s) (a^^^b)=inB r a^^^inB s b:=Qk0 8 r s a b
theorem Qpi(k r b:Nat):inN k r b=inN k r 0^^^inN k 0 b:=by
 have:=Qk0 k r 0 0 b
 rw[Nat.xor_zero,Nat.zero_xor] at this
 exact this
theorem Qnu(k:Nat):∀b:Nat,b<2^k->inN k 0 b=inN k b 0:=by
 induction k with
 | zero=> intro b h;have:b=0:=by simpa using h
          rw[this]
 | succ k ih=>
   intro b h
   have hb:b/2<2^k:=by rw[Nat.pow_succ] at h;omega
   have e1:Qdi 0 b=sel b:=by simp[Qdi]
   have e2:Qdi b 0=sel b^^^b/2:=by rw[Qdi,Nat.xor_zero,Nat.xor_comm]
   rw[inN,inN,e1,e2,Qpi k (sel b) (b/2),ih _ hb]
   have:=Qk0 k (sel b) (b/2) 0 0
   rw[Nat.xor_zero] at this
   rw[show 0/2=0 from rfl,this]
theorem Qut(k r b:Nat)(h:b<2^k):inN k r b=inN k (r^^^b) 0:=by
 have:=Qk0 k r b 0 0
 rw[Nat.xor_zero] at this
 rw[Qpi,Qnu k b h,this]
theorem Qrf(k:Nat):∀x:Nat,inN k (x*2^k) 0=x:=by
 induction k with
 | zero=>intro x;simp[inN]
 | succ k ih=>
   intro x
   have e:Qdi (x*2^(k+1)) 0=x*2^k:=by
    unfold Qdi sel
    rw[Nat.xor_zero,Nat.pow_succ,<-Nat.mul_assoc,if_neg (by omega),Nat.xor_zero]
    omega
   rw[inN,e]
   exact ih x
theorem Qqh(r:Nat):r=(r/256*2^8)^^^(r%256):=by
 have h1:(r/256*2^8)|||(r%256)=r/256*2^8+r%256:=nat_join 8 _ _ (Nat.mul_mod_left _ _) (by omega)
 have h2:(r/256*2^8)&&&(r%256)=0:=by
  apply Nat.eq_of_testBit_eq
  intro i
  rw[Nat.testBit_and,Nat.zero_testBit]
  by_cases hi:i<8
  ·have:(r/256*2^8).testBit i=false:=by rw[Nat.testBit_mul_two_pow];simp;omega
   rw[this];rfl
  ·have:(r%256).testBit i=false:=Nat.testBit_lt_two_pow (Nat.lt_of_lt_of_le (show r%256<2^8 from by omega) (Nat.pow_le_pow_right (n:=2) (by decide) (by omega)))
   rw[this,Bool.and_false]
 have h3:(r/256*2^8)^^^(r%256)=(r/256*2^8)|||(r%256):=by
  apply Nat.eq_of_testBit_eq
  intro i
  have h:=congrArg (fun x=>x.testBit i) h2
  simp only[Nat.testBit_and,Nat.zero_testBit] at h
  rw[Nat.testBit_xor,Nat.testBit_or]
  revert h
  cases (r/256*2^8).testBit i<;>cases (r%256).testBit i<;>simp
 rw[h3,h1]
 omega
theorem Xb0(r b:Nat)(h:b<256):inB r b=r/256^^^inB 0 (r%256^^^b):=by
 have hx:r%256^^^b<2^8:=Nat.xor_lt_two_pow (by omega) (by omega)
 unfold inB
 rw[Qut 8 r b (by omega),Qnu 8 _ hx]
 conv=>lhs;rw[Qqh r]
 rw[Nat.xor_assoc]
 have:=Qk0 8 (r/256*2^8) (r%256^^^b) 0 0
 rw[Nat.xor_zero] at this
 rw[this,Qrf]
theorem Xgu(t:Nat):sel t<2^32:=by unfold sel poly;split<;>omega
theorem Quk(r b:Nat)(h:r<2^32):Qdi r b<2^32:=Nat.xor_lt_two_pow (by omega) (Xgu _)
theorem Xcm(k:Nat):∀r b:Nat,r<2^32->inN k r b<2^32:=by
 induction k with
 | zero=>intro r b h;exact h
 | succ k ih=>intro r b h;exact ih _ _ (Quk r b h)
theorem Qzc(r b:Nat)(h:r<2^32):inB r b<2^32:=Xcm 8 r b h
theorem Qnh(l:List Nat):∀r:Nat,r<2^32->inR r l<2^32:=by
 induction l with
 | nil=>intro r h;rw[Qje];exact h
 | cons b l ih=>intro r h;rw[Qg3];exact ih _ (Qzc r b h)
/-! Back -/
def Xbm(r b:Nat):Nat:=if r<2^31 then 2*r+b%2 else 2*(r^^^poly)+(1-b%2)
theorem Xij(x:Nat)(h:x<2^31):2^31<=x^^^poly∧x^^^poly<2^32:=by
 have h1:x^^^poly<2^32:=Nat.xor_lt_two_pow (by omega) (by unfold poly;omega)
 refine⟨?_,h1⟩
 have hb:(x^^^poly).testBit 31=true:=by
  rw[Nat.testBit_xor,Nat.testBit_lt_two_pow h]
  decide
 exact Nat.ge_two_pow_of_testBit hb
theorem Xhg(r b:Nat):(r^^^b)%2=(r+b)%2:=Qkf _ _
theorem Xbu(r b:Nat)(h:r<2^32):Xbm (Qdi r b) b=r:=by
 have hx:=Xhg r b
 unfold Qdi sel Xbm
 by_cases hs:(r^^^b)%2=1
 ·rw[if_pos hs,if_neg (by have:=(Xij (r/2) (by omega)).1;omega),Qr8]
  omega
 ·rw[if_neg hs,Nat.xor_zero,if_pos (by omega)]
  omega
theorem Qvn(k:Nat):∀r b:Nat,inN (k+1) r b=Qdi (inN k r b) (b/2^k):=by
 induction k with
 | zero=>intro r b;simp[inN]
 | succ k ih=>
   intro r b
   rw[inN,ih,inN,Nat.div_div_eq_div_mul,<-Nat.pow_succ']
def outN:Nat->Nat->Nat->Nat
 | 0,r,_=>r
 | k+1,r,b=>outN k (Xbm r (b/2^k)) b
def outB(r b:Nat):Nat:=outN 8 r b
def outR(r:Nat)(l:List Nat):Nat:=l.foldr (fun b r=>outB r b) r
theorem Xfk(r:Nat):outR r []=r:=rfl
theorem Xco(r b:Nat)(l:List Nat):outR r (b::l)=outB (outR r l) b:=List.foldr_cons ..
theorem Xjf(k:Nat):∀r b:Nat,r<2^32->outN k (inN k r b) b=r:=by
 induction k with
 | zero=>intro r b _;rfl
 | succ k ih=>intro r b h;rw[Qvn,outN,Xbu _ _ (Xcm k r b h),ih r b h]
theorem Xhb(r b:Nat)(h:r<2^32):outB (inB r b) b=r:=Xjf 8 r b h
theorem Qzy(l:List Nat):∀r:Nat,r<2^32->outR (inR r l) l=r:=by
 induction l with
 | nil=>intro r _;rw[Qje,Xfk]
 | cons b l ih=>
   intro r h
   rw[Qg3,Xco,ih _ (Qzc r b h),Xhb r b h]
theorem Xa5(l:List Nat)(r s:Nat)(hr:r<2^32)(hs:s<2^32)(h:inR r l=inR s l):r=s:=by
 rw[<-Qzy l r hr,<-Qzy l s hs,h]
theorem Qek(r:Nat)(l m:List Nat):inR r (l++m)=inR (inR r l) m:=by
 unfold inR;rw[List.foldl_append]
/-! Two rows at once -/
theorem Xiv(l:List Nat):∀(m:List Nat) (r s:Nat),l.length=m.length->inR (r^^^s) (List.zipWith (· ^^^ ·) l m)=inR r l^^^inR s m:=by
 induction l with
 | nil=>intro m r s h;cases m with
   | nil=>rw[List.zipWith_nil_left,Qje,Qje,Qje]
   | cons c m=>simp at h
 | cons b l ih=>
   intro m r s h
   cases m with
   | nil=>simp at h
   | cons c m=>
     rw[List.zipWith_cons_cons,Qg3,Qg3,Qg3,Xch,ih m _ _ (by simpa using h)]
def add(sum:Nat)(l:List Nat):Nat:=inR (sum^^^ones) l^^^ones
def back(sum:Nat)(l:List Nat):Nat:=outR (sum^^^ones) l^^^ones
theorem Ql5(a:Nat)(h:a<2^32):a^^^ones<2^32:=Nat.xor_lt_two_pow h (by unfold ones;omega)
theorem add_lt(s:Nat)(l:List Nat)(h:s<2^32):add s l<2^32:=Ql5 _ (Qnh l _ (Ql5 s h))
theorem Qxx(s:Nat)(l m:List Nat):add s (l++m)=add (add s l) m:=by
 rw[add,add,add,Qr8,Qek]
def four(x:Nat):List Nat:= [x%256,x/256%256,x/65536%256,x/16777216%256]
theorem Qn8(d x:Nat):inB (d^^^x) 0=inB d (x%256)^^^x/256:=by
 conv=>lhs;rw[Qqh x]
 have h1:d^^^((x/256*2^8)^^^(x%256))=(d^^^(x%256))^^^(x/256*2^8):=by
  rw[Nat.xor_comm (x/256*2^8),Nat.xor_assoc]
 rw[h1]
 have h2:=Xch (d^^^(x%256)) (x/256*2^8) 0 0
 rw[Nat.xor_zero] at h2
 rw[h2]
 have h3:inB (x/256*2^8) 0=x/256:=Qrf 8 (x/256)
 have h4:inB d (x%256)=inB (d^^^(x%256)) 0:=Qut 8 d (x%256) (by omega)
 rw[h3,h4]
theorem Xf0(d x:Nat)(hx:x<2^32):inR d (four x)=inR (d^^^x) [0,0,0,0]:=by
 rw[four]
 simp only[Qg3,Qje]
 rw[Qn8 d x,Qn8 _ (x/256),Nat.div_div_eq_div_mul,Qn8 _ (x/(256*256)),Nat.div_div_eq_div_mul,Qn8 _ (x/(256*256*256)),Nat.div_div_eq_div_mul]
 rw[show x/(256*256*256*256)=0 from by omega,Nat.xor_zero]
theorem near(s x:Nat)(pre mid suf:List Nat)(hs:s<2^32)(hx:x<2^32)(h0:x≠0)(hm:mid.length=4):
 add s (pre++mid++suf)≠add s (pre++List.zipWith (· ^^^ ·) mid (four x)++suf):=by
 intro h
 unfold add at h
 have h1:=congrArg (· ^^^ ones) h
 simp only[Qr8] at h1
 rw[Qek,Qek,Qek,Qek] at h1
 have hr:=Qnh pre _ (Ql5 s hs)
 have h2:=Xa5 suf _ _ (Qnh mid _ hr) (Qnh _ _ hr) h1
 have h3:=Xiv mid (four x) (inR (s^^^ones) pre) 0 (by rw[hm];rfl)
 rw[Nat.xor_zero] at h3
 rw[h3] at h2
 have h4:inR 0 (four x)=0:=by
  have:=congrArg (inR (inR (s^^^ones) pre) mid ^^^ ·) h2
  simp only[Nat.xor_self,<-Nat.xor_assoc,Nat.zero_xor] at this
  exact this.symm
 rw[Xf0 0 x hx,Nat.zero_xor] at h4
 have h5:inR 0 [0,0,0,0]=0:=by decide
 exact h0 (Xa5 [0,0,0,0] x 0 hx (by decide) (h4.trans h5.symm))
end Cr.Crc
/-
 Registers as polynomials: the product by which many bytes 0 go in at once.
-/
namespace Cr.Crc
def st(k r:Nat):Nat:=inN k r 0
theorem Xh6(k r:Nat):st (k+1) r=Qdi (st k r) 0:=by
 unfold st;rw[Qvn,Nat.zero_div]
theorem Xkq(k r:Nat)(h:r<2^32):st k r<2^32:=Xcm k r 0 h
theorem Qna(r:Nat):Qdi r 0=r/2^^^sel r:=by rw[Qdi,Nat.xor_zero]
def pick(b t:Nat):Nat:=b*(t%2)
def mulN(a b:Nat):Nat->Nat
 | 0=>0
 | k+1=>Qdi (mulN a b k) 0^^^pick b (a/2^k)
def mul(a b:Nat):Nat:=mulN a b 32
theorem Qzg(i x y:Nat)(hx:x<2^i)(hy:y%2^i=0):x^^^y=x+y:=by
 have h1:y|||x=y+x:=nat_join i y x hy hx
 have h3:x^^^y=y|||x:=by
  apply Nat.eq_of_testBit_eq
  intro j
  rw[Nat.testBit_xor,Nat.testBit_or]
  by_cases hj:j<i
  ·have:y.testBit j=false:=by
    have hy':y=2^i*(y/2^i):=by have:=Nat.div_add_mod y (2^i);omega
    rw[hy',Nat.testBit_two_pow_mul]
    simp;omega
   rw[this];simp
  ·have:x.testBit j=false:=Nat.testBit_lt_two_pow (Nat.lt_of_lt_of_le hx (Nat.pow_le_pow_right (n:=2) (by decide) (by omega)))
   rw[this];simp
 rw[h3,h1];omega
theorem Xf1(a:Nat):∀k,k<=32->mulN a (2^31) k=a%2^k*2^(32-k):=by
 intro k
 induction k with
 | zero=>intro _;rw[Nat.pow_zero,Nat.mod_one,Nat.zero_mul];rfl
 | succ k ih=>
   intro hk
   rw[mulN,ih (by omega),Qna]
   have e1:a%2^k*2^(32-k)=2*(a%2^k*2^(31-k)):=by
    rw[show 32-k=(31-k)+1 from by omega,Nat.pow_succ,<-Nat.mul_assoc,Nat.mul_comm]
   rw[e1,sel,if_neg (by omega),Nat.xor_zero,Nat.mul_div_cancel_left _ (by decide),show 32-(k+1)=31-k from by omega]
   have hlt:a%2^k*2^(31-k)<2^31:=by
    have h1:a%2^k<2^k:=Nat.mod_lt _ (Nat.two_pow_pos k)
    have h2:a%2^k*2^(31-k)<2^k*2^(31-k):=Nat.mul_lt_mul_of_pos_right h1 (Nat.two_pow_pos _)
    rwa[<-Nat.pow_add,show k+(31-k)=31 from by omega] at h2
   have hp:pick (2^31) (a/2^k)%2^31=0:=by unfold pick;exact Nat.mul_mod_right _ _
   rw[Qzg 31 _ _ hlt hp,Nat.mod_pow_succ,Nat.add_mul,pick]
   have e2:2^k*(a/2^k%2)*2^(31-k)=2^31*(a/2^k%2):=by
    rw[Nat.mul_right_comm,<-Nat.pow_add,show k+(31-k)=31 from by omega]
   rw[e2]
theorem mul_one(a:Nat)(h:a<2^32):mul a (2^31)=a:=by
 rw[mul,Xf1 a 32 (Nat.le_refl _),Nat.mod_eq_of_lt h,Nat.sub_self,Nat.pow_zero,Nat.mul_one]
end Cr.Crc
/-
 Plain facts: what was encoded is decoded, whatever stands behind it.
-/
section
namespace Hf
theorem Xjp(b:List Int)(at' l d:Nat):vb b at' l=vb b at' (l+d)/2^d:=by
 induction d with
 | zero=>simp
 | succ d ih=>
   have:=Qol b (at'+(l+d))
   rw[ih,<-Nat.add_assoc,vb,Nat.pow_succ,Nat.mul_comm (2^d) 2,<-Nat.div_div_eq_div_mul,show(vb b at' (l+d)*2+bitV b (at'+(l+d)))/2=vb b at' (l+d) from by omega]
theorem Xc9(zs:List Int)(l d:Nat):(first zs l+cnt zs l)*2^(d+1)<=first zs (l+d+1):=by
 induction d with
 | zero=>rw[first];simp
 | succ d ih=>
   rw[Nat.pow_succ,<-Nat.mul_assoc,show l+(d+1)+1=(l+d+1)+1 from by omega,first]
   exact Nat.mul_le_mul_right 2 (Nat.le_trans ih (Nat.le_add_right _ _))
theorem Qun(zs b:List Int)(at' s L:Nat)(hs:s<zs.length)(hz:zs.getD s 0=(L:Int))(hL:L<16)(h0:0<L)(hr:at'+L<=8*b.length)(hv:vb b at' L=Qbx zs s):
 ∀f l,0<l->l<=L->L<l+f->oneG zs b at' f l=((s:Int),(L:Int))
 | 0,l,_,h1,h2=>by omega
 | f+1,l,h,h1,h2=>by
   rw[oneG,if_pos ⟨by omega,by omega⟩]
   by_cases he:l=L
   ·subst he;rw[Qve h0 hs hz hv.symm]
   ·have hw:who zs l (vb b at' l)=none:=Qul (fun t ht htz hc=>by
     have c1:=Qf1 zs t l htz
     have c2:=Qen zs t l ht htz h
     have c3:=Qf1 zs s L hz
     have c4:=Xc9 zs l (L-l-1)
     rw[show L-l-1+1=L-l from by omega,show l+(L-l-1)+1=L from by omega] at c4
     have c5:=Xjp b at' l (L-l)
     rw[show l+(L-l)=L from by omega,hv] at c5
     have c6:first zs l+cnt zs l<=Qbx zs s/2^(L-l):=by
      rw[Nat.le_div_iff_mul_le (Nat.two_pow_pos _)]
      omega
     omega)
    rw[hw]
    exact Qun zs b at' s L hs hz hL h0 hr hv f (l+1) (by omega) (by omega) (by omega)
theorem Xd0(zs b:List Int)(at' s L:Nat)(hs:s<zs.length)(hz:zs.getD s 0=(L:Int))(hL:L<16)(h0:0<L)(hr:at'+L<=8*b.length)(hv:vb b at' L=Qbx zs s):oneF zs b at'=((s:Int),(L:Int)):=
 Qun zs b at' s L hs hz hL h0 hr hv 16 1 (by omega) (by omega) (by omega)
end Hf
end
/-
 Bits as the document packs them: bytes whose bits are a row of bits and fewer than eight zeros are the row's packing.
-/
section
open Hf
def numG(a:Nat)(l:List Nat):Nat:=l.foldl (fun a b=>a*2+b) a
theorem Qoh:∀(l:List Nat) (a:Nat),numG a l=a*2^l.length+numG 0 l
 | [],a=>by simp[numG]
 | b::l,a=>by
   have h1:=Qoh l (a*2+b)
   have h2:=Qoh l (0*2+b)
   show numG (a*2+b) l=a*2^(l.length+1)+numG (0*2+b) l
   rw[h1,h2,Nat.pow_succ,Nat.add_mul,Nat.zero_mul,Nat.zero_add,Nat.mul_assoc,Nat.mul_comm 2,Nat.add_assoc]
theorem Qko(l m:List Nat)(a:Nat):numG a (l++m)=numG a l*2^m.length+numG 0 m:=by
 rw[show numG a (l++m)=numG (numG a l) m from by simp[numG,List.foldl_append],Qoh m]
theorem Qj6(x:Nat):∀n,numG 0 (low x n)=x%2^n
 | 0=>by simp[low,numG,Nat.mod_one]
 | n+1=>by
   show numG (0*2+x/2^n%2) (low x n)=_
   rw[Qoh,Qj6 x n,Qa6,Nat.zero_mul,Nat.zero_add,Nat.pow_succ]
   have h:=Nat.mod_mul (a:=2^n) (b:=2) (x:=x)
   rw[h,Nat.mul_comm,Nat.add_comm]
theorem Qwo(p:Nat):numG 0 (List.replicate p 0)=0:=by
 induction p with
 | zero=>rfl
 | succ p ih=>show numG (0*2+0) (List.replicate p 0)=0;exact ih
theorem Qxm(N q:Nat)(z:Nat)(hz:z<256):Qex (N*256+z) (8*(q+1))=Qex N (8*q)++ [(z:Int)]:=by
 refine Qpf (by rw[List.length_append,Qa9,Qa9];simp) (fun j hj=>?_)
 rw[Qa9] at hj
 have hq:8*(q+1)/8=q+1:=by omega
 have hq2:8*q/8=q:=by omega
 rw[hq] at hj
 rw[Qc7 _ _ _ (by omega)]
 by_cases h:j<q
 ·have e:(Qex N (8*q)++ [(z:Int)]).getD j 0=(Qex N (8*q)).getD j 0:=by
   simp[List.getD,List.getElem?_append_left (show j<(Qex N (8*q)).length from by rw[Qa9];omega)]
  rw[e,Qc7 _ _ _ (by omega),show 8*(q+1)-8*(j+1)=8+(8*q-8*(j+1)) from by omega,Nat.pow_add,<-Nat.div_div_eq_div_mul,show(N*256+z)/2^8=N from by omega]
 ·obtain rfl:j=q:=by omega
  have e:(Qex N (8*j)++ [(z:Int)]).getD j 0=(z:Int):=by
   simp[List.getD,Qa9,hq2]
  rw[e,Nat.sub_self,Nat.pow_zero,Nat.div_one]
  omega
def bytB(M:List Int):List Nat:=M.flatMap fun z=>low z.toNat 8
theorem Qhf(M:List Int):(bytB M).length=8*M.length:=by
 induction M with
 | nil=>rfl
 | cons z M ih=>rw[show bytB (z::M)=low z.toNat 8++bytB M from rfl,List.length_append,Qa6,ih,List.length_cons];omega
theorem Xad(M:List Int)(z:Int):bytB (M++ [z])=bytB M++low z.toNat 8:=by simp[bytB]
theorem Qmt:∀(k:Nat) (M:List Int),M.length=k->(∀z∈M,0<=z∧z<=255)->M=Qex (numG 0 (bytB M)) (8*M.length)
 | 0,M,h,_=>by
   obtain rfl:=List.length_eq_zero_iff.1 h
   rfl
 | k+1,M,h,hM=>by
   obtain⟨M',z,rfl⟩:∃M' z,M=M'++ [z]:=⟨M.dropLast,M.getLast (by intro e;subst e;cases h),(List.dropLast_concat_getLast _).symm⟩
   have hl:M'.length=k:=by simpa using h
   have ih:=Qmt k M' hl (fun y hy=>hM y (by simp[hy]))
   have hz:=hM z (by simp)
   have e:((z.toNat:Nat):Int)=z:=by omega
   rw[Xad,Qko,Qa6,Qj6,Nat.mod_eq_of_lt (show z.toNat<2^8 from by omega),List.length_append,List.length_singleton,show(2:Nat)^8=256 from rfl,Qxm _ _ _ (by omega),<-ih,e]
theorem Xju{n p k:Nat}(h:8*k=n+p)(hp:p<8):p=padN n:=by
 unfold padN
 split<;>omega
theorem Qwx(M:List Int)(hM:∀z∈M,0<=z∧z<=255)(B:List Nat)(p:Nat)(h:bytB M=B++List.replicate p 0)(hp:p<8):M=Qbz (numG 0 B) B.length:=by
 have h1:=Qmt M.length M rfl hM
 have h2:8*M.length=B.length+p:=by rw[<-Qhf,h];simp
 rw[h1,h,Qko,List.length_replicate,Qwo,Nat.add_zero,h2,Xju h2 hp]
 rfl
def bitN(b:Bool):Nat:=if b then 1 else 0
theorem Xgv:∀(k:Nat) (bs:List Bool),bs.length=k->nB bs bs.length=numG 0 (bs.map bitN)
 | 0,bs,h=>by
   obtain rfl:=List.length_eq_zero_iff.1 h
   rfl
 | k+1,bs,h=>by
   obtain⟨b',z,rfl⟩:∃M' z,bs=M'++ [z]:=⟨bs.dropLast,bs.getLast (by intro e;subst e;cases h),(List.dropLast_concat_getLast _).symm⟩
   have hl:b'.length=k:=by simpa using h
   have ih:=Xgv k b' hl
   rw[List.length_append,List.length_singleton,Xcd,ih,List.map_append,Qko]
   simp[nB,numG,bitN]
theorem Qj9(c:Nat):∀n,(Qcx c n).map bitN=low c n
 | 0=>rfl
 | n+1=>by
   have ih:=Qj9 c n
   refine List.ext_getElem (by rw[List.length_map,Qbm,Qa6]) (fun i h1 h2=>?_)
   cases i with
   | zero=>simp[Qcx,Qsq,low,bitN];split<;>omega
   | succ i=>
     have e:(low c n)[i]'(by rw[Qa6] at h2|-;omega)=((Qcx c n).map bitN)[i]'(by rw[List.length_map,Qbm];rw[Qa6] at h2;omega):=by
      simp only[ih]
     simp only[low,List.getElem_cons_succ]
     rw[e]
     simp only[List.getElem_map,Qcx,List.getElem_range,Qsq]
     rw[show n+1-1-(i+1)=n-1-i from by omega]
theorem Xa7(M:List Int)(hM:∀z∈M,0<=z∧z<=255)(bs:List Bool)(p:Nat)(h:bytB M=bs.map bitN++List.replicate p 0)(hp:p<8):M=Qbz (nB bs bs.length) bs.length:=by
 have:=Qwx M hM _ p h hp
 rwa[<-Xgv _ _ rfl,List.length_map] at this
end
/-
 What the document's reader finds at a place of the bits.
-/
section
open Hf
theorem Qvg(x:Nat):∀n i,i<n->(low x n).getD i 0=x/2^(n-1-i)%2
 | 0,_,h=>absurd h (Nat.not_lt_zero _)
 | n+1,0,_=>by simp[low]
 | n+1,i+1,h=>by
   rw[show(low x (n+1)).getD (i+1) 0=(low x n).getD i 0 from by simp[low,List.getD],Qvg x n i (by omega),show n+1-1-(i+1)=n-1-i from by omega]
theorem Qvr:∀(b:List Int) (i:Nat),i<8*b.length->(bytB b).getD i 0=bitV b i
 | [],i,h=>absurd h (by simp)
 | z::b,i,h=>by
   rw[show bytB (z::b)=low z.toNat 8++bytB b from rfl]
   by_cases h8:i<8
   ·rw[show(low z.toNat 8++bytB b).getD i 0=(low z.toNat 8).getD i 0 from by simp[List.getD,List.getElem?_append_left (show i<(low z.toNat 8).length by rw[Qa6];exact h8)],Qvg _ _ _ h8]
    unfold bitV
    rw[show i/8=0 from by omega,show i%8=i from by omega,show 8-1-i=7-i from by omega]
    rfl
   ·rw[show(low z.toNat 8++bytB b).getD i 0=(bytB b).getD (i-8) 0 from by simp[List.getD,List.getElem?_append_right (show(low z.toNat 8).length<=i by rw[Qa6];omega),Qa6],Qvr b (i-8) (by rw[List.length_cons] at h;omega)]
    unfold bitV
    rw[show i/8=(i-8)/8+1 from by omega,show(i-8)%8=i%8 from by omega]
    rfl
theorem Xaq(b:List Int)(at':Nat):∀l,at'+l<=8*b.length->vb b at' l=numG 0 (((bytB b).drop at').take l)
 | 0,_=>by simp[vb,numG]
 | l+1,h=>by
   have hl:at'+l<(bytB b).length:=by rw[Qhf];omega
   have e:((bytB b).drop at').take (l+1)=((bytB b).drop at').take l++ [(bytB b).getD (at'+l) 0]:=by
    rw[List.take_succ_eq_append_getElem (by rw[List.length_drop];omega),List.getElem_drop]
    simp[List.getD,List.getElem?_eq_getElem hl]
   rw[e,Qko,Qvr _ _ (by omega),vb,Xaq b at' l (by omega)]
   simp[numG]
theorem Qpk(b:List Int)(at' c l:Nat)(r:List Nat)(h:(bytB b).drop at'=low c l++r):at'+l<=8*b.length∨l=0:=by
 by_cases h0:l=0
 ·exact .inr h0
 ·have:=congrArg List.length h
  rw[List.length_drop,Qhf,List.length_append,Qa6] at this
  exact .inl (by omega)
theorem Xh7(b:List Int)(at' c l:Nat)(r:List Nat)(h:(bytB b).drop at'=low c l++r)(hc:c<2^l):vb b at' l=c:=by
 rcases Qpk b at' c l r h with h1 | h1
 ·rw[Xaq b at' l h1,h,show(low c l++r).take l=low c l from by
   have:=List.take_left (l₁:=low c l) (l₂:=r)
   rwa[Qa6] at this,Qj6,Nat.mod_eq_of_lt hc]
 ·subst h1
  have:c=0:=by simpa using hc
  rw[this];rfl
theorem Qtm(zs b:List Int)(hc:Qal zs=true)(at' s L:Nat)(r:List Nat)(hs:s<zs.length)(hz:zs.getD s 0=(L:Int))(h0:0<L)(hL:L<=15)(h:(bytB b).drop at'=low (Qbx zs s) L++r):oneF zs b at'=((s:Int),(L:Int)):=by
 have hlt:=Qh8 hc s L hs hz h0 hL
 refine Xd0 zs b at' s L hs hz (by omega) h0 ?_ (Xh7 b at' _ _ r h hlt)
 rcases Qpk b at' _ _ r h with h1 | h1
 ·exact h1
 ·omega
theorem Qj3(b:List Int)(at' c l:Nat)(r:List Nat)(h:(bytB b).drop at'=low c l++r):(bytB b).drop (at'+l)=r:=by
 rw[<-List.drop_drop,h]
 have:=List.drop_left (l₁:=low c l) (l₂:=r)
 rwa[Qa6] at this
end
/-
 The document's reader of tokens, on rows of bytes: it reads what stands there as tokens' bits.
-/
section
open Hf
def tokD(ls ds b:List Int)(at':Nat):Option ((Int×Int×Int)×Nat):=
 if (oneF ls b at').1<0 then none
 else if (oneF ls b at').1<256 then some ((0,1,(oneF ls b at').1),at'+(oneF ls b at').2.toNat)
 else if (oneF ds b (at'+(oneF ls b at').2.toNat)).1<0∨8*b.length<at'+(oneF ls b at').2.toNat+(oneF ds b (at'+(oneF ls b at').2.toNat)).2.toNat+(oneF ds b (at'+(oneF ls b at').2.toNat)).1.toNat then none
 else some (((2^(oneF ds b (at'+(oneF ls b at').2.toNat)).1.toNat+vb b (at'+(oneF ls b at').2.toNat+(oneF ds b (at'+(oneF ls b at').2.toNat)).2.toNat) (oneF ds b (at'+(oneF ls b at').2.toNat)).1.toNat:Nat),(oneF ls b at').1-252,0),at'+(oneF ls b at').2.toNat+(oneF ds b (at'+(oneF ls b at').2.toNat)).2.toNat+(oneF ds b (at'+(oneF ls b at').2.toNat)).1.toNat)
def Qe7(ls ds b:List Int):Nat->Nat->List (Int×Int×Int)->Option (List (Int×Int×Int)×Nat)
 | 0,at',acc=>some (acc,at')
 | n+1,at',acc=>match tokD ls ds b at' with
   | none=>none
   | some (t,p)=>Qe7 ls ds b n p (acc++ [t])
theorem Xjn(b:List Int)(at' c l:Nat)(r:List Nat)(h:(bytB b).drop at'=low c l++r):vb b at' l=c%2^l:=by
 rcases Qpk b at' c l r h with h1 | h1
 ·rw[Xaq b at' l h1,h,show(low c l++r).take l=low c l from by
   have:=List.take_left (l₁:=low c l) (l₂:=r)
   rwa[Qa6] at this,Qj6]
 ·subst h1
  simp[vb,Nat.mod_one]
theorem Xe5(ls ds b:List Int)(hc:Qal ls=true)(at' x L:Nat)(r:List Nat)(hx:x<256)(hs:x<ls.length)(hz:ls.getD x 0=(L:Int))(h0:0<L)(hL:L<=15)(h:(bytB b).drop at'=low (Qbx ls x) L++r):
 tokD ls ds b at'=some ((0,1,(x:Int)),at'+L)∧(bytB b).drop (at'+L)=r:=by
 have h1:=Qtm ls b hc at' x L r hs hz h0 hL h
 refine⟨?_,Qj3 b at' _ L r h⟩
 unfold tokD
 rw[h1]
 dsimp only
 rw[if_neg (by omega),if_pos (by omega),Int.toNat_natCast]
theorem Xb5(ls ds b:List Int)(hc:Qal ls=true)(hd:Qal ds=true)(at' s L k K d:Nat)(r:List Nat)(hs:s<ls.length)(hz:ls.getD s 0=(L:Int))(h0:0<L)(hL:L<=15)(h256:256<=s)(hk:k<ds.length)(hK:ds.getD k 0=(K:Int))(k0:0<K)(hK2:K<=15)(hdk:2^k<=d∧d<2^(k+1))(h:(bytB b).drop at'=low (Qbx ls s) L++(low (Qbx ds k) K++(low d k++r))):
 tokD ls ds b at'=some (((d:Int),(s:Int)-252,0),at'+L+K+k)∧(bytB b).drop (at'+L+K+k)=r:=by
 have h1:=Qtm ls b hc at' s L _ hs hz h0 hL h
 have d1:=Qj3 b at' _ L _ h
 have h2:=Qtm ds b hd (at'+L) k K _ hk hK k0 hK2 d1
 have d2:=Qj3 b (at'+L) _ K _ d1
 have h3:=Xjn b (at'+L+K) d k r d2
 have d3:=Qj3 b (at'+L+K) _ k r d2
 refine⟨?_,d3⟩
 have hv:2^k+d%2^k=d:=by
  rw[Nat.pow_succ] at hdk
  have e:d/2^k=1:=by
   rw[Nat.div_eq_iff (Nat.two_pow_pos k)]
   omega
  have:=Nat.div_add_mod d (2^k)
  rw[e,Nat.mul_one] at this
  exact this
 have hb:¬8*b.length<at'+L+K+k:=by
  rcases Qpk b (at'+L+K) d k r d2 with h9 | h9
  ·omega
  ·rcases Qpk b (at'+L) _ K _ d1 with h8 | h8<;>omega
 unfold tokD
 simp only[h1,Int.toNat_natCast,h2,h3]
 rw[if_neg (by omega),if_neg (by omega),if_neg (by rintro (h9 | h9);omega;exact hb h9),hv]
theorem Qq5(ls ds b:List Int)(f:Int×Int×Int->List Nat):∀(l:List (Int×Int×Int)),(∀t∈l,∀at' r,(bytB b).drop at'=f t++r->∃p,tokD ls ds b at'=some (t,p)∧(bytB b).drop p=r) ->
 ∀at' r acc,(bytB b).drop at'=l.flatMap f++r->∃p,Qe7 ls ds b l.length at' acc=some (acc++l,p)∧(bytB b).drop p=r
 | [],_,at',r,acc,h=>⟨at',by simp[Qe7],h⟩
 | t::l,hl,at',r,acc,h=>by
   rw[List.flatMap_cons,List.append_assoc] at h
   obtain⟨p,h1,h2⟩:=hl t (by simp) at' _ h
   obtain⟨q,h3,h4⟩:=Qq5 ls ds b f l (fun u hu=>hl u (by simp[hu])) p r (acc++ [t]) h2
   refine⟨q,?_,h4⟩
   rw[List.length_cons,Qe7,h1]
   dsimp only
   rw[h3,List.append_assoc,List.singleton_append]
theorem Qpm(ls ds b:List Int):∀n at' acc l p,Qe7 ls ds b n at' acc=some (l,p)->l.length=acc.length+n
 | 0,at',acc,l,p,h=>by
   simp only[Qe7,Option.some.injEq,Prod.mk.injEq] at h
   rw[<-h.1];rfl
 | n+1,at',acc,l,p,h=>by
   rw[Qe7] at h
   split at h
   ·cases h
   ·have:=Qpm ls ds b n _ _ l p h
    rw[this,List.length_append,List.length_singleton]
    omega
end
end Go.Proofs.YtibjlbcnapoblaaGreatDoor
