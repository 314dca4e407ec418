/- Contracts and facts. -/
import Derived.Test.YtibjlbcnapoblaaGreatDoorPart02
namespace Go.Proofs.YtibjlbcnapoblaaGreatDoor
set_option maxRecDepth 100000
set_option maxHeartbeats 6400000
section
namespace Hf
theorem Qkk{n:Nat}{N:Nodes}{l p:Nat}(hl:∀i j,i<=j->j<n->wt N i<=wt N j)(hp:∀i j,n<=i->i<=j->j<N.length->wt N i<=wt N j)(np:n<=p):
 ∀j,((l<=j∧j<n)∨(p<=j∧j<N.length))->wt N (takeA n N l p)<=wt N j:=by
 intro j hj
 unfold takeA
 cases hu:Qb5 n N l p with
 | true=>
   unfold Qb5 at hu
   rw[Bool.or_eq_true,beq_iff_eq,Bool.and_eq_true,decide_eq_true_eq,decide_eq_true_eq] at hu
   simp only[if_true]
   rcases hj with hj | hj
   ·exact hl l j hj.1 hj.2
   ·rcases hu with hu | hu
    ·omega
    ·have:=hp p j np hj.1 hj.2;omega
 | false=>
   unfold Qb5 at hu
   rw[Bool.or_eq_false_iff,Bool.and_eq_false_iff,decide_eq_false_iff_not,decide_eq_false_iff_not] at hu
   simp only[Bool.false_eq_true,if_false]
   rcases hj with hj | hj
   ·have:=hl l j hj.1 hj.2
    have h2:¬wt N l<=wt N p:=by
     rcases hu.2 with h | h
     ·omega
     ·exact h
    omega
   ·exact hp p j np hj.1 hj.2
structure NI (n t:Nat) (s:TS):Prop where
 leaf:∀i j,i<=j->j<n->wt s.N i<=wt s.N j
 pair:∀i j,n<=i->i<=j->j<n+t->wt s.N i<=wt s.N j
 pos:∀i,i<n+t->1<=wt s.N i
 near:∀i j,((s.l<=i∧i<n)∨(s.p<=i∧i<n+t))->((s.l<=j∧j<n)∨(s.p<=j∧j<n+t))->wt s.N i<=2*wt s.N j
 up:∀i,(i<s.l∨(n<=i∧i<s.p))->3*wt s.N i<=2*wt s.N (inn s.N i).toNat
 low:∀i j,(i<s.l∨(n<=i∧i<s.p))->((s.l<=j∧j<n)∨(s.p<=j∧j<n+t))->wt s.N i<=wt s.N j
 up2:∀i,(i<s.l∨(n<=i∧i<s.p))->((inn s.N i).toNat<s.l∨(n<=(inn s.N i).toNat∧(inn s.N i).toNat<s.p))->5*wt s.N i<=2*wt s.N (inn s.N (inn s.N i).toNat).toNat
theorem NI.step{n:Nat}{C:Int}{t:Nat}{s:TS}(h:TI n C t s)(hN:NI n t s)(ht:t+2<=n):NI n (t+1) (Qcc n s):=by
 have hlen:=h.len
 have hln:=h.ln
 have hnp:=h.np
 have hpl:=h.pl
 have hcnt:=h.cnt
 have hlast:=h.last
 obtain⟨s1,s2,s3,s4,s5⟩:=Qf3 h ht
 obtain⟨a1,a2,a3,a4,a5,_,a7⟩:=take_one (n:=n) (N:=s.N) (l:=s.l) (p:=s.p) h.ln h.np (by omega) (by omega)
 obtain⟨b1,b2,b3,b4,b5,_,b7⟩:=take_one (n:=n) (N:=s.N) (l:=Qa0 n s.N s.l s.p) (p:=Qay n s.N s.l s.p) a2 a3 a4 (by omega)
 have m1:=Qkk (n:=n) (N:=s.N) (l:=s.l) (p:=s.p) hN.leaf (by rw[hlen];exact hN.pair) h.np
 have m2:=Qkk (n:=n) (N:=s.N) (l:=Qa0 n s.N s.l s.p) (p:=Qay n s.N s.l s.p) hN.leaf (by rw[hlen];exact hN.pair) a3
 have hA:Qfb n s=takeA n s.N s.l s.p:=rfl
 have hB:Qfe n s=takeA n s.N (Qa0 n s.N s.l s.p) (Qay n s.N s.l s.p):=rfl
 rw[<-hA] at a1 a7 m1
 rw[<-hB] at b1 b7 m2
 have hl2:(Qcc n s).l=Qa0 n s.N (Qa0 n s.N s.l s.p) (Qay n s.N s.l s.p):=rfl
 have hp2:(Qcc n s).p=Qay n s.N (Qa0 n s.N s.l s.p) (Qay n s.N s.l s.p):=rfl
 rw[<-hl2,<-hp2] at b5 b7
 rw[<-hl2] at b2
 rw[<-hp2] at b3 b4
 rw[hlen] at a1 a4 a7 b1 b4 b7 m1 m2 s2 s3 s4 s5
 have hpar:=h.par
 have hnear:=hN.near
 clear hA hB hl2 hp2
 generalize Qfb n s=A at *
 generalize Qfe n s=B at *
 generalize Qa0 n s.N s.l s.p=l1 at *
 generalize Qay n s.N s.l s.p=p1 at *
 have fA:(s.l<=A∧A<n)∨(s.p<=A∧A<n+t):=by omega
 have fB:(s.l<=B∧B<n)∨(s.p<=B∧B<n+t):=by omega
 have hab:=m1 B fB
 have nAB:=hnear A B fA fB
 have nBA:=hnear B A fB fA
 have pA:=hN.pos A a1
 have pB:=hN.pos B b1
 refine⟨fun i j e1 e2=>?_,fun i j e1 e2 e3=>?_,fun i e1=>?_,fun i j e1 e2=>?_,fun i e1=>?_,fun i j e1 e2=>?_,fun i e1 e2=>?_⟩
 ·rw[s4 i (by omega),s4 j (by omega)];exact hN.leaf i j e1 e2
 ·by_cases c1:j<n+t
  ·rw[s4 i (by omega),s4 j c1];exact hN.pair i j e1 e2 c1
  ·obtain rfl:j=n+t:=by omega
   by_cases c2:i=n+t
   ·rw[c2];omega
   ·rw[s4 i (by omega),s5]
    have h1:=hN.pair i (n+t-1) e1 (by omega) (by omega)
    have h2:=hnear (n+t-1) A (by have:=hlast (by omega);omega) fA
    omega
 ·by_cases c1:i<n+t
  ·rw[s4 i c1];exact hN.pos i c1
  ·obtain rfl:i=n+t:=by omega
   rw[s5];omega
 ·by_cases c1:i<n+t
  ·have fi:(s.l<=i∧i<n)∨(s.p<=i∧i<n+t):=by omega
   rw[s4 i c1]
   by_cases c2:j<n+t
   ·rw[s4 j c2];exact hnear i j fi (by omega)
   ·obtain rfl:j=n+t:=by omega
    rw[s5]
    have:=hnear i A fi fA
    omega
  ·obtain rfl:i=n+t:=by omega
   rw[s5]
   by_cases c2:j<n+t
   ·rw[s4 j c2]
    have:=m2 j (by omega)
    omega
   ·obtain rfl:j=n+t:=by omega
    rw[s5];omega
 ·by_cases c1:i=A
  ·subst c1
   rw[s2,Int.toNat_natCast,s5,s4 i a1];omega
  ·by_cases c2:i=B
   ·subst c2
    rw[s3,Int.toNat_natCast,s5,s4 i b1];omega
   ·have ti:i<s.l∨(n<=i∧i<s.p):=by omega
    have hp:=hpar i ti
    rw[s1 i ti,s4 i (by omega),s4 _ (by omega)]
    exact hN.up i ti
 ·have hj:(j<n+t∧wt s.N B<=wt s.N j∧wt (Qcc n s).N j=wt s.N j∧((s.l<=j∧j<n)∨(s.p<=j∧j<n+t)))∨(j=n+t∧wt (Qcc n s).N j=wt s.N A+wt s.N B):=by
   by_cases c:j<n+t
   ·exact Or.inl ⟨c,m2 j (by omega),s4 j c,by omega⟩
   ·obtain rfl:j=n+t:=by omega
    exact Or.inr ⟨rfl,s5⟩
  by_cases c1:i=A
  ·rw[c1,s4 A a1];omega
  ·by_cases c2:i=B
   ·rw[c2,s4 B b1];omega
   ·have ti:i<s.l∨(n<=i∧i<s.p):=by omega
    have l1:=hN.low i A ti fA
    rw[s4 i (by omega)]
    rcases hj with ⟨_,_,e,fj⟩ | ⟨_,e⟩
    ·rw[e];exact hN.low i j ti fj
    ·rw[e];omega
 ·by_cases c1:i=A
  ·rw[c1,s2,Int.toNat_natCast] at e2;omega
  ·by_cases c2:i=B
   ·rw[c2,s3,Int.toNat_natCast] at e2;omega
   ·have ti:i<s.l∨(n<=i∧i<s.p):=by omega
    have hp:=hpar i ti
    have hu:=hN.up i ti
    have lA:=hN.low i A ti fA
    have lB:=hN.low i B ti fB
    have hu2:=hN.up2 i ti
    rw[s1 i ti] at e2
    rw[s1 i ti,s4 i (by omega)]
    obtain⟨q,hq⟩:∃q,q=(inn s.N i).toNat:=⟨_,rfl⟩
    rw[<-hq] at e2 hu hu2
    rw[<-hq]
    by_cases d1:q=A
    ·rw[d1] at hu
     rw[d1,s2,Int.toNat_natCast,s5];omega
    ·by_cases d2:q=B
     ·rw[d2] at hu
      rw[d2,s3,Int.toNat_natCast,s5];omega
     ·have tq:q<s.l∨(n<=q∧q<s.p):=by omega
      have hpq:=hpar q tq
      rw[s1 q tq,s4 _ (by omega)]
      exact hu2 tq
theorem Qdx(ws:List Int)(i:Nat):wt (Qbk ws).N i=ws.getD i 0:=by
 unfold wt Qbk
 simp only[List.getD,List.getElem?_map]
 cases ws[i]?<;>simp
theorem NI.start(ws:List Int)(hs:∀i j,i<=j->j<ws.length->ws.getD i 0<=ws.getD j 0)(h12:∀i,i<ws.length->1<=ws.getD i 0∧ws.getD i 0<=2):NI ws.length 0 (Qbk ws):=by
 have e1:(Qbk ws).l=0:=rfl
 have e2:(Qbk ws).p=ws.length:=rfl
 refine⟨fun i j a b=>?_,fun i j a b c=>by omega,fun i a=>?_,fun i j a b=>?_,fun i a=>by omega,fun i j a b=>by omega,fun i a=>by omega⟩
 ·rw[Qdx,Qdx];exact hs i j a b
 ·rw[Qdx];exact(h12 i (by omega)).1
 ·rw[Qdx,Qdx]
  have:=h12 i (by omega)
  have:=h12 j (by omega)
  omega
theorem NI.run(ws:List Int)(hs:∀i j,i<=j->j<ws.length->ws.getD i 0<=ws.getD j 0)(h12:∀i,i<ws.length->1<=ws.getD i 0∧ws.getD i 0<=2)(h0:∀i,0<=ws.getD i 0)(t:Nat)(ht:t+1<=ws.length):NI ws.length t (Qae ws t):=by
 induction t with
 | zero=>exact NI.start ws hs h12
 | succ t ih=>exact NI.step (TI.run ws h0 t (by omega)) (ih (by omega)) (by omega)
theorem Qjg(N:Nodes)(c:Int):∀(k i:Nat),(∀j,i<=j->j<i+k->wt N j<=c)->Qiw N i k<=c*(k:Int)
 | 0,_,_=>by simp[Qiw]
 | k+1,i,h=>by
   rw[Qiw]
   have h1:=h i (Nat.le_refl _) (by omega)
   have h2:=Qjg N c k (i+1) (fun j a b=>h j (by omega) (by omega))
   have e:c*((k+1:Nat):Int)=c*(k:Int)+c:=by rw[Int.natCast_add,Int.mul_add];simp
   omega
theorem Xam(ws:List Int)(hs:∀i j,i<=j->j<ws.length->ws.getD i 0<=ws.getD j 0)(h12:∀i,i<ws.length->1<=ws.getD i 0∧ws.getD i 0<=2)(hn:2<=ws.length)(h60:ws.length<=512)(i:Nat)(hi:i<2*ws.length-1):dv (Qae ws (ws.length-1)).N i<=15:=by
 have h0:∀i,0<=ws.getD i 0:=fun i=>by
  by_cases h:i<ws.length
  ·have:=h12 i h;omega
  ·simp[List.getD,List.getElem?_eq_none (show ws.length<=i by omega)]
 obtain⟨hu,hl⟩:=Qkj ws h0 hn
 have hI:=TI.run ws h0 (ws.length-1) (by omega)
 have hN:=NI.run ws hs h12 h0 (ws.length-1) (by omega)
 have k1:=hI.ln
 have k2:=hI.np
 have k3:=hI.pl
 have k4:=hI.cnt
 have k5:=hI.last (by omega)
 have hsum:=hI.sum
 have hC:Qfs ws.length (Qbk ws).N 0 ws.length<=1024:=by
  unfold Qfs
  have e1:(Qbk ws).N.length=ws.length:=by simp[Qbk]
  rw[e1,Nat.sub_zero,Nat.sub_self,Qiw]
  have:=Qjg (Qbk ws).N 2 ws.length 0 (fun j _ b=>by rw[Qdx];exact(h12 j (by omega)).2)
  omega
 unfold Qfs at hsum
 rw[hl,show ws.length-(Qae ws (ws.length-1)).l=0 from by omega,show(Qae ws (ws.length-1)).p=2*ws.length-2 from by omega,show 2*ws.length-1-(2*ws.length-2)=1 from by omega,Qiw,Qiw,Qiw] at hsum
 have hroot:wt (Qae ws (ws.length-1)).N (2*ws.length-2)<=1024:=by unfold Qfs at hC;omega
 have hup:∀i,i+1<2*ws.length-1->3*wt (Qae ws (ws.length-1)).N i<=2*wt (Qae ws (ws.length-1)).N (inn (Qae ws (ws.length-1)).N i).toNat:=fun i hi=>hN.up i (by omega)
 have hup2:∀i,i+1<2*ws.length-1->(inn (Qae ws (ws.length-1)).N i).toNat+1<2*ws.length-1->5*wt (Qae ws (ws.length-1)).N i<=2*wt (Qae ws (ws.length-1)).N (inn (Qae ws (ws.length-1)).N (inn (Qae ws (ws.length-1)).N i).toNat).toNat:=fun i hi hj=>hN.up2 i (by omega) (by omega)
 have hpos:∀i,i<2*ws.length-1->1<=wt (Qae ws (ws.length-1)).N i:=fun i hi=>hN.pos i (by omega)
 generalize (Qae ws (ws.length-1)).N=N at *
 clear hI hN hsum hC k1 k2 k3 k4 k5
 have htop:∀(k i:Nat),i<N.length->N.length<=i+k->wt N i<=1024:=by
  intro k
  induction k with
  | zero=>intro i h1 h2;omega
  | succ k ih=>
    intro i h1 h2
    by_cases c:i+1<N.length
    ·have hui:=hu i c
     have h3:=ih (inn N i).toNat (by omega) (by omega)
     have h4:=hup i (by omega)
     have h5:=hpos i (by omega)
     omega
    ·rw[show i=2*ws.length-2 from by omega];exact hroot
 have hd:∀(k i:Nat),i<N.length->2*(k:Int)<=dv N i->(5:Int)^k*wt N i<=2^k*1024:=by
  intro k
  induction k with
  | zero=>intro i h1 _;have:=htop N.length i h1 (by omega);simpa using this
  | succ k ih=>
    intro i h1 h2
    have c:i+1<N.length:=by
     by_cases c:i+1<N.length
     ·exact c
     ·rw[Qld N i c] at h2;omega
    have hui:=hu i c
    have e:=Qjb hu i c
    have c2:(inn N i).toNat+1<N.length:=by
     by_cases c2:(inn N i).toNat+1<N.length
     ·exact c2
     ·rw[Qld N _ c2] at e;omega
    have hui2:=hu _ c2
    have e2:=Qjb hu _ c2
    have h3:=ih (inn N (inn N i).toNat).toNat (by omega) (by omega)
    have h4:=hup2 i (by omega) (by omega)
    rw[Int.pow_succ,Int.pow_succ]
    have p5:(0:Int)<=5^k:=Int.le_of_lt (Int.pow_pos (by omega))
    have h5:=Int.mul_le_mul_of_nonneg_left h4 p5
    generalize (5:Int)^k=P at *
    generalize (2:Int)^k=Q at *
    generalize wt N (inn N (inn N i).toNat).toNat=y at *
    generalize wt N i=x at *
    have e1:P*5*x=P*(5*x):=by rw[Int.mul_assoc]
    have e2:P*(2*y)=2*(P*y):=by rw[Int.mul_left_comm]
    omega
 have h2:=hpos i hi
 by_cases c:dv N i<=15
 ·exact c
 ·exfalso
  have h1:=hd 8 i (by omega) (by omega)
  have e5:(5:Int)^8=390625:=by decide
  have e2:(2:Int)^8=256:=by decide
  rw[e5,e2] at h1
  omega
end Hf
end
namespace Cr.Crc
def poly:Nat:=2197175160
def ones:Nat:=4294967295
def sel(t:Nat):Nat:=if t%2=1 then poly else 0
def Qdy(r b:Nat):Nat:=r/2^^^sel (r^^^b)
def inN:Nat->Nat->Nat->Nat
 | 0,r,_=>r
 | k+1,r,b=>inN k (Qdy r b) (b/2)
def inB(r b:Nat):Nat:=inN 8 r b
def inR(r:Nat)(l:List Nat):Nat:=l.foldl inB r
theorem Xju(r:Nat):inR r []=r:=rfl
theorem Xga(r b:Nat)(l:List Nat):inR r (b::l)=inR (inB r b) l:=List.foldl_cons ..
theorem xac(a b c d:Nat):(a^^^b)^^^(c^^^d)=(a^^^c)^^^(b^^^d):=by
 rw[Nat.xor_assoc,<-Nat.xor_assoc b c d,Nat.xor_comm b c,Nat.xor_assoc c b d,<-Nat.xor_assoc]
theorem Xjr(a b:Nat):(a^^^b)^^^b=a:=by rw[Nat.xor_assoc,Nat.xor_self,Nat.xor_zero]
theorem Qoj(a b:Nat):(a^^^b)%2=(a+b)%2:=by
 have h:=Nat.testBit_xor a b 0
 rw[Nat.testBit_zero,Nat.testBit_zero,Nat.testBit_zero] at h
 rcases Nat.mod_two_eq_zero_or_one a with ha | ha<;>rcases Nat.mod_two_eq_zero_or_one b with hb | hb<;>rcases Nat.mod_two_eq_zero_or_one (a^^^b) with hc | hc<;>rw[ha,hb,hc] at h<;>simp at h<;>omega
theorem Xh0(a b:Nat):sel (a^^^b)=sel a^^^sel b:=by
 have h:(a^^^b)%2=(a+b)%2:=Qoj _ _
 unfold sel
 rw[h]
 rcases Nat.mod_two_eq_zero_or_one a with ha | ha<;>rcases Nat.mod_two_eq_zero_or_one b with hb | hb
 ·rw[if_neg (by omega),if_neg (by omega),if_neg (by omega)];rfl
 ·rw[if_pos (by omega),if_neg (by omega),if_pos (by omega)];simp
 ·rw[if_pos (by omega),if_pos (by omega),if_neg (by omega)];simp
 ·rw[if_neg (by omega),if_pos (by omega),if_pos (by omega)];simp
theorem Qu8(a b:Nat):(a^^^b)/2=a/2^^^b/2:=Nat.xor_div_two
theorem Xav(r s a b:Nat):Qdy (r^^^s) (a^^^b)=Qdy r a^^^Qdy s b:=by
 unfold Qdy
 rw[Qu8,xac r s a b,Xh0,xac]
theorem Qpq(k:Nat):∀r s a b:Nat,inN k (r^^^s) (a^^^b)=inN k r a^^^inN k s b:=by
 induction k with
 | zero=>intro r s a b;rfl
 | succ k ih=>intro r s a b;rw[inN,inN,inN,Xav,Qu8,ih]
theorem Qr0(k r b:Nat):inN k r b=inN k r 0^^^inN k 0 b:=by
 have:=Qpq k r 0 0 b
 rw[Nat.xor_zero,Nat.zero_xor] at this
 exact this
theorem Qps(k:Nat):∀b:Nat,b<2^k->inN k 0 b=inN k b 0:=by
 induction k with
 | zero=> intro b h;have:b=0:=by simpa using h
          rw[this]
 | succ k ih=>
   intro b h
   have hb:b/2<2^k:=by rw[Nat.pow_succ] at h;omega
   have e1:Qdy 0 b=sel b:=by simp[Qdy]
   have e2:Qdy b 0=sel b^^^b/2:=by rw[Qdy,Nat.xor_zero,Nat.xor_comm]
   rw[inN,inN,e1,e2,Qr0 k (sel b) (b/2),ih _ hb]
   have:=Qpq k (sel b) (b/2) 0 0
   rw[Nat.xor_zero] at this
   rw[show 0/2=0 from rfl,this]
theorem Xew(k r b:Nat)(h:b<2^k):inN k r b=inN k (r^^^b) 0:=by
 have:=Qpq k r b 0 0
 rw[Nat.xor_zero] at this
 rw[Qr0,Qps k b h,this]
theorem Xc5(k:Nat):∀x:Nat,inN k (x*2^k) 0=x:=by
 induction k with
 | zero=>intro x;simp[inN]
 | succ k ih=>
   intro x
   have e:Qdy (x*2^(k+1)) 0=x*2^k:=by
    unfold Qdy sel
    rw[Nat.xor_zero,Nat.pow_succ,<-Nat.mul_assoc,if_neg (by omega),Nat.xor_zero]
    omega
   rw[inN,e]
   exact ih x
theorem Xbk(r:Nat):r=(r/256*2^8)^^^(r%256):=by
 have h1:(r/256*2^8)|||(r%256)=r/256*2^8+r%256:=nat_join 8 _ _ (Nat.mul_mod_left _ _) (by omega)
 have h2:(r/256*2^8)&&&(r%256)=0:=by
  apply Nat.eq_of_testBit_eq
  intro i
  rw[Nat.testBit_and,Nat.zero_testBit]
  by_cases hi:i<8
  ·have:(r/256*2^8).testBit i=false:=by rw[Nat.testBit_mul_two_pow];simp;omega
   rw[this];rfl
  ·have:(r%256).testBit i=false:=Nat.testBit_lt_two_pow (Nat.lt_of_lt_of_le (show r%256<2^8 from by omega) (Nat.pow_le_pow_right (n:=2) (by decide) (by omega)))
   rw[this,Bool.and_false]
 have h3:(r/256*2^8)^^^(r%256)=(r/256*2^8)|||(r%256):=by
  apply Nat.eq_of_testBit_eq
  intro i
  have h:=congrArg (fun x=>x.testBit i) h2
  simp only[Nat.testBit_and,Nat.zero_testBit] at h
  rw[Nat.testBit_xor,Nat.testBit_or]
  revert h
  cases (r/256*2^8).testBit i<;>cases (r%256).testBit i<;>simp
 rw[h3,h1]
 omega
theorem Xbu(r b:Nat)(h:b<256):inB r b=r/256^^^inB 0 (r%256^^^b):=by
 have hx:r%256^^^b<2^8:=Nat.xor_lt_two_pow (by omega) (by omega)
 unfold inB
 rw[Xew 8 r b (by omega),Qps 8 _ hx]
 conv=>lhs;rw[Xbk r]
 rw[Nat.xor_assoc]
 have:=Qpq 8 (r/256*2^8) (r%256^^^b) 0 0
 rw[Nat.xor_zero] at this
 rw[this,Xc5]
theorem Xhe(t:Nat):sel t<2^32:=by unfold sel poly;split<;>omega
theorem Qva(r b:Nat)(h:r<2^32):Qdy r b<2^32:=Nat.xor_lt_two_pow (by omega) (Xhe _)
theorem Xgv(k:Nat):∀r b:Nat,r<2^32->inN k r b<2^32:=by
 induction k with
 | zero=>intro r b h;exact h
 | succ k ih=>intro r b h;exact ih _ _ (Qva r b h)
theorem Xgo(r b:Nat)(h:r<2^32):inB r b<2^32:=Xgv 8 r b h
theorem Xdd(l:List Nat):∀r:Nat,r<2^32->inR r l<2^32:=by
 induction l with
 | nil=>intro r h;rw[Xju];exact h
 | cons b l ih=>intro r h;rw[Xga];exact ih _ (Xgo r b h)
/-! Back -/
theorem Xgn(k:Nat):∀r b:Nat,inN (k+1) r b=Qdy (inN k r b) (b/2^k):=by
 induction k with
 | zero=>intro r b;simp[inN]
 | succ k ih=>
   intro r b
   rw[inN,ih,inN,Nat.div_div_eq_div_mul,<-Nat.pow_succ']
theorem Qng(r:Nat)(l m:List Nat):inR r (l++m)=inR (inR r l) m:=by
 unfold inR;rw[List.foldl_append]
/-! Two rows at once -/
def add(sum:Nat)(l:List Nat):Nat:=inR (sum^^^ones) l^^^ones
theorem Qoo(a:Nat)(h:a<2^32):a^^^ones<2^32:=Nat.xor_lt_two_pow h (by unfold ones;omega)
theorem add_lt(s:Nat)(l:List Nat)(h:s<2^32):add s l<2^32:=Qoo _ (Xdd l _ (Qoo s h))
theorem Qyf(s:Nat)(l m:List Nat):add s (l++m)=add (add s l) m:=by
 rw[add,add,add,Xjr,Qng]
end Cr.Crc
namespace Cr.Crc
def st(k r:Nat):Nat:=inN k r 0
theorem Xi9(k r:Nat):st (k+1) r=Qdy (st k r) 0:=by
 unfold st;rw[Xgn,Nat.zero_div]
theorem Xlo(k r:Nat)(h:r<2^32):st k r<2^32:=Xgv k r 0 h
theorem Qnx(r:Nat):Qdy r 0=r/2^^^sel r:=by rw[Qdy,Nat.xor_zero]
def pick(b t:Nat):Nat:=b*(t%2)
def mulN(a b:Nat):Nat->Nat
 | 0=>0
 | k+1=>Qdy (mulN a b k) 0^^^pick b (a/2^k)
def mul(a b:Nat):Nat:=mulN a b 32
theorem Xas(i x y:Nat)(hx:x<2^i)(hy:y%2^i=0):x^^^y=x+y:=by
 have h1:y|||x=y+x:=nat_join i y x hy hx
 have h3:x^^^y=y|||x:=by
  apply Nat.eq_of_testBit_eq
  intro j
  rw[Nat.testBit_xor,Nat.testBit_or]
  by_cases hj:j<i
  ·have:y.testBit j=false:=by
    have hy':y=2^i*(y/2^i):=by have:=Nat.div_add_mod y (2^i);omega
    rw[hy',Nat.testBit_two_pow_mul]
    simp;omega
   rw[this];simp
  ·have:x.testBit j=false:=Nat.testBit_lt_two_pow (Nat.lt_of_lt_of_le hx (Nat.pow_le_pow_right (n:=2) (by decide) (by omega)))
   rw[this];simp
 rw[h3,h1];omega
theorem Xgb(a:Nat):∀k,k<=32->mulN a (2^31) k=a%2^k*2^(32-k):=by
 intro k
 induction k with
 | zero=>intro _;rw[Nat.pow_zero,Nat.mod_one,Nat.zero_mul];rfl
 | succ k ih=>
   intro hk
   rw[mulN,ih (by omega),Qnx]
   have e1:a%2^k*2^(32-k)=2*(a%2^k*2^(31-k)):=by
    rw[show 32-k=(31-k)+1 from by omega,Nat.pow_succ,<-Nat.mul_assoc,Nat.mul_comm]
   rw[e1,sel,if_neg (by omega),Nat.xor_zero,Nat.mul_div_cancel_left _ (by decide),show 32-(k+1)=31-k from by omega]
   have hlt:a%2^k*2^(31-k)<2^31:=by
    have h1:a%2^k<2^k:=Nat.mod_lt _ (Nat.two_pow_pos k)
    have h2:a%2^k*2^(31-k)<2^k*2^(31-k):=Nat.mul_lt_mul_of_pos_right h1 (Nat.two_pow_pos _)
    rwa[<-Nat.pow_add,show k+(31-k)=31 from by omega] at h2
   have hp:pick (2^31) (a/2^k)%2^31=0:=by unfold pick;exact Nat.mul_mod_right _ _
   rw[Xas 31 _ _ hlt hp,Nat.mod_pow_succ,Nat.add_mul,pick]
   have e2:2^k*(a/2^k%2)*2^(31-k)=2^31*(a/2^k%2):=by
    rw[Nat.mul_right_comm,<-Nat.pow_add,show k+(31-k)=31 from by omega]
   rw[e2]
theorem mul_one(a:Nat)(h:a<2^32):mul a (2^31)=a:=by
 rw[mul,Xgb a 32 (Nat.le_refl _),Nat.mod_eq_of_lt h,Nat.sub_self,Nat.pow_zero,Nat.mul_one]
end Cr.Crc
section
namespace Hf
end Hf
end
section
open Hf
def Qmy(a:Nat)(l:List Nat):Nat:=l.foldl (fun a b=>a*2+b) a
theorem Qoz:∀(l:List Nat) (a:Nat),Qmy a l=a*2^l.length+Qmy 0 l
 | [],a=>by simp[Qmy]
 | b::l,a=>by
   have h1:=Qoz l (a*2+b)
   have h2:=Qoz l (0*2+b)
   show Qmy (a*2+b) l=a*2^(l.length+1)+Qmy (0*2+b) l
   rw[h1,h2,Nat.pow_succ,Nat.add_mul,Nat.zero_mul,Nat.zero_add,Nat.mul_assoc,Nat.mul_comm 2,Nat.add_assoc]
theorem Qop(l m:List Nat)(a:Nat):Qmy a (l++m)=Qmy a l*2^m.length+Qmy 0 m:=by
 rw[show Qmy a (l++m)=Qmy (Qmy a l) m from by simp[Qmy,List.foldl_append],Qoz m]
theorem Qwj(x:Nat):∀n,Qmy 0 (low x n)=x%2^n
 | 0=>by simp[low,Qmy,Nat.mod_one]
 | n+1=>by
   show Qmy (0*2+x/2^n%2) (low x n)=_
   rw[Qoz,Qwj x n,Qcj,Nat.zero_mul,Nat.zero_add,Nat.pow_succ]
   have h:=Nat.mod_mul (a:=2^n) (b:=2) (x:=x)
   rw[h,Nat.mul_comm,Nat.add_comm]
theorem Qwo(p:Nat):Qmy 0 (List.replicate p 0)=0:=by
 induction p with
 | zero=>rfl
 | succ p ih=>show Qmy (0*2+0) (List.replicate p 0)=0;exact ih
theorem Qw7(N q:Nat)(z:Nat)(hz:z<256):Qex (N*256+z) (8*(q+1))=Qex N (8*q)++ [(z:Int)]:=by
 refine Qvy (by rw[List.length_append,Qbc,Qbc];simp) (fun j hj=>?_)
 rw[Qbc] at hj
 have hq:8*(q+1)/8=q+1:=by omega
 have hq2:8*q/8=q:=by omega
 rw[hq] at hj
 rw[Qc8 _ _ _ (by omega)]
 by_cases h:j<q
 ·have e:(Qex N (8*q)++ [(z:Int)]).getD j 0=(Qex N (8*q)).getD j 0:=by
   simp[List.getD,List.getElem?_append_left (show j<(Qex N (8*q)).length from by rw[Qbc];omega)]
  rw[e,Qc8 _ _ _ (by omega),show 8*(q+1)-8*(j+1)=8+(8*q-8*(j+1)) from by omega,Nat.pow_add,<-Nat.div_div_eq_div_mul,show(N*256+z)/2^8=N from by omega]
 ·obtain rfl:j=q:=by omega
  have e:(Qex N (8*j)++ [(z:Int)]).getD j 0=(z:Int):=by
   simp[List.getD,Qbc,hq2]
  rw[e,Nat.sub_self,Nat.pow_zero,Nat.div_one]
  omega
def Xez(M:List Int):List Nat:=M.flatMap fun z=>low z.toNat 8
theorem Qt4(M:List Int):(Xez M).length=8*M.length:=by
 induction M with
 | nil=>rfl
 | cons z M ih=>rw[show Xez (z::M)=low z.toNat 8++Xez M from rfl,List.length_append,Qcj,ih,List.length_cons];omega
theorem Qzx(M:List Int)(z:Int):Xez (M++ [z])=Xez M++low z.toNat 8:=by simp[Xez]
theorem Qno:∀(k:Nat) (M:List Int),M.length=k->(∀z∈M,0<=z∧z<=255)->M=Qex (Qmy 0 (Xez M)) (8*M.length)
 | 0,M,h,_=>by
   obtain rfl:=List.length_eq_zero_iff.1 h
   rfl
 | k+1,M,h,hM=>by
   obtain⟨M',z,rfl⟩:∃M' z,M=M'++ [z]:=⟨M.dropLast,M.getLast (by intro e;subst e;cases h),(List.dropLast_concat_getLast _).symm⟩
   have hl:M'.length=k:=by simpa using h
   have ih:=Qno k M' hl (fun y hy=>hM y (by simp[hy]))
   have hz:=hM z (by simp)
   have e:((z.toNat:Nat):Int)=z:=by omega
   rw[Qzx,Qop,Qcj,Qwj,Nat.mod_eq_of_lt (show z.toNat<2^8 from by omega),List.length_append,List.length_singleton,show(2:Nat)^8=256 from rfl,Qw7 _ _ _ (by omega),<-ih,e]
theorem Xko{n p k:Nat}(h:8*k=n+p)(hp:p<8):p=Xfm n:=by
 unfold Xfm
 split<;>omega
theorem Qw6(M:List Int)(hM:∀z∈M,0<=z∧z<=255)(B:List Nat)(p:Nat)(h:Xez M=B++List.replicate p 0)(hp:p<8):M=Qbu (Qmy 0 B) B.length:=by
 have h1:=Qno M.length M rfl hM
 have h2:8*M.length=B.length+p:=by rw[<-Qt4,h];simp
 rw[h1,h,Qop,List.length_replicate,Qwo,Nat.add_zero,h2,Xko h2 hp]
 rfl
def Xho(b:Bool):Nat:=if b then 1 else 0
theorem Xg9:∀(k:Nat) (bs:List Bool),bs.length=k->nB bs bs.length=Qmy 0 (bs.map Xho)
 | 0,bs,h=>by
   obtain rfl:=List.length_eq_zero_iff.1 h
   rfl
 | k+1,bs,h=>by
   obtain⟨b',z,rfl⟩:∃M' z,bs=M'++ [z]:=⟨bs.dropLast,bs.getLast (by intro e;subst e;cases h),(List.dropLast_concat_getLast _).symm⟩
   have hl:b'.length=k:=by simpa using h
   have ih:=Xg9 k b' hl
   rw[List.length_append,List.length_singleton,Xaj,ih,List.map_append,Qop]
   simp[nB,Qmy,Xho]
theorem Qke(c:Nat):∀n,(Qcy c n).map Xho=low c n
 | 0=>rfl
 | n+1=>by
   have ih:=Qke c n
   refine List.ext_getElem (by rw[List.length_map,Qbi,Qcj]) (fun i h1 h2=>?_)
   cases i with
   | zero=>simp[Qcy,Qtr,low,Xho];split<;>omega
   | succ i=>
     have e:(low c n)[i]'(by rw[Qcj] at h2|-;omega)=((Qcy c n).map Xho)[i]'(by rw[List.length_map,Qbi];rw[Qcj] at h2;omega):=by
      simp only[ih]
     simp only[low,List.getElem_cons_succ]
     rw[e]
     simp only[List.getElem_map,Qcy,List.getElem_range,Qtr]
     rw[show n+1-1-(i+1)=n-1-i from by omega]
theorem Qyr(M:List Int)(hM:∀z∈M,0<=z∧z<=255)(bs:List Bool)(p:Nat)(h:Xez M=bs.map Xho++List.replicate p 0)(hp:p<8):M=Qbu (nB bs bs.length) bs.length:=by
 have:=Qw6 M hM _ p h hp
 rwa[<-Xg9 _ _ rfl,List.length_map] at this
end
end Go.Proofs.YtibjlbcnapoblaaGreatDoor
