/- Contracts and facts. -/
import Derived.Test.YtibjlbcnapoblaaGreatDoorPart00
namespace Go.Proofs.YtibjlbcnapoblaaGreatDoor
set_option maxRecDepth 100000
set_option maxHeartbeats 6400000
section
namespace Hf
theorem Xgi(zs:List Int)(l d:Nat):(first zs l+cnt zs l)*2^(d+1)<=first zs (l+d+1):=by
 induction d with
 | zero=>rw[first];simp
 | succ d ih=>
   rw[Nat.pow_succ,<-Nat.mul_assoc,show l+(d+1)+1=(l+d+1)+1 from by omega,first]
   exact Nat.mul_le_mul_right 2 (Nat.le_trans ih (Nat.le_add_right _ _))
theorem Xgx{zs:List Int}(s t l m:Nat)(hs:s<zs.length)(ht:t<zs.length)(hst:s≠t)(h1:zs.getD s 0=(l:Int))(h2:zs.getD t 0=(m:Int))(h0:0<l)(hlm:l<=m)(e:Qds zs s=Qds zs t/2^(m-l)):False:=by
 by_cases hlm2:l=m
 ·subst hlm2
  rw[Nat.sub_self,Nat.pow_zero,Nat.div_one] at e
  exact hst (code_inj zs l s t h0 hs ht h1 h2 e)
 ·have d1:=Qka zs s l h1
  have d2:=Qhw zs s l hs h1 h0
  have d3:=Qka zs t m h2
  have d4:=Xgi zs l (m-l-1)
  rw[show m-l-1+1=m-l from by omega,show l+(m-l-1)+1=m from by omega] at d4
  have d6:first zs l+cnt zs l<=Qds zs t/2^(m-l):=by
   rw[Nat.le_div_iff_mul_le (Nat.two_pow_pos _)]
   omega
  omega
abbrev Tr:=List (Int×Int)
def ent(T:Tr)(i b:Nat):Int:=if b=0 then (T.getD i (0,0)).1 else (T.getD i (0,0)).2
def Qmo(T:Tr)(i b:Nat)(x:Int):Tr:=T.set i (if b=0 then (x,(T.getD i (0,0)).2) else ((T.getD i (0,0)).1,x))
def Qc0(s:Nat)(c:Nat):Nat->Nat->Tr->Tr
 | 0,at_,T=>Qmo T at_ (c%2) (-(s:Int)-1)
 | m+1,at_,T=>if ent T at_ (c/2^(m+1)%2)=0 then Qc0 s c m T.length (Qmo T at_ (c/2^(m+1)%2) (T.length:Int)++ [(0,0)]) else Qc0 s c m (ent T at_ (c/2^(m+1)%2)).toNat T
theorem Qa6(T:Tr)(i b:Nat)(x:Int):(Qmo T i b x).length=T.length:=by simp[Qmo]
theorem Qee(T:Tr)(i b:Nat)(x:Int)(hi:i<T.length)(j d:Nat)(hb:b<2)(hd:d<2):ent (Qmo T i b x) j d=if j=i∧d=b then x else ent T j d:=by
 unfold ent Qmo
 by_cases e:j=i
 ·subst e
  have h1:(T.set j (if b=0 then (x,(T.getD j (0,0)).2) else ((T.getD j (0,0)).1,x))).getD j (0,0)=(if b=0 then (x,(T.getD j (0,0)).2) else ((T.getD j (0,0)).1,x)):=by simp[List.getD,hi]
  rw[h1]
  by_cases eb:b=0
  ·subst eb
   by_cases ed:d=0
   ·subst ed;simp
   ·simp[ed]
  ·by_cases ed:d=0
   ·subst ed
    have:¬0=b:=fun q=>eb q.symm
    simp[eb,this]
   ·have:d=b:=by omega
    subst this
    simp[ed]
 ·have h1:(T.set i (if b=0 then (x,(T.getD i (0,0)).2) else ((T.getD i (0,0)).1,x))).getD j (0,0)=T.getD j (0,0):=by
   simp only[List.getD,List.getElem?_set]
   rw[if_neg (fun q=>e q.symm)]
  rw[h1]
  simp[e]
theorem Qi6(T:Tr)(j d:Nat):ent (T++ [(0,0)]) j d=ent T j d:=by
 unfold ent
 by_cases h:j<T.length
 ·simp[List.getD,List.getElem?_append_left h]
 ·have h1:T.getD j (0,0)=(0,0):=by simp[List.getD,List.getElem?_eq_none (show T.length<=j by omega)]
  have h2:(T++ [((0:Int),(0:Int))]).getD j (0,0)=(0,0):=by
   by_cases e:j=T.length
   ·subst e;simp[List.getD]
   ·simp[List.getD,List.getElem?_eq_none (show(T++ [((0:Int),(0:Int))]).length<=j by simp;omega)]
  rw[h1,h2]
structure Tv (T:Tr) (P:List (Nat×Nat)) (S:Nat×Nat->Prop):Prop where
 len:P.length=T.length
 root:P.getD 0 (0,0)=(0,0)
 pos:0<T.length
 up:∀i b,i<T.length->b<2->0<ent T i b->(ent T i b).toNat<T.length∧P.getD (ent T i b).toNat (0,0)=((P.getD i (0,0)).1+1,2*(P.getD i (0,0)).2+b)
 leaf:∀i b,i<T.length->b<2->ent T i b<0->S ((P.getD i (0,0)).1+1,2*(P.getD i (0,0)).2+b)
theorem Tv.mono{T:Tr}{P:List (Nat×Nat)}{S S':Nat×Nat->Prop}(h:Tv T P S)(hs:∀x,S x->S' x):Tv T P S':=⟨h.len,h.root,h.pos,h.up,fun i b h1 h2 h3=>hs _ (h.leaf i b h1 h2 h3)⟩
theorem half(c m:Nat):c/2^m=2*(c/2^(m+1))+c/2^m%2:=by
 rw[Nat.pow_succ,<-Nat.div_div_eq_div_mul];omega
theorem Tv.node{T:Tr}{P:List (Nat×Nat)}{S:Nat×Nat->Prop}(h:Tv T P S)(i b:Nat)(hi:i<T.length)(hb:b<2):Tv (Qmo T i b (T.length:Int)++ [(0,0)]) (P++ [((P.getD i (0,0)).1+1,2*(P.getD i (0,0)).2+b)]) S:=by
 have hl:=h.len
 have hP:∀j,j<T.length->(P++ [((P.getD i (0,0)).1+1,2*(P.getD i (0,0)).2+b)]).getD j (0,0)=P.getD j (0,0):=fun j hj=>by simp[List.getD,List.getElem?_append_left (show j<P.length by omega)]
 have hPn:(P++ [((P.getD i (0,0)).1+1,2*(P.getD i (0,0)).2+b)]).getD T.length (0,0)=((P.getD i (0,0)).1+1,2*(P.getD i (0,0)).2+b):=by rw[<-hl];simp[List.getD]
 have hz:∀d,ent T T.length d=0:=fun d=>by
  unfold ent
  have:T.getD T.length (0,0)=(0,0):=by simp[List.getD]
  rw[this];split<;>rfl
 refine⟨by simp[Qa6,hl],by rw[hP 0 h.pos];exact h.root,by simp,fun j d hj hd hx=>?_,fun j d hj hd hx=>?_⟩
 ·rw[Qi6,Qee T i b _ hi j d hb hd] at hx|-
  rw[List.length_append,Qa6,List.length_singleton] at hj|-
  by_cases e:j=i∧d=b
  ·obtain⟨rfl,rfl⟩:=e
   rw[if_pos ⟨rfl,rfl⟩,Int.toNat_natCast]
   exact⟨by omega,by rw[hPn,hP j hi]⟩
  ·rw[if_neg e] at hx|-
   by_cases c:j<T.length
   ·have h1:=h.up j d c hd hx
    refine⟨by omega,?_⟩
    rw[hP _ h1.1,hP j c];exact h1.2
   ·have:j=T.length:=by omega
    rw[this,hz] at hx
    omega
 ·rw[Qi6,Qee T i b _ hi j d hb hd] at hx
  rw[List.length_append,Qa6,List.length_singleton] at hj
  by_cases e:j=i∧d=b
  ·rw[if_pos e] at hx;omega
  ·rw[if_neg e] at hx
   by_cases c:j<T.length
   ·rw[hP j c];exact h.leaf j d c hd hx
   ·have:j=T.length:=by omega
    rw[this,hz] at hx
    omega
theorem Tv.put{T:Tr}{P:List (Nat×Nat)}{S:Nat×Nat->Prop}(h:Tv T P S)(i b s:Nat)(hi:i<T.length)(hb:b<2)(hS:S ((P.getD i (0,0)).1+1,2*(P.getD i (0,0)).2+b)):Tv (Qmo T i b (-(s:Int)-1)) P S:=by
 refine⟨by rw[Qa6];exact h.len,h.root,by rw[Qa6];exact h.pos,fun j d hj hd hx=>?_,fun j d hj hd hx=>?_⟩
 ·rw[Qa6] at hj|-
  rw[Qee T i b _ hi j d hb hd] at hx|-
  by_cases e:j=i∧d=b
  ·rw[if_pos e] at hx;omega
  ·rw[if_neg e] at hx|-;exact h.up j d hj hd hx
 ·rw[Qa6] at hj
  rw[Qee T i b _ hi j d hb hd] at hx
  by_cases e:j=i∧d=b
  ·obtain⟨rfl,rfl⟩:=e;exact hS
  ·rw[if_neg e] at hx;exact h.leaf j d hj hd hx
theorem Tv.grow{S:Nat×Nat->Prop}(s c:Nat):∀(m at_ d:Nat) (T:Tr) (P:List (Nat×Nat)),Tv T P S->at_<T.length->P.getD at_ (0,0)=(d,c/2^(m+1))->(∀l p,S (l,p)->l<d+m+1->c/2^(d+m+1-l)≠p)->S (d+m+1,c) ->
 ∃P',Tv (Qc0 s c m at_ T) P' S∧(Qc0 s c m at_ T).length<=T.length+m:=by
 intro m
 induction m with
 | zero=>
   intro at_ d T P h hat hP hap hS
   refine⟨P,?_,?_⟩
   ·rw[Qc0]
    refine h.put at_ (c%2) s hat (Nat.mod_lt _ (by decide)) ?_
    rw[hP]
    have h3:=half c 0
    rw[Nat.pow_zero,Nat.div_one] at h3
    dsimp only
    rw[<-h3]
    exact hS
   ·rw[Qc0,Qa6];exact Nat.le_refl _
 | succ m ih=>
   intro at_ d T P h hat hP hap hS
   have hb:c/2^(m+1)%2<2:=Nat.mod_lt _ (by decide)
   have h3:=half c (m+1)
   rw[Qc0]
   by_cases he:ent T at_ (c/2^(m+1)%2)=0
   ·rw[if_pos he]
    obtain⟨P',h1,h2⟩:=ih T.length (d+1) _ _ (h.node at_ (c/2^(m+1)%2) hat hb) (by simp[Qa6]) (by
     rw[<-h.len,hP]
     simp only[List.getD,List.getElem?_concat_length,Option.getD_some,Prod.mk.injEq]
     exact⟨trivial,by omega⟩) (by rw[show d+1+m+1=d+(m+1)+1 from by omega];exact hap) (by rw[show d+1+m+1=d+(m+1)+1 from by omega];exact hS)
    refine⟨P',h1,?_⟩
    rw[List.length_append,Qa6,List.length_singleton] at h2
    omega
   ·rw[if_neg he]
    have hpos:0<ent T at_ (c/2^(m+1)%2):=by
     rcases Int.lt_trichotomy (ent T at_ (c/2^(m+1)%2)) 0 with q | q | q
     ·exfalso
      have h1:=h.leaf at_ _ hat hb q
      rw[hP] at h1
      refine hap _ _ h1 (by dsimp only;omega) ?_
      dsimp only
      rw[show d+(m+1)+1-(d+1)=m+1 from by omega]
      omega
     ·exact absurd q he
     ·exact q
    have hup:=h.up at_ _ hat hb hpos
    obtain⟨P',h1,h2⟩:=ih _ (d+1) _ _ h hup.1 (by
     rw[hup.2,hP]
     simp only[Prod.mk.injEq]
     exact⟨trivial,by omega⟩) (by rw[show d+1+m+1=d+(m+1)+1 from by omega];exact hap) (by rw[show d+1+m+1=d+(m+1)+1 from by omega];exact hS)
    exact⟨P',h1,by omega⟩
def Qbw(zs:List Int):Nat->Tr
 | 0=> [(0,0)]
 | k+1=>if 0<zs.getD k 0 then Qc0 k (Qds zs k) ((zs.getD k 0).toNat-1) 0 (Qbw zs k) else Qbw zs k
def coS(zs:List Int)(k:Nat)(x:Nat×Nat):Prop:=∃s,s<k∧0<zs.getD s 0∧x=((zs.getD s 0).toNat,Qds zs s)
theorem Qly{zs:List Int}(k n:Nat)(hk:k<zs.length)(hz:zs.getD k 0=(n:Int)):∀l p,coS zs (k+1) (l,p)->l<n->Qds zs k/2^(n-l)≠p:=by
 rintro l p ⟨s,hs,h0,e⟩ hl heq
 simp only[Prod.mk.injEq] at e
 obtain⟨rfl,rfl⟩:=e
 have hne:s≠k:=by
  rintro rfl
  rw[hz] at hl
  omega
 exact Xgx s k (zs.getD s 0).toNat n (by omega) hk hne (by omega) hz (by omega) (by omega) heq.symm
theorem Qo1{zs:List Int}(hc:Qaq zs=true):∀k,k<=zs.length->∃P,Tv (Qbw zs k) P (coS zs k)∧(Qbw zs k).length<=1+15*k:=by
 have hok:Qhl zs=true:=by unfold Qaq at hc;rw[Bool.and_eq_true] at hc;exact hc.1
 intro k
 induction k with
 | zero=>
   intro _
   refine⟨[(0,0)],⟨rfl,rfl,by simp[Qbw],fun i b hi hb hx=>?_,fun i b hi hb hx=>?_⟩,by simp[Qbw]⟩
   ·have:i=0:=by simpa [Qbw] using hi
    subst this
    simp[Qbw,ent] at hx
   ·have:i=0:=by simpa [Qbw] using hi
    subst this
    simp[Qbw,ent] at hx
 | succ k ih=>
   intro hk
   obtain⟨P,h1,h2⟩:=ih (by omega)
   have h1':Tv (Qbw zs k) P (coS zs (k+1)):=h1.mono (fun x ⟨s,hs,hx⟩=>⟨s,by omega,hx⟩)
   rw[Qbw]
   by_cases h0:0<zs.getD k 0
   ·rw[if_pos h0]
    have hr:=(Qb0 hok).2 _ (show zs.getD k 0∈zs from by simp[List.getD,List.getElem?_eq_getElem (show k<zs.length by omega)])
    obtain⟨n,hn⟩:∃n:Nat,zs.getD k 0=((n+1:Nat):Int):=⟨(zs.getD k 0).toNat-1,by omega⟩
    have hlt:=Qko hc k (n+1) (by omega) hn (by omega) (by omega)
    have hap:=Qly (zs:=zs) k (n+1) (by omega) hn
    obtain⟨P',h3,h4⟩:=Tv.grow (S:=coS zs (k+1)) k (Qds zs k) n 0 0 (Qbw zs k) P h1' h1.pos (by rw[h1.root,Nat.div_eq_of_lt hlt]) (by rw[Nat.zero_add];exact hap) ⟨k,by omega,h0,by rw[hn];simp⟩
    rw[hn,Int.toNat_natCast,Nat.add_sub_cancel]
    exact⟨P',h3,by omega⟩
   ·rw[if_neg h0]
    exact⟨P,h1',by omega⟩
end Hf
end
section
namespace Hf
def low(x:Nat):Nat->List Nat
 | 0=> []
 | n+1=>x/2^n%2::low x n
theorem Qcj(x:Nat):∀n,(low x n).length=n
 | 0=>rfl
 | n+1=>by rw[low,List.length_cons,Qcj x n]
theorem Qzr(x:Nat):∀n b,b∈low x n->b<2
 | 0,b,h=>by simp[low] at h
 | n+1,b,h=>by
   rw[low,List.mem_cons] at h
   rcases h with rfl | h
   ·exact Nat.mod_lt _ (by decide)
   ·exact Qzr x n b h
def wk(T:Tr)(x:Int):Nat->List Nat->Prop
 | _,[]=>False
 | i,b::r=>(r= []∧ent T i b=x)∨(r≠ []∧0<ent T i b∧wk T x (ent T i b).toNat r)
def Sub(T T':Tr):Prop:=∀i b,b<2->ent T i b≠0->ent T' i b=ent T i b
theorem Sub.trans{a b c:Tr}(h:Sub a b)(k:Sub b c):Sub a c:=fun i d hd hx=>by
 have h1:=h i d hd hx
 rw[k i d hd (by rw[h1];exact hx),h1]
theorem Xg4{T T':Tr}(h:Sub T T'){x:Int}(hx:x≠0):∀(l:List Nat) (i:Nat),(∀b∈l,b<2)->wk T x i l->wk T' x i l
 | [],_,_,k=>k
 | b::r,i,hb,k=>by
   rw[wk] at k|-
   have h2:=hb b (List.mem_cons_self ..)
   rcases k with ⟨k1,k2⟩ | ⟨k1,k2,k3⟩
   ·exact .inl ⟨k1,by rw[h i b h2 (by rw[k2];exact hx),k2]⟩
   ·have e:=h i b h2 (by omega)
    exact .inr ⟨k1,by rw[e];exact k2,by rw[e];exact Xg4 h hx r _ (fun c hc=>hb c (List.mem_cons_of_mem _ hc)) k3⟩
theorem Xaw{T:Tr}(i b:Nat)(x:Int)(hi:i<T.length)(hb:b<2)(h0:ent T i b=0):Sub T (Qmo T i b x):=fun j d hd hx=>by
 rw[Qee T i b x hi j d hb hd]
 by_cases e:j=i∧d=b
 ·obtain⟨rfl,rfl⟩:=e;exact absurd h0 hx
 ·rw[if_neg e]
theorem Xif(T:Tr):Sub T (T++ [(0,0)]):=fun j d _ _=>Qi6 T j d
theorem Xbc{S Q:Nat×Nat->Prop}(s c N:Nat)(hQ:∀l,0<l->l<N->Q (l,c/2^(N-l)))(hQc:¬Q (N,c))(hSc:¬S (N,c))(hap:∀l p,S (l,p)->l<N->c/2^(N-l)≠p):
 ∀(m at_ d:Nat) (T:Tr) (P:List (Nat×Nat)),d+m+1=N->Tv T P S->at_<T.length->P.getD at_ (0,0)=(d,c/2^(m+1))->(∀i,0<i->i<T.length->Q (P.getD i (0,0))) ->
 ∃P',Tv (Qc0 s c m at_ T) P' (fun x=>S x∨x=(N,c))∧(∀i,0<i->i<(Qc0 s c m at_ T).length->Q (P'.getD i (0,0)))∧Sub T (Qc0 s c m at_ T)∧wk (Qc0 s c m at_ T) (-(s:Int)-1) at_ (low c (m+1)):=by
 intro m
 induction m with
 | zero=>
   intro at_ d T P hN h hat hP hnd
   have hb:c%2<2:=Nat.mod_lt _ (by decide)
   have h3:=half c 0
   rw[Nat.pow_zero,Nat.div_one] at h3
   have h0:ent T at_ (c%2)=0:=by
    rcases Int.lt_trichotomy (ent T at_ (c%2)) 0 with q | q | q
    ·exfalso
     have h1:=h.leaf at_ _ hat hb q
     rw[hP] at h1
     dsimp only at h1
     rw[<-h3,show d+1=N from by omega] at h1
     exact hSc h1
    ·exact q
    ·exfalso
     have hup:=h.up at_ _ hat hb q
     have h1:=hnd _ (by omega) hup.1
     rw[hup.2,hP] at h1
     dsimp only at h1
     rw[<-h3,show d+1=N from by omega] at h1
     exact hQc h1
   refine⟨P,?_,?_,?_,?_⟩
   ·rw[Qc0]
    refine(h.mono (fun x hx=>Or.inl hx)).put at_ (c%2) s hat hb (.inr ?_)
    rw[hP]
    dsimp only
    rw[<-h3,show d+1=N from by omega]
   ·rw[Qc0,Qa6];exact hnd
   ·rw[Qc0];exact Xaw _ _ _ hat hb h0
   ·rw[Qc0,low,low,wk]
    refine .inl ⟨rfl,?_⟩
    rw[Nat.pow_zero,Nat.div_one,Qee T at_ _ _ hat at_ _ hb hb,if_pos ⟨rfl,rfl⟩]
 | succ m ih=>
   intro at_ d T P hN h hat hP hnd
   have hb:c/2^(m+1)%2<2:=Nat.mod_lt _ (by decide)
   have h3:=half c (m+1)
   rw[Qc0]
   by_cases he:ent T at_ (c/2^(m+1)%2)=0
   ·rw[if_pos he]
    have hv:=h.node at_ (c/2^(m+1)%2) hat hb
    have hlen:(Qmo T at_ (c/2^(m+1)%2) (T.length:Int)++ [((0:Int),(0:Int))]).length=T.length+1:=by simp[Qa6]
    have hPn:(P++ [((P.getD at_ (0,0)).1+1,2*(P.getD at_ (0,0)).2+c/2^(m+1)%2)]).getD T.length (0,0)=(d+1,c/2^(m+1)):=by
     rw[<-h.len,hP]
     simp only[List.getD,List.getElem?_concat_length,Option.getD_some,Prod.mk.injEq]
     exact⟨trivial,by omega⟩
    have hsub:Sub T (Qmo T at_ (c/2^(m+1)%2) (T.length:Int)++ [(0,0)]):=(Xaw at_ _ _ hat hb he).trans (Xif _)
    have hent:ent (Qmo T at_ (c/2^(m+1)%2) (T.length:Int)++ [(0,0)]) at_ (c/2^(m+1)%2)=(T.length:Int):=by
     rw[Qi6,Qee T at_ _ _ hat at_ _ hb hb,if_pos ⟨rfl,rfl⟩]
    obtain⟨P',h1,h2,h4,h5⟩:=ih T.length (d+1) _ _ (by omega) hv (by omega) hPn (fun i hi hl=>by
     rw[hlen] at hl
     by_cases e:i=T.length
     ·rw[e,hPn]
      have:=hQ (d+1) (by omega) (by omega)
      rwa[show N-(d+1)=m+1 from by omega] at this
     ·have:(P++ [((P.getD at_ (0,0)).1+1,2*(P.getD at_ (0,0)).2+c/2^(m+1)%2)]).getD i (0,0)=P.getD i (0,0):=by
       simp[List.getD,List.getElem?_append_left (show i<P.length by have:=h.len;omega)]
      rw[this]
      exact hnd i hi (by omega))
    refine⟨P',h1,h2,hsub.trans h4,?_⟩
    rw[low,wk]
    have hpT:=h.pos
    have e2:=h4 at_ _ hb (by rw[hent];omega)
    rw[hent] at e2
    refine .inr ⟨by simp[low],by rw[e2];omega,?_⟩
    rw[e2,Int.toNat_natCast]
    exact h5
   ·rw[if_neg he]
    have hpos:0<ent T at_ (c/2^(m+1)%2):=by
     rcases Int.lt_trichotomy (ent T at_ (c/2^(m+1)%2)) 0 with q | q | q
     ·exfalso
      have h1:=h.leaf at_ _ hat hb q
      rw[hP] at h1
      refine hap _ _ h1 (by dsimp only;omega) ?_
      dsimp only
      rw[show N-(d+1)=m+1 from by omega]
      omega
     ·exact absurd q he
     ·exact q
    have hup:=h.up at_ _ hat hb hpos
    obtain⟨P',h1,h2,h4,h5⟩:=ih _ (d+1) _ _ (by omega) h hup.1 (by
     rw[hup.2,hP]
     simp only[Prod.mk.injEq]
     exact⟨trivial,by omega⟩) hnd
    refine⟨P',h1,h2,h4,?_⟩
    rw[low,wk]
    have e2:=h4 at_ _ hb he
    refine .inr ⟨by simp[low],by rw[e2];exact hpos,?_⟩
    rw[e2]
    exact h5
def beS(zs:List Int)(k:Nat)(x:Nat×Nat):Prop:=∃s,s<k∧x.1<(zs.getD s 0).toNat∧0<x.1∧x.2=Qds zs s/2^((zs.getD s 0).toNat-x.1)
theorem Qw3{zs:List Int}(hc:Qaq zs=true):∀k,k<=zs.length->∃P,Tv (Qbw zs k) P (coS zs k)∧(∀i,0<i->i<(Qbw zs k).length->beS zs k (P.getD i (0,0)))∧∀s,s<k->0<zs.getD s 0->wk (Qbw zs k) (-(s:Int)-1) 0 (low (Qds zs s) (zs.getD s 0).toNat):=by
 have hok:Qhl zs=true:=by unfold Qaq at hc;rw[Bool.and_eq_true] at hc;exact hc.1
 intro k
 induction k with
 | zero=>
   intro _
   obtain⟨P,h1,_⟩:=Qo1 hc 0 (by omega)
   refine⟨P,h1,fun i h0 hi=>?_,fun s hs=>by omega⟩
   simp[Qbw] at hi
   omega
 | succ k ih=>
   intro hk
   obtain⟨P,h1,h2,h3⟩:=ih (by omega)
   rw[Qbw]
   by_cases h0:0<zs.getD k 0
   ·rw[if_pos h0]
    have hr:=(Qb0 hok).2 _ (show zs.getD k 0∈zs from by simp[List.getD,List.getElem?_eq_getElem (show k<zs.length by omega)])
    obtain⟨n,hn⟩:∃n:Nat,zs.getD k 0=((n+1:Nat):Int):=⟨(zs.getD k 0).toNat-1,by omega⟩
    have hlt:=Qko hc k (n+1) (by omega) hn (by omega) (by omega)
    have hnN:(zs.getD k 0).toNat=n+1:=by omega
    obtain⟨P',h4,h5,h6,h7⟩:=Xbc (S:=coS zs k) (Q:=beS zs (k+1)) k (Qds zs k) (n+1)
     (fun l hl0 hl=>⟨k,by omega,by dsimp only;omega,hl0,by dsimp only;rw[hnN]⟩)
     (by
      rintro ⟨t,ht,hx,_,he⟩
      dsimp only at hx he
      have hne:k≠t:=by rintro rfl;omega
      exact Xgx k t (n+1) (zs.getD t 0).toNat (by omega) (by omega) hne hn (by omega) (by omega) (by omega) he)
     (by
      rintro ⟨t,ht,hx,he⟩
      simp only[Prod.mk.injEq] at he
      have hne:k≠t:=by omega
      exact hne (code_inj zs (n+1) k t (by omega) (by omega) (by omega) hn (by omega) he.2))
     (fun l p hS hl=>Qly (zs:=zs) k (n+1) (by omega) hn l p (by obtain⟨s,hs,hx⟩:=hS;exact⟨s,by omega,hx⟩) hl)
     n 0 0 (Qbw zs k) P (by omega) h1 h1.pos (by rw[h1.root,Nat.div_eq_of_lt hlt])
     (fun i hi hl=>by obtain⟨t,ht,hx⟩:=h2 i hi hl;exact⟨t,by omega,hx⟩)
    rw[hnN,Nat.add_sub_cancel]
    refine⟨P',h4.mono (fun x hx=>?_),h5,fun s hs hs0=>?_⟩
    ·rcases hx with ⟨t,ht,hx⟩ | rfl
     ·exact⟨t,by omega,hx⟩
     ·exact⟨k,by omega,h0,by rw[hnN]⟩
    ·by_cases e:s=k
     ·rw[e,hnN]
      exact h7
     ·exact Xg4 h6 (by omega) _ _ (fun b hb=>Qzr _ _ b hb) (h3 s (by omega) hs0)
   ·rw[if_neg h0]
    refine⟨P,h1.mono (fun x ⟨t,ht,hx⟩=>⟨t,by omega,hx⟩),fun i hi hl=>?_,fun s hs hs0=>?_⟩
    ·obtain⟨t,ht,hx⟩:=h2 i hi hl
     exact⟨t,by omega,hx⟩
    ·have hne:s≠k:=by rintro rfl;exact h0 hs0
     exact h3 s (by omega) hs0
end Hf
end
section
namespace Hf
def key(cs:List Int)(u:Int):Int:=cs.getD u.toNat 0
def Lx(cs:List Int)(u v:Int):Prop:=key cs u<key cs v∨(key cs u=key cs v∧u<v)
theorem Lx.trans{cs:List Int}{u v x:Int}(h1:Lx cs u v)(h2:Lx cs v x):Lx cs u x:=by
 unfold Lx at *;omega
theorem Lx.irrefl{cs:List Int}{u:Int}(h:Lx cs u u):False:=by
 unfold Lx at h;omega
theorem Lx.asymm{cs:List Int}{u v:Int}(h1:Lx cs u v)(h2:Lx cs v u):False:=(h1.trans h2).irrefl
def Qf6(X:List Int)(i j:Nat):List Int:=(X.set i (X.getD j 0)).set j (X.getD i 0)
theorem Qp8(X:List Int)(i j:Nat):(Qf6 X i j).length=X.length:=by simp[Qf6]
theorem Qb9(l:List Int)(i j:Nat)(v:Int)(h:i<l.length):(l.set i v).getD j 0=if j=i then v else l.getD j 0:=by
 simp only[List.getD,List.getElem?_set]
 by_cases e:i=j
 ·subst e;simp[h]
 ·rw[if_neg e,if_neg (fun x=>e x.symm)]
theorem Qhh(X:List Int)(i j k:Nat)(hi:i<X.length)(hj:j<X.length):(Qf6 X i j).getD k 0=if k=j then X.getD i 0 else if k=i then X.getD j 0 else X.getD k 0:=by
 unfold Qf6
 rw[Qb9 _ _ _ _ (by simpa using hj),Qb9 _ _ _ _ hi]
theorem Qg9(X:List Int)(i j:Nat)(hi:i<X.length)(hj:j<X.length):(Qf6 X i j).Perm X:=by
 rw[List.perm_iff_count]
 intro v
 have ei:X.getD i 0=X[i]:=by simp[List.getD,List.getElem?_eq_getElem hi]
 have ej:X.getD j 0=X[j]:=by simp[List.getD,List.getElem?_eq_getElem hj]
 unfold Qf6
 rw[ei,ej]
 have hj':j<(X.set i X[j]).length:=by simpa using hj
 rw[List.count_set hj',List.count_set hi,List.getElem_set]
 have c1:X[i]==v->0<X.count v:=fun h=>by
  rw[List.count_pos_iff]
  have:X[i]=v:=by simpa using h
  rw[<-this];exact List.getElem_mem hi
 by_cases e:i=j
 ·subst e
  simp only[if_true]
  by_cases h:X[i]==v
  ·have:=c1 h;simp only[h,if_true];omega
  ·simp only[h];simp
 ·simp only[e,if_false]
  by_cases h1:X[i]==v<;>by_cases h2:X[j]==v
  ·have:=c1 h1;simp only[h1,h2,if_true];omega
  ·have:=c1 h1;simp only[h1,h2,if_true];simp;omega
  ·simp only[h1,h2,if_true];simp
  ·simp only[h1,h2];simp
structure Sorted (cs:List Int) (a b:Nat) (o X:List Int):Prop where
 perm:X.Perm o
 out:∀p,p<a∨b<=p->X.getD p 0=o.getD p 0
 ord:∀p q,a<=p->p<q->q<b->Lx cs (X.getD p 0) (X.getD q 0)
structure Xdu (cs:List Int) (a b i:Nat) (o X:List Int):Prop where
 perm:X.Perm o
 out:∀p,p<a∨i<=p->X.getD p 0=o.getD p 0
 ord:∀p q,a<=p->p<q->q<i->Lx cs (X.getD p 0) (X.getD q 0)
 less:∀p q,a<=p->p<i->i<=q->q<b->X.getD p 0<o.getD q 0
structure Xdr (cs:List Int) (a b i j:Nat) (o X:List Int):Prop where
 perm:X.Perm o
 out:∀p,p<a∨i<p->X.getD p 0=o.getD p 0
 at':X.getD j 0=o.getD i 0
 ord:∀p q,a<=p->p<q->q<=i->p≠j->q≠j->Lx cs (X.getD p 0) (X.getD q 0)
 right:∀q,j<q->q<=i->key cs (X.getD j 0)<key cs (X.getD q 0)
 lessx:∀p,a<=p->p<=i->p≠j->X.getD p 0<o.getD i 0
 less:∀p q,a<=p->p<=i->i<q->q<b->X.getD p 0<o.getD q 0
theorem Xdu.start(cs:List Int)(a b:Nat)(o:List Int)(hinc:∀p q,a<=p->p<q->q<b->o.getD p 0<o.getD q 0):Xdu cs a b (a+1) o o:=
 ⟨List.Perm.refl _,fun _ _=>rfl,fun p q h1 h2 h3=>by omega,fun p q h1 h2 h3 h4=>by
  have:p=a:=by omega
  subst this
  exact hinc p q (Nat.le_refl _) (by omega) h4⟩
theorem Xdu.begin{cs:List Int}{a b i:Nat}{o X:List Int}(h:Xdu cs a b i o X)(hai:a<=i)(hib:i<b)(hinc:∀p q,a<=p->p<q->q<b->o.getD p 0<o.getD q 0):Xdr cs a b i i o X:=by
 refine⟨h.perm,fun p hp=>h.out p (by omega),h.out i (by omega),fun p q h1 h2 h3 h4 h5=>h.ord p q h1 h2 (by omega),fun q h1 h2=>by omega,fun p h1 h2 h3=>h.less p i h1 (by omega) (Nat.le_refl _) hib,fun p q h1 h2 h3 h4=>?_⟩
 by_cases e:p=i
 ·subst e;rw[h.out p (by omega)];exact hinc p q hai h3 h4
 ·exact h.less p q h1 (by omega) (by omega) h4
theorem Xdr.swap{cs:List Int}{a b i j:Nat}{o X:List Int}(h:Xdr cs a b i (j+1) o X)(haj:a<=j)(hji:j+1<=i)(hlen:i<X.length)(hk:key cs (X.getD (j+1) 0)<key cs (X.getD j 0)):Xdr cs a b i j o (Qf6 X (j+1) j):=by
 have hg:=fun k=>Qhh X (j+1) j k (by omega) (by omega)
 refine⟨(Qg9 X _ _ (by omega) (by omega)).trans h.perm,fun p hp=>?_,?_,fun p q h1 h2 h3 h4 h5=>?_,fun q h1 h2=>?_,fun p h1 h2 h3=>?_,fun p q h1 h2 h3 h4=>?_⟩
 ·rw[hg,if_neg (by omega),if_neg (by omega)];exact h.out p hp
 ·rw[hg,if_pos rfl];exact h.at'
 ·rw[hg,hg,if_neg h4,if_neg h5]
  by_cases e1:p=j+1
  ·rw[if_pos e1,if_neg (by omega)];exact h.ord j q haj (by omega) h3 (by omega) (by omega)
  ·rw[if_neg e1]
   by_cases e2:q=j+1
   ·rw[if_pos e2];exact h.ord p j h1 (by omega) (by omega) e1 (by omega)
   ·rw[if_neg e2];exact h.ord p q h1 h2 h3 e1 e2
 ·rw[hg,hg,if_pos rfl,if_neg (by omega)]
  by_cases e:q=j+1
  ·rw[if_pos e];exact hk
  ·rw[if_neg e];exact h.right q (by omega) h2
 ·rw[hg,if_neg h3]
  by_cases e:p=j+1
  ·rw[if_pos e];exact h.lessx j haj (by omega) (by omega)
  ·rw[if_neg e];exact h.lessx p h1 h2 e
 ·rw[hg]
  by_cases e1:p=j
  ·rw[if_pos e1];exact h.less (j+1) q (by omega) hji h3 h4
  ·rw[if_neg e1]
   by_cases e2:p=j+1
   ·rw[if_pos e2];exact h.less j q haj (by omega) h3 h4
   ·rw[if_neg e2];exact h.less p q h1 h2 h3 h4
theorem Xdr.done{cs:List Int}{a b i j:Nat}{o X:List Int}(h:Xdr cs a b i j o X)(haj:a<=j)(hji:j<=i)(hs:j=a∨¬key cs (X.getD j 0)<key cs (X.getD (j-1) 0)):Xdu cs a b (i+1) o X:=by
 refine⟨h.perm,fun p hp=>h.out p (by omega),fun p q h1 h2 h3=>?_,fun p q h1 h2 h3 h4=>h.less p q h1 (by omega) (by omega) h4⟩
 by_cases e1:p=j
 ·subst e1;exact Or.inl (h.right q h2 (by omega))
 ·by_cases e2:q=j
  ·subst e2
   have hx:=h.lessx p h1 (by omega) e1
   rw[<-h.at'] at hx
   rcases hs with hs | hs
   ·omega
   ·have hle:key cs (X.getD p 0)<=key cs (X.getD (q-1) 0):=by
     by_cases e3:p=q-1
     ·rw[e3];omega
     ·have:=h.ord p (q-1) h1 (by omega) (by omega) e1 (by omega)
      unfold Lx at this;omega
    unfold Lx;omega
  ·exact h.ord p q h1 h2 (by omega) e1 e2
theorem Xdu.sorted{cs:List Int}{a b:Nat}{o X:List Int}(h:Xdu cs a b b o X):Sorted cs a b o X:=⟨h.perm,h.out,h.ord⟩
theorem Qq3{cs:List Int}:∀ {l m:List Int},l.Perm m->l.Pairwise (Lx cs)->m.Pairwise (Lx cs)->l=m
 | [],m,hp,_,_=>by
   have:=hp.length_eq
   cases m with
   | nil=>rfl
   | cons _ _=>simp at this
 | x::l,[],hp,_,_=>by have:=hp.length_eq;simp at this
 | x::l,y::m,hp,h1,h2=>by
   rw[List.pairwise_cons] at h1 h2
   have e:x=y:=by
    have hx:x∈y::m:=hp.subset (by simp)
    have hy:y∈x::l:=hp.symm.subset (by simp)
    rw[List.mem_cons] at hx hy
    rcases hx with hx | hx
    ·exact hx
    ·rcases hy with hy | hy
     ·exact hy.symm
     ·exact((h1.1 y hy).asymm (h2.1 x hx)).elim
   subst e
   rw[Qq3 (List.Perm.cons_inv hp) h1.2 h2.2]
theorem Qtv{cs:List Int}(X:List Int)(h:∀p q,p<q->q<X.length->Lx cs (X.getD p 0) (X.getD q 0)):X.Pairwise (Lx cs):=by
 rw[List.pairwise_iff_getElem]
 intro i j hi hj hij
 have:=h i j hij hj
 simpa [List.getD,List.getElem?_eq_getElem hi,List.getElem?_eq_getElem hj] using this
def nz(cs:List Int):Nat->List Int
 | 0=> []
 | k+1=>if 0<cs.getD k 0 then nz cs k++ [(k:Int)] else nz cs k
theorem Qjt(cs:List Int)(k:Nat):∀u∈nz cs k,0<=u∧u<(k:Int)∧0<cs.getD u.toNat 0:=by
 induction k with
 | zero=>intro u hu;simp[nz] at hu
 | succ k ih=>
   intro u hu
   rw[nz] at hu
   split at hu
   ·rw[List.mem_append,List.mem_singleton] at hu
    rcases hu with hu | hu
    ·have:=ih u hu;omega
    ·subst hu;rw[Int.toNat_natCast];omega
   ·have:=ih u hu;omega
theorem Qk8(cs:List Int)(k:Nat):(nz cs k).length<=k:=by
 induction k with
 | zero=>simp[nz]
 | succ k ih=>
   rw[nz];split
   ·rw[List.length_append];simp;omega
   ·omega
theorem Qvh(cs:List Int)(k:Nat):(nz cs k).Pairwise (· < ·):=by
 induction k with
 | zero=>exact List.Pairwise.nil
 | succ k ih=>
   rw[nz];split
   ·rw[List.pairwise_append]
    refine⟨ih,List.pairwise_singleton _ _,fun u hu v hv=>?_⟩
    rw[List.mem_singleton] at hv
    have:=Qjt cs k u hu
    omega
   ·exact ih
theorem Qov{l:List Int}(h:l.Pairwise (· < ·)):∀p q,p<q->q<l.length->l.getD p 0<l.getD q 0:=by
 intro p q hpq hq
 rw[List.pairwise_iff_getElem] at h
 have:=h p q (by omega) hq hpq
 simpa [List.getD,List.getElem?_eq_getElem hq,List.getElem?_eq_getElem (show p<l.length from by omega)] using this
instance (cs:List Int) (u v:Int):Decidable (Lx cs u v):=by unfold Lx;infer_instance
def Xj3(cs:List Int)(u:Int):List Int->List Int
 | []=> [u]
 | v::l=>if Lx cs u v then u::v::l else v::Xj3 cs u l
def Xj4(cs:List Int):List Int->List Int
 | []=> []
 | u::l=>Xj3 cs u (Xj4 cs l)
def srt(cs:List Int):List Int:=Xj4 cs (nz cs cs.length)
theorem Qrt(cs:List Int)(u:Int)(l:List Int):(Xj3 cs u l).Perm (u::l):=by
 induction l with
 | nil=>exact List.Perm.refl _
 | cons v l ih=>
   rw[Xj3];split
   ·exact List.Perm.refl _
   ·exact(List.Perm.cons v ih).trans (List.Perm.swap u v l)
theorem Xgh(cs:List Int)(u:Int)(l:List Int)(h:l.Pairwise (Lx cs))(hne:∀v∈l,u≠v):(Xj3 cs u l).Pairwise (Lx cs):=by
 induction l with
 | nil=>exact List.pairwise_singleton _ _
 | cons v l ih=>
   rw[List.pairwise_cons] at h
   rw[Xj3];split
   ·rename_i hl
    refine List.pairwise_cons.2 ⟨fun x hx=>?_,List.pairwise_cons.2 h⟩
    rw[List.mem_cons] at hx
    rcases hx with hx | hx
    ·subst hx;exact hl
    ·exact hl.trans (h.1 x hx)
   ·rename_i hl
    have hvu:Lx cs v u:=by
     have:=hne v (by simp)
     unfold Lx at hl|-;omega
    refine List.pairwise_cons.2 ⟨fun x hx=>?_,ih h.2 (fun w hw=>hne w (by simp[hw]))⟩
    have hx':=(Qrt cs u l).subset hx
    rw[List.mem_cons] at hx'
    rcases hx' with hx' | hx'
    ·subst hx';exact hvu
    ·exact h.1 x hx'
theorem Qrm(cs:List Int)(l:List Int):(Xj4 cs l).Perm l:=by
 induction l with
 | nil=>exact List.Perm.refl _
 | cons u l ih=>rw[Xj4];exact(Qrt cs u _).trans (List.Perm.cons u ih)
theorem Xe4(cs:List Int)(l:List Int)(h:l.Pairwise (· < ·)):(Xj4 cs l).Pairwise (Lx cs):=by
 induction l with
 | nil=>exact List.Pairwise.nil
 | cons u l ih=>
   rw[List.pairwise_cons] at h
   rw[Xj4]
   refine Xgh cs u _ (ih h.2) (fun v hv=>?_)
   have:=h.1 v ((Qrm cs l).subset hv)
   omega
theorem Qg0(cs:List Int):(srt cs).Perm (nz cs cs.length):=Qrm cs _
theorem Qpb(cs:List Int):(srt cs).Pairwise (Lx cs):=Xe4 cs _ (Qvh cs _)
theorem Xkz{cs X:List Int}(h:Sorted cs 0 (nz cs cs.length).length (nz cs cs.length) X):X=srt cs:=
 Qq3 (h.perm.trans (Qg0 cs).symm) (Qtv X (fun p q h1 h2=>h.ord p q (by omega) h1 (by rw[<-h.perm.length_eq];exact h2))) (Qpb cs)
theorem Qhu(cs:List Int):∀u∈srt cs,0<=u∧u<(cs.length:Int)∧0<cs.getD u.toNat 0:=fun u hu=>Qjt cs _ u ((Qg0 cs).subset hu)
theorem Qca(cs:List Int):(srt cs).length=(nz cs cs.length).length:=(Qg0 cs).length_eq
end Hf
end
section
namespace Hf
abbrev Nodes:=List (Int×Int)
def wt(N:Nodes)(i:Nat):Int:=(N.getD i (0,0)).1
def inn(N:Nodes)(i:Nat):Int:=(N.getD i (0,0)).2
def Qb5(n:Nat)(N:Nodes)(l p:Nat):Bool:=p==N.length||(decide (l<n)&&decide (wt N l<=wt N p))
def takeA(n:Nat)(N:Nodes)(l p:Nat):Nat:=if Qb5 n N l p then l else p
def Qa0(n:Nat)(N:Nodes)(l p:Nat):Nat:=if Qb5 n N l p then l+1 else l
def Qay(n:Nat)(N:Nodes)(l p:Nat):Nat:=if Qb5 n N l p then p else p+1
structure TS where
 N:Nodes
 l:Nat
 p:Nat
def Qcg(N:Nodes)(i:Nat)(v:Int):Nodes:=N.set i (wt N i,v)
def Qfb(n:Nat)(s:TS):Nat:=takeA n s.N s.l s.p
def Qfe(n:Nat)(s:TS):Nat:=takeA n s.N (Qa0 n s.N s.l s.p) (Qay n s.N s.l s.p)
def Qcc(n:Nat)(s:TS):TS:=
 ⟨Qcg (Qcg s.N (Qfb n s) (s.N.length:Int)) (Qfe n s) (s.N.length:Int)++ [(wt s.N (Qfb n s)+wt s.N (Qfe n s),0)],
  Qa0 n s.N (Qa0 n s.N s.l s.p) (Qay n s.N s.l s.p),Qay n s.N (Qa0 n s.N s.l s.p) (Qay n s.N s.l s.p)⟩
def Qbk(ws:List Int):TS:=⟨ws.map (fun x=>(x,0)),0,ws.length⟩
def Qae(ws:List Int):Nat->TS
 | 0=>Qbk ws
 | t+1=>Qcc ws.length (Qae ws t)
theorem Qbj(N:Nodes)(i:Nat)(v:Int):(Qcg N i v).length=N.length:=by simp[Qcg]
theorem Qez(N:Nodes)(i:Nat)(v:Int)(j:Nat):wt (Qcg N i v) j=wt N j:=by
 unfold wt Qcg wt
 simp only[List.getD,List.getElem?_set]
 by_cases e:i=j
 ·subst e
  by_cases h:i<N.length
  ·simp[h]
  ·simp[h]
 ·rw[if_neg e]
theorem Qik(N:Nodes)(i:Nat)(v:Int)(j:Nat)(h:i<N.length):inn (Qcg N i v) j=if j=i then v else inn N j:=by
 unfold inn Qcg
 simp only[List.getD,List.getElem?_set]
 by_cases e:i=j
 ·subst e;simp[h]
 ·rw[if_neg e,if_neg (fun x=>e x.symm)]
theorem Xac(N:Nodes)(x:Int×Int)(j:Nat)(h:j<N.length):wt (N++ [x]) j=wt N j:=by
 unfold wt;simp[List.getD,List.getElem?_append_left h]
theorem Xcq(N:Nodes)(x:Int×Int)(j:Nat)(h:j<N.length):inn (N++ [x]) j=inn N j:=by
 unfold inn;simp[List.getD,List.getElem?_append_left h]
theorem Xa3(N:Nodes)(x:Int×Int):wt (N++ [x]) N.length=x.1:=by
 unfold wt;simp[List.getD]
theorem Xkt(N:Nodes)(j:Nat)(h:N.length<=j):wt N j=0:=by
 unfold wt;simp[List.getD,List.getElem?_eq_none h]
def Qiw(N:Nodes):Nat->Nat->Int
 | _,0=>0
 | i,k+1=>wt N i+Qiw N (i+1) k
theorem Qi4{N M:Nodes}:∀(k i:Nat),(∀j,i<=j->j<i+k->wt N j=wt M j)->Qiw N i k=Qiw M i k
 | 0,_,_=>rfl
 | k+1,i,h=>by
   rw[Qiw,Qiw,h i (Nat.le_refl _) (by omega),Qi4 k (i+1) (fun j h1 h2=>h j (by omega) (by omega))]
theorem Qsg(N:Nodes):∀(k i:Nat),Qiw N i (k+1)=Qiw N i k+wt N (i+k)
 | 0,i=>by simp[Qiw]
 | k+1,i=>by
   rw[Qiw,Qsg N k (i+1),Qiw]
   rw[show i+1+k=i+(k+1) from by omega]
   omega
theorem Qh9(N:Nodes)(h:∀i,0<=wt N i):∀(k i:Nat),0<=Qiw N i k
 | 0,_=>by simp[Qiw]
 | k+1,i=>by
   rw[Qiw]
   have:=h i
   have:=Qh9 N h k (i+1)
   omega
def Qfs(n:Nat)(N:Nodes)(l p:Nat):Int:=Qiw N l (n-l)+Qiw N p (N.length-p)
structure TI (n:Nat) (C:Int) (t:Nat) (s:TS):Prop where
 len:s.N.length=n+t
 ln:s.l<=n
 np:n<=s.p
 pl:s.p<=n+t
 cnt:s.l+s.p=2*t+n
 pos:∀i,0<=wt s.N i
 sum:Qfs n s.N s.l s.p=C
 par:∀i,(i<s.l∨(n<=i∧i<s.p))->(i:Int)<inn s.N i∧inn s.N i<((n+t:Nat):Int)
 last:0<t->s.p<n+t
theorem take_one{n:Nat}{N:Nodes}{l p:Nat}(ln:l<=n)(np:n<=p)(pl:p<=N.length)(hfree:0<(n-l)+(N.length-p)):
 takeA n N l p<N.length∧Qa0 n N l p<=n∧n<=Qay n N l p∧Qay n N l p<=N.length∧Qa0 n N l p+Qay n N l p=l+p+1 ∧
 Qfs n N l p=wt N (takeA n N l p)+Qfs n N (Qa0 n N l p) (Qay n N l p) ∧
 ((takeA n N l p=l∧l<n∧Qa0 n N l p=l+1∧Qay n N l p=p)∨(takeA n N l p=p∧p<N.length∧Qa0 n N l p=l∧Qay n N l p=p+1)):=by
 unfold takeA Qa0 Qay
 cases hu:Qb5 n N l p with
 | true=>
   have hl:l<n:=by
    unfold Qb5 at hu
    rw[Bool.or_eq_true,beq_iff_eq,Bool.and_eq_true,decide_eq_true_eq] at hu
    omega
   simp only[if_true]
   refine⟨by omega,by omega,np,pl,by omega,?_,Or.inl (by simp[hl])⟩
   unfold Qfs
   rw[show n-l=(n-(l+1))+1 from by omega,Qiw]
   omega
 | false=>
   have hp:p<N.length:=by
    unfold Qb5 at hu
    rw[Bool.or_eq_false_iff] at hu
    have h1:p≠N.length:=by simpa using hu.1
    omega
   simp only[Bool.false_eq_true,if_false]
   refine⟨hp,ln,by omega,by omega,by omega,?_,Or.inr (by simp[hp])⟩
   unfold Qfs
   rw[show N.length-p=(N.length-(p+1))+1 from by omega,Qiw]
   omega
theorem TI.step{n:Nat}{C:Int}{t:Nat}{s:TS}(h:TI n C t s)(ht:t+2<=n):
 TI n C (t+1) (Qcc n s)∧Qfb n s<s.N.length∧Qfe n s<s.N.length∧Qfb n s≠Qfe n s∧wt s.N (Qfb n s)+wt s.N (Qfe n s)<=C:=by
 have hlen:=h.len
 have hln:=h.ln
 have hnp:=h.np
 have hpl:=h.pl
 have hcnt:=h.cnt
 obtain⟨a1,a2,a3,a4,a5,a6,a7⟩:=take_one (n:=n) (N:=s.N) (l:=s.l) (p:=s.p) h.ln h.np (by omega) (by omega)
 obtain⟨b1,b2,b3,b4,b5,b6,b7⟩:=take_one (n:=n) (N:=s.N) (l:=Qa0 n s.N s.l s.p) (p:=Qay n s.N s.l s.p) a2 a3 a4 (by omega)
 have hA:Qfb n s=takeA n s.N s.l s.p:=rfl
 have hB:Qfe n s=takeA n s.N (Qa0 n s.N s.l s.p) (Qay n s.N s.l s.p):=rfl
 have hne:Qfb n s≠Qfe n s:=by rw[hA,hB];omega
 rw[<-hA] at a1 a6 a7
 rw[<-hB] at b1 b6 b7
 have hl2:(Qcc n s).l=Qa0 n s.N (Qa0 n s.N s.l s.p) (Qay n s.N s.l s.p):=rfl
 have hp2:(Qcc n s).p=Qay n s.N (Qa0 n s.N s.l s.p) (Qay n s.N s.l s.p):=rfl
 have hN2:(Qcc n s).N=Qcg (Qcg s.N (Qfb n s) (s.N.length:Int)) (Qfe n s) (s.N.length:Int)++ [(wt s.N (Qfb n s)+wt s.N (Qfe n s),0)]:=rfl
 generalize Qfb n s=A at *
 generalize Qfe n s=B at *
 generalize Qa0 n s.N (Qa0 n s.N s.l s.p) (Qay n s.N s.l s.p)=l2 at *
 generalize Qay n s.N (Qa0 n s.N s.l s.p) (Qay n s.N s.l s.p)=p2 at *
 generalize Qa0 n s.N s.l s.p=l1 at *
 generalize Qay n s.N s.l s.p=p1 at *
 have hM:(Qcg (Qcg s.N A (s.N.length:Int)) B (s.N.length:Int)).length=s.N.length:=by rw[Qbj,Qbj]
 have hwt:∀j,j<s.N.length->wt (Qcc n s).N j=wt s.N j:=fun j hj=>by
  rw[hN2,Xac _ _ _ (by rw[hM];exact hj),Qez,Qez]
 have hwl:wt (Qcc n s).N s.N.length=wt s.N A+wt s.N B:=by
  rw[hN2]
  have:=Xa3 (Qcg (Qcg s.N A (s.N.length:Int)) B (s.N.length:Int)) (wt s.N A+wt s.N B,0)
  rw[hM] at this
  exact this
 have hfree2:0<=Qfs n s.N l2 p2:=by
  unfold Qfs
  have:=Qh9 s.N h.pos (n-l2) l2
  have:=Qh9 s.N h.pos (s.N.length-p2) p2
  omega
 have hC:Qfs n s.N s.l s.p=C:=h.sum
 have hle:wt s.N A+wt s.N B<=C:=by omega
 have hlen2:(Qcc n s).N.length=n+(t+1):=by rw[hN2,List.length_append,hM,hlen];simp;omega
 refine⟨⟨hlen2,by rw[hl2];omega,by rw[hp2];omega,by rw[hp2];omega,by rw[hl2,hp2];omega,fun i=>?_,?_,fun i hi=>?_,fun _=>by rw[hp2];omega⟩,a1,b1,hne,hle⟩
 ·by_cases hi:i<s.N.length
  ·rw[hwt i hi];exact h.pos i
  ·by_cases hi2:i=s.N.length
   ·subst hi2
    rw[hwl]
    have:=h.pos A
    have:=h.pos B
    omega
   ·rw[Xkt _ _ (by rw[hlen2];omega)];omega
 ·rw[hl2,hp2]
  unfold Qfs
  rw[hlen2,show n+(t+1)-p2=(s.N.length-p2)+1 from by omega,Qsg,show p2+(s.N.length-p2)=s.N.length from by omega,hwl]
  rw[Qi4 (N:=(Qcc n s).N) (M:=s.N) (n-l2) l2 (fun j h1 h2=>hwt j (by omega)),Qi4 (N:=(Qcc n s).N) (M:=s.N) (s.N.length-p2) p2 (fun j h1 h2=>hwt j (by omega))]
  unfold Qfs at hC a6 b6
  omega
 ·rw[hl2,hp2] at hi
  have hil:i<s.N.length:=by omega
  rw[hN2,Xcq _ _ _ (by rw[hM];exact hil),Qik _ _ _ _ (by rw[Qbj];exact b1),Qik _ _ _ _ a1]
  by_cases e1:i=B
  ·rw[if_pos e1];omega
  ·rw[if_neg e1]
   by_cases e2:i=A
   ·rw[if_pos e2];omega
   ·rw[if_neg e2]
    have:=h.par i (by omega)
    omega
theorem TI.start(ws:List Int)(h:∀i,0<=ws.getD i 0):TI ws.length (Qfs ws.length (Qbk ws).N 0 ws.length) 0 (Qbk ws):=by
 refine⟨by simp[Qbk],by simp[Qbk],by simp[Qbk],by simp[Qbk],by simp[Qbk],fun i=>?_,rfl,fun i hi=>?_,fun h=>by omega⟩
 ·have:=h i
  unfold wt Qbk
  simp only[List.getD,List.getElem?_map] at this|-
  generalize ws[i]?=o at this
  cases o with
  | none=>simp
  | some x=>simpa using this
 ·simp[Qbk] at hi;omega
theorem TI.run(ws:List Int)(h:∀i,0<=ws.getD i 0)(t:Nat)(ht:t+1<=ws.length):TI ws.length (Qfs ws.length (Qbk ws).N 0 ws.length) t (Qae ws t):=by
 induction t with
 | zero=>exact TI.start ws h
 | succ t ih=>exact((ih (by omega)).step (by omega)).1
def Qc4(N:Nodes):List Int:=N.flatMap (fun x=> [x.1,x.2])
theorem Qd2(N:Nodes):(Qc4 N).length=N.length*2:=by
 unfold Qc4
 induction N with
 | nil=>rfl
 | cons x N ih=>rw[List.flatMap_cons,List.length_append,ih];simp;omega
theorem Qdn(x:Int×Int)(N:Nodes):Qc4 (x::N)=x.1::x.2::Qc4 N:=rfl
theorem Qog(N:Nodes)(i:Nat):(Qc4 N).getD (2*i) 0=wt N i:=by
 unfold wt
 induction N generalizing i with
 | nil=>simp[Qc4]
 | cons x N ih=>
   rw[Qdn]
   cases i with
   | zero=>simp
   | succ i=>
     have:=ih i
     rw[show 2*(i+1)=2*i+1+1 from by omega]
     simpa using this
theorem Ql6(N:Nodes)(i:Nat):(Qc4 N).getD (2*i+1) 0=inn N i:=by
 unfold inn
 induction N generalizing i with
 | nil=>simp[Qc4]
 | cons x N ih=>
   rw[Qdn]
   cases i with
   | zero=>simp
   | succ i=>
     have:=ih i
     rw[show 2*(i+1)+1=2*i+1+1+1 from by omega]
     simpa using this
theorem Xdq(N:Nodes)(i:Nat)(v:Int)(h:i<N.length):(Qc4 N).set (2*i+1) v=Qc4 (Qcg N i v):=by
 unfold Qcg wt
 induction N generalizing i with
 | nil=>simp at h
 | cons x N ih=>
   cases i with
   | zero=>simp[Qdn]
   | succ i=>
     have:=ih i (by simpa using h)
     rw[show 2*(i+1)+1=2*i+1+1+1 from by omega]
     simp only[Qdn,List.set_cons_succ,List.getD_cons_succ]
     rw[this]
theorem Qrs(N:Nodes)(x y:Int):Qc4 (N++ [(x,y)])=Qc4 N++ [x,y]:=by
 unfold Qc4;simp
end Hf
end
end Go.Proofs.YtibjlbcnapoblaaGreatDoor
