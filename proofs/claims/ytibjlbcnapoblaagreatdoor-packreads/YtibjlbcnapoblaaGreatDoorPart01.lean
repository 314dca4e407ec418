/- Contracts and facts. -/
import Derived.Test.YtibjlbcnapoblaaGreatDoorPart00
namespace Go.Proofs.YtibjlbcnapoblaaGreatDoor
set_option maxRecDepth 100000
set_option maxHeartbeats 6400000
section
namespace Hf
def low(x:Nat):Nat->List Nat
 | 0=> []
 | n+1=>x/2^n%2::low x n
theorem Qa2(x:Nat):∀n,(low x n).length=n
 | 0=>rfl
 | n+1=>by rw[low,List.length_cons,Qa2 x n]
theorem Qzs(x:Nat):∀n b,b∈low x n->b<2
 | 0,b,h=>by simp[low] at h
 | n+1,b,h=>by
   rw[low,List.mem_cons] at h
   rcases h with rfl | h
   ·exact Nat.mod_lt _ (by decide)
   ·exact Qzs x n b h
def wk(T:Tr)(x:Int):Nat->List Nat->Prop
 | _,[]=>False
 | i,b::r=>(r= []∧ent T i b=x)∨(r≠ []∧0<ent T i b∧wk T x (ent T i b).toNat r)
def Sub(T T':Tr):Prop:=∀i b,b<2->ent T i b≠0->ent T' i b=ent T i b
theorem Sub.trans{a b c:Tr}(h:Sub a b)(k:Sub b c):Sub a c:=fun i d hd hx=>by
 have h1:=h i d hd hx
 rw[k i d hd (by rw[h1];exact hx),h1]
theorem Xho{T T':Tr}(h:Sub T T'){x:Int}(hx:x≠0):∀(l:List Nat) (i:Nat),(∀b∈l,b<2)->wk T x i l->wk T' x i l
 | [],_,_,k=>k
 | b::r,i,hb,k=>by
   rw[wk] at k|-
   have h2:=hb b (List.mem_cons_self ..)
   rcases k with ⟨k1,k2⟩ | ⟨k1,k2,k3⟩
   ·exact .inl ⟨k1,by rw[h i b h2 (by rw[k2];exact hx),k2]⟩
   ·have e:=h i b h2 (by omega)
    exact .inr ⟨k1,by rw[e];exact k2,by rw[e];exact Xho h hx r _ (fun c hc=>hb c (List.mem_cons_of_mem _ hc)) k3⟩
theorem Xco{T:Tr}(i b:Nat)(x:Int)(hi:i<T.length)(hb:b<2)(h0:ent T i b=0):Sub T (Qmw T i b x):=fun j d hd hx=>by
 rw[Qei T i b x hi j d hb hd]
 by_cases e:j=i∧d=b
 ·obtain⟨rfl,rfl⟩:=e;exact absurd h0 hx
 ·rw[if_neg e]
theorem Xj6(T:Tr):Sub T (T++ [(0,0)]):=fun j d _ _=>Qje T j d
theorem Xda{S Q:Nat×Nat->Prop}(s c N:Nat)(hQ:∀l,0<l->l<N->Q (l,c/2^(N-l)))(hQc:¬Q (N,c))(hSc:¬S (N,c))(hap:∀l p,S (l,p)->l<N->c/2^(N-l)≠p):
 ∀(m at_ d:Nat) (T:Tr) (P:List (Nat×Nat)),d+m+1=N->Tv T P S->at_<T.length->P.getD at_ (0,0)=(d,c/2^(m+1))->(∀i,0<i->i<T.length->Q (P.getD i (0,0))) ->
 ∃P',Tv (Qcz s c m at_ T) P' (fun x=>S x∨x=(N,c))∧(∀i,0<i->i<(Qcz s c m at_ T).length->Q (P'.getD i (0,0)))∧Sub T (Qcz s c m at_ T)∧wk (Qcz s c m at_ T) (-(s:Int)-1) at_ (low c (m+1)):=by
 intro m
 induction m with
 | zero=>
   intro at_ d T P hN h hat hP hnd
   have hb:c%2<2:=Nat.mod_lt _ (by decide)
   have h3:=half c 0
   rw[Nat.pow_zero,Nat.div_one] at h3
   have h0:ent T at_ (c%2)=0:=by
    rcases Int.lt_trichotomy (ent T at_ (c%2)) 0 with q | q | q
    ·exfalso
     have h1:=h.leaf at_ _ hat hb q
     rw[hP] at h1
     dsimp only at h1
     rw[<-h3,show d+1=N from by omega] at h1
     exact hSc h1
    ·exact q
    ·exfalso
     have hup:=h.up at_ _ hat hb q
     have h1:=hnd _ (by omega) hup.1
     rw[hup.2,hP] at h1
     dsimp only at h1
     rw[<-h3,show d+1=N from by omega] at h1
     exact hQc h1
   refine⟨P,?_,?_,?_,?_⟩
   ·rw[Qcz]
    refine(h.mono (fun x hx=>Or.inl hx)).put at_ (c%2) s hat hb (.inr ?_)
    rw[hP]
    dsimp only
    rw[<-h3,show d+1=N from by omega]
   ·rw[Qcz,Qa1];exact hnd
   ·rw[Qcz];exact Xco _ _ _ hat hb h0
   ·rw[Qcz,low,low,wk]
    refine .inl ⟨rfl,?_⟩
    rw[Nat.pow_zero,Nat.div_one,Qei T at_ _ _ hat at_ _ hb hb,if_pos ⟨rfl,rfl⟩]
 | succ m ih=>
   intro at_ d T P hN h hat hP hnd
   have hb:c/2^(m+1)%2<2:=Nat.mod_lt _ (by decide)
   have h3:=half c (m+1)
   rw[Qcz]
   by_cases he:ent T at_ (c/2^(m+1)%2)=0
   ·rw[if_pos he]
    have hv:=h.node at_ (c/2^(m+1)%2) hat hb
    have hlen:(Qmw T at_ (c/2^(m+1)%2) (T.length:Int)++ [((0:Int),(0:Int))]).length=T.length+1:=by simp[Qa1]
    have hPn:(P++ [((P.getD at_ (0,0)).1+1,2*(P.getD at_ (0,0)).2+c/2^(m+1)%2)]).getD T.length (0,0)=(d+1,c/2^(m+1)):=by
     rw[<-h.len,hP]
     simp only[List.getD,List.getElem?_concat_length,Option.getD_some,Prod.mk.injEq]
     exact⟨trivial,by omega⟩
    have hsub:Sub T (Qmw T at_ (c/2^(m+1)%2) (T.length:Int)++ [(0,0)]):=(Xco at_ _ _ hat hb he).trans (Xj6 _)
    have hent:ent (Qmw T at_ (c/2^(m+1)%2) (T.length:Int)++ [(0,0)]) at_ (c/2^(m+1)%2)=(T.length:Int):=by
     rw[Qje,Qei T at_ _ _ hat at_ _ hb hb,if_pos ⟨rfl,rfl⟩]
    obtain⟨P',h1,h2,h4,h5⟩:=ih T.length (d+1) _ _ (by omega) hv (by omega) hPn (fun i hi hl=>by
     rw[hlen] at hl
     by_cases e:i=T.length
     ·rw[e,hPn]
      have:=hQ (d+1) (by omega) (by omega)
      rwa[show N-(d+1)=m+1 from by omega] at this
     ·have:(P++ [((P.getD at_ (0,0)).1+1,2*(P.getD at_ (0,0)).2+c/2^(m+1)%2)]).getD i (0,0)=P.getD i (0,0):=by
       simp[List.getD,List.getElem?_append_left (show i<P.length by have:=h.len;omega)]
      rw[this]
      exact hnd i hi (by omega))
    refine⟨P',h1,h2,hsub.trans h4,?_⟩
    rw[low,wk]
    have hpT:=h.pos
    have e2:=h4 at_ _ hb (by rw[hent];omega)
    rw[hent] at e2
    refine .inr ⟨by simp[low],by rw[e2];omega,?_⟩
    rw[e2,Int.toNat_natCast]
    exact h5
   ·rw[if_neg he]
    have hpos:0<ent T at_ (c/2^(m+1)%2):=by
     rcases Int.lt_trichotomy (ent T at_ (c/2^(m+1)%2)) 0 with q | q | q
     ·exfalso
      have h1:=h.leaf at_ _ hat hb q
      rw[hP] at h1
      refine hap _ _ h1 (by dsimp only;omega) ?_
      dsimp only
      rw[show N-(d+1)=m+1 from by omega]
      omega
     ·exact absurd q he
     ·exact q
    have hup:=h.up at_ _ hat hb hpos
    obtain⟨P',h1,h2,h4,h5⟩:=ih _ (d+1) _ _ (by omega) h hup.1 (by
     rw[hup.2,hP]
     simp only[Prod.mk.injEq]
     exact⟨trivial,by omega⟩) hnd
    refine⟨P',h1,h2,h4,?_⟩
    rw[low,wk]
    have e2:=h4 at_ _ hb he
    refine .inr ⟨by simp[low],by rw[e2];exact hpos,?_⟩
    rw[e2]
    exact h5
def beS(zs:List Int)(k:Nat)(x:Nat×Nat):Prop:=∃s,s<k∧x.1<(zs.getD s 0).toNat∧0<x.1∧x.2=Qbt zs s/2^((zs.getD s 0).toNat-x.1)
theorem Qxd{zs:List Int}(hc:Qal zs=true):∀k,k<=zs.length->∃P,Tv (Qbx zs k) P (coS zs k)∧(∀i,0<i->i<(Qbx zs k).length->beS zs k (P.getD i (0,0)))∧∀s,s<k->0<zs.getD s 0->wk (Qbx zs k) (-(s:Int)-1) 0 (low (Qbt zs s) (zs.getD s 0).toNat):=by
 have hok:Qhl zs=true:=by unfold Qal at hc;rw[Bool.and_eq_true] at hc;exact hc.1
 intro k
 induction k with
 | zero=>
   intro _
   obtain⟨P,h1,_⟩:=Qow hc 0 (by omega)
   refine⟨P,h1,fun i h0 hi=>?_,fun s hs=>by omega⟩
   simp[Qbx] at hi
   omega
 | succ k ih=>
   intro hk
   obtain⟨P,h1,h2,h3⟩:=ih (by omega)
   rw[Qbx]
   by_cases h0:0<zs.getD k 0
   ·rw[if_pos h0]
    have hr:=(Qb1 hok).2 _ (show zs.getD k 0∈zs from by simp[List.getD,List.getElem?_eq_getElem (show k<zs.length by omega)])
    obtain⟨n,hn⟩:∃n:Nat,zs.getD k 0=((n+1:Nat):Int):=⟨(zs.getD k 0).toNat-1,by omega⟩
    have hlt:=Qi4 hc k (n+1) (by omega) hn (by omega) (by omega)
    have hnN:(zs.getD k 0).toNat=n+1:=by omega
    obtain⟨P',h4,h5,h6,h7⟩:=Xda (S:=coS zs k) (Q:=beS zs (k+1)) k (Qbt zs k) (n+1)
     (fun l hl0 hl=>⟨k,by omega,by dsimp only;omega,hl0,by dsimp only;rw[hnN]⟩)
     (by
      rintro ⟨t,ht,hx,_,he⟩
      dsimp only at hx he
      have hne:k≠t:=by rintro rfl;omega
      exact Xgt k t (n+1) (zs.getD t 0).toNat (by omega) (by omega) hne hn (by omega) (by omega) (by omega) he)
     (by
      rintro ⟨t,ht,hx,he⟩
      simp only[Prod.mk.injEq] at he
      have hne:k≠t:=by omega
      exact hne (code_inj zs (n+1) k t (by omega) (by omega) (by omega) hn (by omega) he.2))
     (fun l p hS hl=>Qmh (zs:=zs) k (n+1) (by omega) hn l p (by obtain⟨s,hs,hx⟩:=hS;exact⟨s,by omega,hx⟩) hl)
     n 0 0 (Qbx zs k) P (by omega) h1 h1.pos (by rw[h1.root,Nat.div_eq_of_lt hlt])
     (fun i hi hl=>by obtain⟨t,ht,hx⟩:=h2 i hi hl;exact⟨t,by omega,hx⟩)
    rw[hnN,Nat.add_sub_cancel]
    refine⟨P',h4.mono (fun x hx=>?_),h5,fun s hs hs0=>?_⟩
    ·rcases hx with ⟨t,ht,hx⟩ | rfl
     ·exact⟨t,by omega,hx⟩
     ·exact⟨k,by omega,h0,by rw[hnN]⟩
    ·by_cases e:s=k
     ·rw[e,hnN]
      exact h7
     ·exact Xho h6 (by omega) _ _ (fun b hb=>Qzs _ _ b hb) (h3 s (by omega) hs0)
   ·rw[if_neg h0]
    refine⟨P,h1.mono (fun x ⟨t,ht,hx⟩=>⟨t,by omega,hx⟩),fun i hi hl=>?_,fun s hs hs0=>?_⟩
    ·obtain⟨t,ht,hx⟩:=h2 i hi hl
     exact⟨t,by omega,hx⟩
    ·have hne:s≠k:=by rintro rfl;exact h0 hs0
     exact h3 s (by omega) hs0
end Hf
end
/-
 Plain facts on rows that are sorted by how often their numbers come, of alike ones the lesser one first.
-/
section
namespace Hf
def key(cs:List Int)(u:Int):Int:=cs.getD u.toNat 0
def Lx(cs:List Int)(u v:Int):Prop:=key cs u<key cs v∨(key cs u=key cs v∧u<v)
theorem Lx.trans{cs:List Int}{u v x:Int}(h1:Lx cs u v)(h2:Lx cs v x):Lx cs u x:=by
 unfold Lx at *;omega
theorem Lx.irrefl{cs:List Int}{u:Int}(h:Lx cs u u):False:=by
 unfold Lx at h;omega
theorem Lx.asymm{cs:List Int}{u v:Int}(h1:Lx cs u v)(h2:Lx cs v u):False:=(h1.trans h2).irrefl
def Qf0(X:List Int)(i j:Nat):List Int:=(X.set i (X.getD j 0)).set j (X.getD i 0)
theorem Qp6(X:List Int)(i j:Nat):(Qf0 X i j).length=X.length:=by simp[Qf0]
theorem Qb7(l:List Int)(i j:Nat)(v:Int)(h:i<l.length):(l.set i v).getD j 0=if j=i then v else l.getD j 0:=by
 simp only[List.getD,List.getElem?_set]
 by_cases e:i=j
 ·subst e;simp[h]
 ·rw[if_neg e,if_neg (fun x=>e x.symm)]
theorem Qg6(X:List Int)(i j k:Nat)(hi:i<X.length)(hj:j<X.length):(Qf0 X i j).getD k 0=if k=j then X.getD i 0 else if k=i then X.getD j 0 else X.getD k 0:=by
 unfold Qf0
 rw[Qb7 _ _ _ _ (by simpa using hj),Qb7 _ _ _ _ hi]
theorem Qhk(X:List Int)(i j:Nat)(hi:i<X.length)(hj:j<X.length):(Qf0 X i j).Perm X:=by
 rw[List.perm_iff_count]
 intro v
 have ei:X.getD i 0=X[i]:=by simp[List.getD,List.getElem?_eq_getElem hi]
 have ej:X.getD j 0=X[j]:=by simp[List.getD,List.getElem?_eq_getElem hj]
 unfold Qf0
 rw[ei,ej]
 have hj':j<(X.set i X[j]).length:=by simpa using hj
 rw[List.count_set hj',List.count_set hi,List.getElem_set]
 have c1:X[i]==v->0<X.count v:=fun h=>by
  rw[List.count_pos_iff]
  have:X[i]=v:=by simpa using h
  rw[<-this];exact List.getElem_mem hi
 by_cases e:i=j
 ·subst e
  simp only[if_true]
  by_cases h:X[i]==v
  ·have:=c1 h;simp only[h,if_true];omega
  ·simp only[h];simp
 ·simp only[e,if_false]
  by_cases h1:X[i]==v<;>by_cases h2:X[j]==v
  ·have:=c1 h1;simp only[h1,h2,if_true];omega
  ·have:=c1 h1;simp only[h1,h2,if_true];simp;omega
  ·simp only[h1,h2,if_true];simp
  ·simp only[h1,h2];simp
structure Sorted (cs:List Int) (a b:Nat) (o X:List Int):Prop where
 perm:X.Perm o
 out:∀p,p<a∨b<=p->X.getD p 0=o.getD p 0
 ord:∀p q,a<=p->p<q->q<b->Lx cs (X.getD p 0) (X.getD q 0)
structure Xdq (cs:List Int) (a b i:Nat) (o X:List Int):Prop where
 perm:X.Perm o
 out:∀p,p<a∨i<=p->X.getD p 0=o.getD p 0
 ord:∀p q,a<=p->p<q->q<i->Lx cs (X.getD p 0) (X.getD q 0)
 less:∀p q,a<=p->p<i->i<=q->q<b->X.getD p 0<o.getD q 0
structure Xdl (cs:List Int) (a b i j:Nat) (o X:List Int):Prop where
 perm:X.Perm o
 out:∀p,p<a∨i<p->X.getD p 0=o.getD p 0
 at':X.getD j 0=o.getD i 0
 ord:∀p q,a<=p->p<q->q<=i->p≠j->q≠j->Lx cs (X.getD p 0) (X.getD q 0)
 right:∀q,j<q->q<=i->key cs (X.getD j 0)<key cs (X.getD q 0)
 lessx:∀p,a<=p->p<=i->p≠j->X.getD p 0<o.getD i 0
 less:∀p q,a<=p->p<=i->i<q->q<b->X.getD p 0<o.getD q 0
theorem Xdq.start(cs:List Int)(a b:Nat)(o:List Int)(hinc:∀p q,a<=p->p<q->q<b->o.getD p 0<o.getD q 0):Xdq cs a b (a+1) o o:=
 ⟨List.Perm.refl _,fun _ _=>rfl,fun p q h1 h2 h3=>by omega,fun p q h1 h2 h3 h4=>by
  have:p=a:=by omega
  subst this
  exact hinc p q (Nat.le_refl _) (by omega) h4⟩
theorem Xdq.begin{cs:List Int}{a b i:Nat}{o X:List Int}(h:Xdq cs a b i o X)(hai:a<=i)(hib:i<b)(hinc:∀p q,a<=p->p<q->q<b->o.getD p 0<o.getD q 0):Xdl cs a b i i o X:=by
 refine⟨h.perm,fun p hp=>h.out p (by omega),h.out i (by omega),fun p q h1 h2 h3 h4 h5=>h.ord p q h1 h2 (by omega),fun q h1 h2=>by omega,fun p h1 h2 h3=>h.less p i h1 (by omega) (Nat.le_refl _) hib,fun p q h1 h2 h3 h4=>?_⟩
 by_cases e:p=i
 ·subst e;rw[h.out p (by omega)];exact hinc p q hai h3 h4
 ·exact h.less p q h1 (by omega) (by omega) h4
theorem Xdl.swap{cs:List Int}{a b i j:Nat}{o X:List Int}(h:Xdl cs a b i (j+1) o X)(haj:a<=j)(hji:j+1<=i)(hlen:i<X.length)(hk:key cs (X.getD (j+1) 0)<key cs (X.getD j 0)):Xdl cs a b i j o (Qf0 X (j+1) j):=by
 have hg:=fun k=>Qg6 X (j+1) j k (by omega) (by omega)
 refine⟨(Qhk X _ _ (by omega) (by omega)).trans h.perm,fun p hp=>?_,?_,fun p q h1 h2 h3 h4 h5=>?_,fun q h1 h2=>?_,fun p h1 h2 h3=>?_,fun p q h1 h2 h3 h4=>?_⟩
 ·rw[hg,if_neg (by omega),if_neg (by omega)];exact h.out p hp
 ·rw[hg,if_pos rfl];exact h.at'
 ·rw[hg,hg,if_neg h4,if_neg h5]
  by_cases e1:p=j+1
  ·rw[if_pos e1,if_neg (by omega)];exact h.ord j q haj (by omega) h3 (by omega) (by omega)
  ·rw[if_neg e1]
   by_cases e2:q=j+1
   ·rw[if_pos e2];exact h.ord p j h1 (by omega) (by omega) e1 (by omega)
   ·rw[if_neg e2];exact h.ord p q h1 h2 h3 e1 e2
 ·rw[hg,hg,if_pos rfl,if_neg (by omega)]
  by_cases e:q=j+1
  ·rw[if_pos e];exact hk
  ·rw[if_neg e];exact h.right q (by omega) h2
 ·rw[hg,if_neg h3]
  by_cases e:p=j+1
  ·rw[if_pos e];exact h.lessx j haj (by omega) (by omega)
  ·rw[if_neg e];exact h.lessx p h1 h2 e
 ·rw[hg]
  by_cases e1:p=j
  ·rw[if_pos e1];exact h.less (j+1) q (by omega) hji h3 h4
  ·rw[if_neg e1]
   by_cases e2:p=j+1
   ·rw[if_pos e2];exact h.less j q haj (by omega) h3 h4
   ·rw[if_neg e2];exact h.less p q h1 h2 h3 h4
theorem Xdl.done{cs:List Int}{a b i j:Nat}{o X:List Int}(h:Xdl cs a b i j o X)(haj:a<=j)(hji:j<=i)(hs:j=a∨¬key cs (X.getD j 0)<key cs (X.getD (j-1) 0)):Xdq cs a b (i+1) o X:=by
 refine⟨h.perm,fun p hp=>h.out p (by omega),fun p q h1 h2 h3=>?_,fun p q h1 h2 h3 h4=>h.less p q h1 (by omega) (by omega) h4⟩
 by_cases e1:p=j
 ·subst e1;exact Or.inl (h.right q h2 (by omega))
 ·by_cases e2:q=j
  ·subst e2
   have hx:=h.lessx p h1 (by omega) e1
   rw[<-h.at'] at hx
   rcases hs with hs | hs
   ·omega
   ·have hle:key cs (X.getD p 0)<=key cs (X.getD (q-1) 0):=by
     by_cases e3:p=q-1
     ·rw[e3];omega
     ·have:=h.ord p (q-1) h1 (by omega) (by omega) e1 (by omega)
      unfold Lx at this;omega
    unfold Lx;omega
  ·exact h.ord p q h1 h2 (by omega) e1 e2
theorem Xdq.sorted{cs:List Int}{a b:Nat}{o X:List Int}(h:Xdq cs a b b o X):Sorted cs a b o X:=⟨h.perm,h.out,h.ord⟩
theorem Qp2{cs:List Int}:∀ {l m:List Int},l.Perm m->l.Pairwise (Lx cs)->m.Pairwise (Lx cs)->l=m
 | [],m,hp,_,_=>by
   have:=hp.length_eq
   cases m with
   | nil=>rfl
   | cons _ _=>simp at this
 | x::l,[],hp,_,_=>by have:=hp.length_eq;simp at this
 | x::l,y::m,hp,h1,h2=>by
   rw[List.pairwise_cons] at h1 h2
   have e:x=y:=by
    have hx:x∈y::m:=hp.subset (by simp)
    have hy:y∈x::l:=hp.symm.subset (by simp)
    rw[List.mem_cons] at hx hy
    rcases hx with hx | hx
    ·exact hx
    ·rcases hy with hy | hy
     ·exact hy.symm
     ·exact((h1.1 y hy).asymm (h2.1 x hx)).elim
   subst e
   rw[Qp2 (List.Perm.cons_inv hp) h1.2 h2.2]
theorem Qti{cs:List Int}(X:List Int)(h:∀p q,p<q->q<X.length->Lx cs (X.getD p 0) (X.getD q 0)):X.Pairwise (Lx cs):=by
 rw[List.pairwise_iff_getElem]
 intro i j hi hj hij
 have:=h i j hij hj
 simpa [List.getD,List.getElem?_eq_getElem hi,List.getElem?_eq_getElem hj] using this
def nz(cs:List Int):Nat->List Int
 | 0=> []
 | k+1=>if 0<cs.getD k 0 then nz cs k++ [(k:Int)] else nz cs k
theorem Qj2(cs:List Int)(k:Nat):∀u∈nz cs k,0<=u∧u<(k:Int)∧0<cs.getD u.toNat 0:=by
 induction k with
 | zero=>intro u hu;simp[nz] at hu
 | succ k ih=>
   intro u hu
   rw[nz] at hu
   split at hu
   ·rw[List.mem_append,List.mem_singleton] at hu
    rcases hu with hu | hu
    ·have:=ih u hu;omega
    ·subst hu;rw[Int.toNat_natCast];omega
   ·have:=ih u hu;omega
theorem Qlu(cs:List Int)(k:Nat):(nz cs k).length<=k:=by
 induction k with
 | zero=>simp[nz]
 | succ k ih=>
   rw[nz];split
   ·rw[List.length_append];simp;omega
   ·omega
theorem Qv7(cs:List Int)(k:Nat):(nz cs k).Pairwise (· < ·):=by
 induction k with
 | zero=>exact List.Pairwise.nil
 | succ k ih=>
   rw[nz];split
   ·rw[List.pairwise_append]
    refine⟨ih,List.pairwise_singleton _ _,fun u hu v hv=>?_⟩
    rw[List.mem_singleton] at hv
    have:=Qj2 cs k u hu
    omega
   ·exact ih
theorem Qoq{l:List Int}(h:l.Pairwise (· < ·)):∀p q,p<q->q<l.length->l.getD p 0<l.getD q 0:=by
 intro p q hpq hq
 rw[List.pairwise_iff_getElem] at h
 have:=h p q (by omega) hq hpq
 simpa [List.getD,List.getElem?_eq_getElem hq,List.getElem?_eq_getElem (show p<l.length from by omega)] using this
instance (cs:List Int) (u v:Int):Decidable (Lx cs u v):=by unfold Lx;infer_instance
def Xkb(cs:List Int)(u:Int):List Int->List Int
 | []=> [u]
 | v::l=>if Lx cs u v then u::v::l else v::Xkb cs u l
def Xkf(cs:List Int):List Int->List Int
 | []=> []
 | u::l=>Xkb cs u (Xkf cs l)
def srt(cs:List Int):List Int:=Xkf cs (nz cs cs.length)
theorem Qq1(cs:List Int)(u:Int)(l:List Int):(Xkb cs u l).Perm (u::l):=by
 induction l with
 | nil=>exact List.Perm.refl _
 | cons v l ih=>
   rw[Xkb];split
   ·exact List.Perm.refl _
   ·exact(List.Perm.cons v ih).trans (List.Perm.swap u v l)
theorem Xgl(cs:List Int)(u:Int)(l:List Int)(h:l.Pairwise (Lx cs))(hne:∀v∈l,u≠v):(Xkb cs u l).Pairwise (Lx cs):=by
 induction l with
 | nil=>exact List.pairwise_singleton _ _
 | cons v l ih=>
   rw[List.pairwise_cons] at h
   rw[Xkb];split
   ·rename_i hl
    refine List.pairwise_cons.2 ⟨fun x hx=>?_,List.pairwise_cons.2 h⟩
    rw[List.mem_cons] at hx
    rcases hx with hx | hx
    ·subst hx;exact hl
    ·exact hl.trans (h.1 x hx)
   ·rename_i hl
    have hvu:Lx cs v u:=by
     have:=hne v (by simp)
     unfold Lx at hl|-;omega
    refine List.pairwise_cons.2 ⟨fun x hx=>?_,ih h.2 (fun w hw=>hne w (by simp[hw]))⟩
    have hx':=(Qq1 cs u l).subset hx
    rw[List.mem_cons] at hx'
    rcases hx' with hx' | hx'
    ·subst hx';exact hvu
    ·exact h.1 x hx'
theorem Qr2(cs:List Int)(l:List Int):(Xkf cs l).Perm l:=by
 induction l with
 | nil=>exact List.Perm.refl _
 | cons u l ih=>rw[Xkf];exact(Qq1 cs u _).trans (List.Perm.cons u ih)
theorem Xeo(cs:List Int)(l:List Int)(h:l.Pairwise (· < ·)):(Xkf cs l).Pairwise (Lx cs):=by
 induction l with
 | nil=>exact List.Pairwise.nil
 | cons u l ih=>
   rw[List.pairwise_cons] at h
   rw[Xkf]
   refine Xgl cs u _ (ih h.2) (fun v hv=>?_)
   have:=h.1 v ((Qr2 cs l).subset hv)
   omega
theorem Qg8(cs:List Int):(srt cs).Perm (nz cs cs.length):=Qr2 cs _
theorem Qo0(cs:List Int):(srt cs).Pairwise (Lx cs):=Xeo cs _ (Qv7 cs _)
theorem Xll{cs X:List Int}(h:Sorted cs 0 (nz cs cs.length).length (nz cs cs.length) X):X=srt cs:=
 Qp2 (h.perm.trans (Qg8 cs).symm) (Qti X (fun p q h1 h2=>h.ord p q (by omega) h1 (by rw[<-h.perm.length_eq];exact h2))) (Qo0 cs)
theorem Qhq(cs:List Int):∀u∈srt cs,0<=u∧u<(cs.length:Int)∧0<cs.getD u.toNat 0:=fun u hu=>Qj2 cs _ u ((Qg8 cs).subset hu)
theorem Qca(cs:List Int):(srt cs).length=(nz cs cs.length).length:=(Qg8 cs).length_eq
end Hf
end
/-
 Plain facts on the tree of counts as the code makes it: nodes with weights and the nodes that they stand in.
-/
section
namespace Hf
abbrev Nodes:=List (Int×Int)
def wt(N:Nodes)(i:Nat):Int:=(N.getD i (0,0)).1
def inn(N:Nodes)(i:Nat):Int:=(N.getD i (0,0)).2
def Qb3(n:Nat)(N:Nodes)(l p:Nat):Bool:=p==N.length||(decide (l<n)&&decide (wt N l<=wt N p))
def takeA(n:Nat)(N:Nodes)(l p:Nat):Nat:=if Qb3 n N l p then l else p
def Qay(n:Nat)(N:Nodes)(l p:Nat):Nat:=if Qb3 n N l p then l+1 else l
def Qav(n:Nat)(N:Nodes)(l p:Nat):Nat:=if Qb3 n N l p then p else p+1
structure TS where
 N:Nodes
 l:Nat
 p:Nat
def Qcd(N:Nodes)(i:Nat)(v:Int):Nodes:=N.set i (wt N i,v)
def Qe6(n:Nat)(s:TS):Nat:=takeA n s.N s.l s.p
def Qfc(n:Nat)(s:TS):Nat:=takeA n s.N (Qay n s.N s.l s.p) (Qav n s.N s.l s.p)
def Qb6(n:Nat)(s:TS):TS:=
 ⟨Qcd (Qcd s.N (Qe6 n s) (s.N.length:Int)) (Qfc n s) (s.N.length:Int)++ [(wt s.N (Qe6 n s)+wt s.N (Qfc n s),0)],
  Qay n s.N (Qay n s.N s.l s.p) (Qav n s.N s.l s.p),Qav n s.N (Qay n s.N s.l s.p) (Qav n s.N s.l s.p)⟩
def Qbf(ws:List Int):TS:=⟨ws.map (fun x=>(x,0)),0,ws.length⟩
def Qad(ws:List Int):Nat->TS
 | 0=>Qbf ws
 | t+1=>Qb6 ws.length (Qad ws t)
theorem Qbj(N:Nodes)(i:Nat)(v:Int):(Qcd N i v).length=N.length:=by simp[Qcd]
theorem Qe0(N:Nodes)(i:Nat)(v:Int)(j:Nat):wt (Qcd N i v) j=wt N j:=by
 unfold wt Qcd wt
 simp only[List.getD,List.getElem?_set]
 by_cases e:i=j
 ·subst e
  by_cases h:i<N.length
  ·simp[h]
  ·simp[h]
 ·rw[if_neg e]
theorem Qig(N:Nodes)(i:Nat)(v:Int)(j:Nat)(h:i<N.length):inn (Qcd N i v) j=if j=i then v else inn N j:=by
 unfold inn Qcd
 simp only[List.getD,List.getElem?_set]
 by_cases e:i=j
 ·subst e;simp[h]
 ·rw[if_neg e,if_neg (fun x=>e x.symm)]
theorem Qzy(N:Nodes)(x:Int×Int)(j:Nat)(h:j<N.length):wt (N++ [x]) j=wt N j:=by
 unfold wt;simp[List.getD,List.getElem?_append_left h]
theorem Xca(N:Nodes)(x:Int×Int)(j:Nat)(h:j<N.length):inn (N++ [x]) j=inn N j:=by
 unfold inn;simp[List.getD,List.getElem?_append_left h]
theorem Qzo(N:Nodes)(x:Int×Int):wt (N++ [x]) N.length=x.1:=by
 unfold wt;simp[List.getD]
theorem Xld(N:Nodes)(j:Nat)(h:N.length<=j):wt N j=0:=by
 unfold wt;simp[List.getD,List.getElem?_eq_none h]
def Qir(N:Nodes):Nat->Nat->Int
 | _,0=>0
 | i,k+1=>wt N i+Qir N (i+1) k
theorem Qjp{N M:Nodes}:∀(k i:Nat),(∀j,i<=j->j<i+k->wt N j=wt M j)->Qir N i k=Qir M i k
 | 0,_,_=>rfl
 | k+1,i,h=>by
   rw[Qir,Qir,h i (Nat.le_refl _) (by omega),Qjp k (i+1) (fun j h1 h2=>h j (by omega) (by omega))]
theorem Qqb(N:Nodes):∀(k i:Nat),Qir N i (k+1)=Qir N i k+wt N (i+k)
 | 0,i=>by simp[Qir]
 | k+1,i=>by
   rw[Qir,Qqb N k (i+1),Qir]
   rw[show i+1+k=i+(k+1) from by omega]
   omega
theorem Qhz(N:Nodes)(h:∀i,0<=wt N i):∀(k i:Nat),0<=Qir N i k
 | 0,_=>by simp[Qir]
 | k+1,i=>by
   rw[Qir]
   have:=h i
   have:=Qhz N h k (i+1)
   omega
def Qfl(n:Nat)(N:Nodes)(l p:Nat):Int:=Qir N l (n-l)+Qir N p (N.length-p)
structure TI (n:Nat) (C:Int) (t:Nat) (s:TS):Prop where
 len:s.N.length=n+t
 ln:s.l<=n
 np:n<=s.p
 pl:s.p<=n+t
 cnt:s.l+s.p=2*t+n
 pos:∀i,0<=wt s.N i
 sum:Qfl n s.N s.l s.p=C
 par:∀i,(i<s.l∨(n<=i∧i<s.p))->(i:Int)<inn s.N i∧inn s.N i<((n+t:Nat):Int)
 last:0<t->s.p<n+t
theorem take_one{n:Nat}{N:Nodes}{l p:Nat}(ln:l<=n)(np:n<=p)(pl:p<=N.length)(hfree:0<(n-l)+(N.length-p)):
 takeA n N l p<N.length∧Qay n N l p<=n∧n<=Qav n N l p∧Qav n N l p<=N.length∧Qay n N l p+Qav n N l p=l+p+1 ∧
 Qfl n N l p=wt N (takeA n N l p)+Qfl n N (Qay n N l p) (Qav n N l p) ∧
 ((takeA n N l p=l∧l<n∧Qay n N l p=l+1∧Qav n N l p=p)∨(takeA n N l p=p∧p<N.length∧Qay n N l p=l∧Qav n N l p=p+1)):=by
 unfold takeA Qay Qav
 cases hu:Qb3 n N l p with
 | true=>
   have hl:l<n:=by
    unfold Qb3 at hu
    rw[Bool.or_eq_true,beq_iff_eq,Bool.and_eq_true,decide_eq_true_eq] at hu
    omega
   simp only[if_true]
   refine⟨by omega,by omega,np,pl,by omega,?_,Or.inl (by simp[hl])⟩
   unfold Qfl
   rw[show n-l=(n-(l+1))+1 from by omega,Qir]
   omega
 | false=>
   have hp:p<N.length:=by
    unfold Qb3 at hu
    rw[Bool.or_eq_false_iff] at hu
    have h1:p≠N.length:=by simpa using hu.1
    omega
   simp only[Bool.false_eq_true,if_false]
   refine⟨hp,ln,by omega,by omega,by omega,?_,Or.inr (by simp[hp])⟩
   unfold Qfl
   rw[show N.length-p=(N.length-(p+1))+1 from by omega,Qir]
   omega
theorem TI.step{n:Nat}{C:Int}{t:Nat}{s:TS}(h:TI n C t s)(ht:t+2<=n):
 TI n C (t+1) (Qb6 n s)∧Qe6 n s<s.N.length∧Qfc n s<s.N.length∧Qe6 n s≠Qfc n s∧wt s.N (Qe6 n s)+wt s.N (Qfc n s)<=C:=by
 have hlen:=h.len
 have hln:=h.ln
 have hnp:=h.np
 have hpl:=h.pl
 have hcnt:=h.cnt
 obtain⟨a1,a2,a3,a4,a5,a6,a7⟩:=take_one (n:=n) (N:=s.N) (l:=s.l) (p:=s.p) h.ln h.np (by omega) (by omega)
 obtain⟨b1,b2,b3,b4,b5,b6,b7⟩:=take_one (n:=n) (N:=s.N) (l:=Qay n s.N s.l s.p) (p:=Qav n s.N s.l s.p) a2 a3 a4 (by omega)
 have hA:Qe6 n s=takeA n s.N s.l s.p:=rfl
 have hB:Qfc n s=takeA n s.N (Qay n s.N s.l s.p) (Qav n s.N s.l s.p):=rfl
 have hne:Qe6 n s≠Qfc n s:=by rw[hA,hB];omega
 rw[<-hA] at a1 a6 a7
 rw[<-hB] at b1 b6 b7
 have hl2:(Qb6 n s).l=Qay n s.N (Qay n s.N s.l s.p) (Qav n s.N s.l s.p):=rfl
 have hp2:(Qb6 n s).p=Qav n s.N (Qay n s.N s.l s.p) (Qav n s.N s.l s.p):=rfl
 have hN2:(Qb6 n s).N=Qcd (Qcd s.N (Qe6 n s) (s.N.length:Int)) (Qfc n s) (s.N.length:Int)++ [(wt s.N (Qe6 n s)+wt s.N (Qfc n s),0)]:=rfl
 generalize Qe6 n s=A at *
 generalize Qfc n s=B at *
 generalize Qay n s.N (Qay n s.N s.l s.p) (Qav n s.N s.l s.p)=l2 at *
 generalize Qav n s.N (Qay n s.N s.l s.p) (Qav n s.N s.l s.p)=p2 at *
 generalize Qay n s.N s.l s.p=l1 at *
 generalize Qav n s.N s.l s.p=p1 at *
 have hM:(Qcd (Qcd s.N A (s.N.length:Int)) B (s.N.length:Int)).length=s.N.length:=by rw[Qbj,Qbj]
 have hwt:∀j,j<s.N.length->wt (Qb6 n s).N j=wt s.N j:=fun j hj=>by
  rw[hN2,Qzy _ _ _ (by rw[hM];exact hj),Qe0,Qe0]
 have hwl:wt (Qb6 n s).N s.N.length=wt s.N A+wt s.N B:=by
  rw[hN2]
  have:=Qzo (Qcd (Qcd s.N A (s.N.length:Int)) B (s.N.length:Int)) (wt s.N A+wt s.N B,0)
  rw[hM] at this
  exact this
 have hfree2:0<=Qfl n s.N l2 p2:=by
  unfold Qfl
  have:=Qhz s.N h.pos (n-l2) l2
  have:=Qhz s.N h.pos (s.N.length-p2) p2
  omega
 have hC:Qfl n s.N s.l s.p=C:=h.sum
 have hle:wt s.N A+wt s.N B<=C:=by omega
 have hlen2:(Qb6 n s).N.length=n+(t+1):=by rw[hN2,List.length_append,hM,hlen];simp;omega
 refine⟨⟨hlen2,by rw[hl2];omega,by rw[hp2];omega,by rw[hp2];omega,by rw[hl2,hp2];omega,fun i=>?_,?_,fun i hi=>?_,fun _=>by rw[hp2];omega⟩,a1,b1,hne,hle⟩
 ·by_cases hi:i<s.N.length
  ·rw[hwt i hi];exact h.pos i
  ·by_cases hi2:i=s.N.length
   ·subst hi2
    rw[hwl]
    have:=h.pos A
    have:=h.pos B
    omega
   ·rw[Xld _ _ (by rw[hlen2];omega)];omega
 ·rw[hl2,hp2]
  unfold Qfl
  rw[hlen2,show n+(t+1)-p2=(s.N.length-p2)+1 from by omega,Qqb,show p2+(s.N.length-p2)=s.N.length from by omega,hwl]
  rw[Qjp (N:=(Qb6 n s).N) (M:=s.N) (n-l2) l2 (fun j h1 h2=>hwt j (by omega)),Qjp (N:=(Qb6 n s).N) (M:=s.N) (s.N.length-p2) p2 (fun j h1 h2=>hwt j (by omega))]
  unfold Qfl at hC a6 b6
  omega
 ·rw[hl2,hp2] at hi
  have hil:i<s.N.length:=by omega
  rw[hN2,Xca _ _ _ (by rw[hM];exact hil),Qig _ _ _ _ (by rw[Qbj];exact b1),Qig _ _ _ _ a1]
  by_cases e1:i=B
  ·rw[if_pos e1];omega
  ·rw[if_neg e1]
   by_cases e2:i=A
   ·rw[if_pos e2];omega
   ·rw[if_neg e2]
    have:=h.par i (by omega)
    omega
theorem TI.start(ws:List Int)(h:∀i,0<=ws.getD i 0):TI ws.length (Qfl ws.length (Qbf ws).N 0 ws.length) 0 (Qbf ws):=by
 refine⟨by simp[Qbf],by simp[Qbf],by simp[Qbf],by simp[Qbf],by simp[Qbf],fun i=>?_,rfl,fun i hi=>?_,fun h=>by omega⟩
 ·have:=h i
  unfold wt Qbf
  simp only[List.getD,List.getElem?_map] at this|-
  generalize ws[i]?=o at this
  cases o with
  | none=>simp
  | some x=>simpa using this
 ·simp[Qbf] at hi;omega
theorem TI.run(ws:List Int)(h:∀i,0<=ws.getD i 0)(t:Nat)(ht:t+1<=ws.length):TI ws.length (Qfl ws.length (Qbf ws).N 0 ws.length) t (Qad ws t):=by
 induction t with
 | zero=>exact TI.start ws h
 | succ t ih=>exact((ih (by omega)).step (by omega)).1
def Qc1(N:Nodes):List Int:=N.flatMap (fun x=> [x.1,x.2])
theorem Qdz(N:Nodes):(Qc1 N).length=N.length*2:=by
 unfold Qc1
 induction N with
 | nil=>rfl
 | cons x N ih=>rw[List.flatMap_cons,List.length_append,ih];simp;omega
theorem Qdl(x:Int×Int)(N:Nodes):Qc1 (x::N)=x.1::x.2::Qc1 N:=rfl
theorem Qpc(N:Nodes)(i:Nat):(Qc1 N).getD (2*i) 0=wt N i:=by
 unfold wt
 induction N generalizing i with
 | nil=>simp[Qc1]
 | cons x N ih=>
   rw[Qdl]
   cases i with
   | zero=>simp
   | succ i=>
     have:=ih i
     rw[show 2*(i+1)=2*i+1+1 from by omega]
     simpa using this
theorem Qmi(N:Nodes)(i:Nat):(Qc1 N).getD (2*i+1) 0=inn N i:=by
 unfold inn
 induction N generalizing i with
 | nil=>simp[Qc1]
 | cons x N ih=>
   rw[Qdl]
   cases i with
   | zero=>simp
   | succ i=>
     have:=ih i
     rw[show 2*(i+1)+1=2*i+1+1+1 from by omega]
     simpa using this
theorem Xci(N:Nodes)(i:Nat)(v:Int)(h:i<N.length):(Qc1 N).set (2*i+1) v=Qc1 (Qcd N i v):=by
 unfold Qcd wt
 induction N generalizing i with
 | nil=>simp at h
 | cons x N ih=>
   cases i with
   | zero=>simp[Qdl]
   | succ i=>
     have:=ih i (by simpa using h)
     rw[show 2*(i+1)+1=2*i+1+1+1 from by omega]
     simp only[Qdl,List.set_cons_succ,List.getD_cons_succ]
     rw[this]
theorem Qrm(N:Nodes)(x y:Int):Qc1 (N++ [(x,y)])=Qc1 N++ [x,y]:=by
 unfold Qc1;simp
end Hf
end
/-
 Plain facts: what the merging of two sorted stretches that stand side by side owes, step by step.
-/
section
namespace Hf
structure Same (a b:Nat) (o X:List Int):Prop where
 perm:X.Perm o
 out:∀p,p<a∨b<=p->X.getD p 0=o.getD p 0
theorem Sorted.same{cs:List Int}{a b:Nat}{o X:List Int}(h:Sorted cs a b o X):Same a b o X:=⟨h.perm,h.out⟩
theorem Qvl{l m:List Int}(hl:l.length=m.length)(h:∀p,p<l.length->l.getD p 0=m.getD p 0):l=m:=by
 refine List.ext_getElem hl (fun i h1 h2=>?_)
 have:=h i h1
 simpa [List.getD,List.getElem?_eq_getElem h1,List.getElem?_eq_getElem h2] using this
theorem getD_take'(l:List Int)(n p:Nat)(h:p<n):(l.take n).getD p 0=l.getD p 0:=by
 simp only[List.getD,List.getElem?_take,if_pos h]
theorem Qg9(l:List Int)(n p:Nat):(l.drop n).getD p 0=l.getD (n+p) 0:=by
 simp only[List.getD,List.getElem?_drop]
theorem Qej{l:List Int}{u:Int}(h:u∈l):∃p,p<l.length∧l.getD p 0=u:=by
 obtain⟨p,hp,e⟩:=List.getElem_of_mem h
 exact⟨p,hp,by simp[List.getD,List.getElem?_eq_getElem hp,e]⟩
theorem getD_in{l:List Int}(p:Nat)(h:p<l.length):l.getD p 0∈l:=by
 have e:l.getD p 0=l[p]:=by simp[List.getD,List.getElem?_eq_getElem h]
 rw[e];exact List.getElem_mem h
theorem Xl9(l:List Int)(a k:Nat):l=l.take a++((l.drop a).take k++l.drop (a+k)):=by
 have h1:(l.drop a).take k++l.drop (a+k)=l.drop a:=by
  rw[<-List.drop_drop];exact List.take_append_drop k (l.drop a)
 rw[h1,List.take_append_drop]
theorem Same.mem{a b:Nat}{o X:List Int}(h:Same a b o X)(hb:b<=o.length)(p:Nat)(h1:a<=p)(h2:p<b):∃q,a<=q∧q<b∧X.getD p 0=o.getD q 0:=by
 obtain⟨k,rfl⟩:∃k,b=a+k:=⟨b-a,by omega⟩
 have hl:=h.perm.length_eq
 have e1:X.take a=o.take a:=Qvl (by simp[hl]) (fun q hq=>by
  rw[List.length_take] at hq
  rw[getD_take' _ _ _ (by omega),getD_take' _ _ _ (by omega)]
  exact h.out q (by omega))
 have e2:X.drop (a+k)=o.drop (a+k):=Qvl (by simp[hl]) (fun q _=>by
  rw[Qg9,Qg9]
  exact h.out _ (by omega))
 have hp:=h.perm
 rw[Xl9 X a k,Xl9 o a k,e1,e2] at hp
 have hp2:=(List.perm_append_right_iff _).1 ((List.perm_append_left_iff _).1 hp)
 have hm:X.getD p 0∈(X.drop a).take k:=by
  have e3:((X.drop a).take k).getD (p-a) 0=X.getD p 0:=by
   rw[getD_take' _ _ _ (by omega),Qg9];congr 1;omega
  rw[<-e3]
  exact getD_in _ (by rw[List.length_take,List.length_drop];omega)
 obtain⟨q,hq,e⟩:=Qej (hp2.subset hm)
 rw[List.length_take,List.length_drop] at hq
 refine⟨a+q,by omega,by omega,?_⟩
 rw[<-e,getD_take' _ _ _ (by omega),Qg9]
structure Mrg (cs:List Int) (a m b:Nat) (o:List Int):Prop where
 lo:∀p q,a<=p->p<q->q<m->Lx cs (o.getD p 0) (o.getD q 0)
 hi:∀p q,m<=p->p<q->q<b->Lx cs (o.getD p 0) (o.getD q 0)
 less:∀p q,a<=p->p<m->m<=q->q<b->o.getD p 0<o.getD q 0
theorem Mrg.left{cs:List Int}{a m b:Nat}{o:List Int}(h:Mrg cs a m b o){p q:Nat}(h1:a<=p)(h2:p<m)(h3:m<=q)(h4:q<b)(hk:key cs (o.getD p 0)<=key cs (o.getD q 0)):Lx cs (o.getD p 0) (o.getD q 0):=by
 have:=h.less p q h1 h2 h3 h4
 unfold Lx;omega
theorem Mrg.lo'{cs:List Int}{a m b:Nat}{o:List Int}(h:Mrg cs a m b o){x:Int}{p q:Nat}(h1:a<=p)(h2:p<=q)(h3:q<m)(hx:Lx cs (o.getD q 0) x):Lx cs (o.getD p 0) x:=by
 by_cases e:p=q
 ·rw[e];exact hx
 ·exact(h.lo p q h1 (by omega) h3).trans hx
theorem Mrg.lo''{cs:List Int}{a m b:Nat}{o:List Int}(h:Mrg cs a m b o){x:Int}{p q:Nat}(h1:a<=p)(h2:p<=q)(h3:q<m)(hx:Lx cs x (o.getD p 0)):Lx cs x (o.getD q 0):=by
 by_cases e:p=q
 ·rw[<-e];exact hx
 ·exact hx.trans (h.lo p q h1 (by omega) h3)
theorem Mrg.hi'{cs:List Int}{a m b:Nat}{o:List Int}(h:Mrg cs a m b o){x:Int}{p q:Nat}(h1:m<=p)(h2:p<=q)(h3:q<b)(hx:Lx cs (o.getD q 0) x):Lx cs (o.getD p 0) x:=by
 by_cases e:p=q
 ·rw[e];exact hx
 ·exact(h.hi p q h1 (by omega) h3).trans hx
theorem Mrg.hi''{cs:List Int}{a m b:Nat}{o:List Int}(h:Mrg cs a m b o){x:Int}{p q:Nat}(h1:m<=p)(h2:p<=q)(h3:q<b)(hx:Lx cs x (o.getD p 0)):Lx cs x (o.getD q 0):=by
 by_cases e:p=q
 ·rw[<-e];exact hx
 ·exact hx.trans (h.hi p q h1 (by omega) h3)
structure Up (a k:Nat) (o X:List Int):Prop where
 perm:X.Perm o
 at':∀p,X.getD p 0=if a<=p∧p<k then o.getD (p+1) 0 else if p=k then o.getD a 0 else o.getD p 0
theorem Up.start(a:Nat)(o:List Int):Up a a o o:=⟨List.Perm.refl _,fun p=>by
 rw[if_neg (by omega)]
 by_cases e:p=a
 ·rw[if_pos e,e]
 ·rw[if_neg e]⟩
theorem Up.step{a k:Nat}{o X:List Int}(h:Up a k o X)(ha:a<=k)(hl:k+1<X.length):Up a (k+1) o (Qf0 X k (k+1)):=by
 refine⟨(Qhk X _ _ (by omega) hl).trans h.perm,fun p=>?_⟩
 rw[Qg6 X _ _ _ (by omega) hl,h.at',h.at',h.at']
 by_cases e1:p=k+1
 ·subst e1
  rw[if_pos rfl,if_neg (by omega),if_pos rfl,if_neg (by omega),if_pos rfl]
 ·rw[if_neg e1,if_neg e1]
  by_cases e2:p=k
  ·subst e2
   rw[if_pos rfl,if_neg (by omega),if_neg (by omega),if_pos (by omega)]
  ·rw[if_neg e2,if_neg e2]
   by_cases e3:a<=p∧p<k
   ·rw[if_pos e3,if_pos (by omega)]
   ·rw[if_neg e3,if_neg (by omega)]
theorem Up.sorted{cs:List Int}{a b i:Nat}{o X:List Int}(hm:Mrg cs a (a+1) b o)(hi:a+1<=i)(hib:i<=b)(h1:i=a+1∨key cs (o.getD (i-1) 0)<key cs (o.getD a 0))(h2:i=b∨key cs (o.getD a 0)<=key cs (o.getD i 0))(h:Up a (i-1) o X):Sorted cs a b o X:=by
 have hl1:∀q,a+1<=q->q<i->Lx cs (o.getD q 0) (o.getD a 0):=fun q e1 e2=>by
  rcases h1 with h1 | h1
  ·omega
  ·exact hm.hi' e1 (show q<=i-1 by omega) (by omega) (Or.inl h1)
 have hl2:∀q,i<=q->q<b->Lx cs (o.getD a 0) (o.getD q 0):=fun q e1 e2=>by
  rcases h2 with h2 | h2
  ·omega
  ·exact hm.hi'' hi e1 e2 (hm.left (Nat.le_refl _) (by omega) hi (by omega) h2)
 refine⟨h.perm,fun p hp=>?_,fun p q e1 e2 e3=>?_⟩
 ·rw[h.at',if_neg (by omega),if_neg (by omega)]
 ·rw[h.at',h.at']
  by_cases c1:p<i-1
  ·rw[if_pos ⟨e1,c1⟩]
   by_cases c2:q<i-1
   ·rw[if_pos (by omega)];exact hm.hi _ _ (by omega) (by omega) (by omega)
   ·rw[if_neg (by omega)]
    by_cases c3:q=i-1
    ·rw[if_pos c3];exact hl1 _ (by omega) (by omega)
    ·rw[if_neg c3];exact hm.hi _ _ (by omega) (by omega) e3
  ·rw[if_neg (by omega),if_neg (show ¬(a<=q∧q<i-1) by omega),if_neg (show q≠i-1 by omega)]
   by_cases c3:p=i-1
   ·rw[if_pos c3];exact hl2 _ (by omega) e3
   ·rw[if_neg c3];exact hm.hi _ _ (by omega) e2 e3
structure Dn (k m:Nat) (o X:List Int):Prop where
 perm:X.Perm o
 at':∀p,X.getD p 0=if k<p∧p<=m then o.getD (p-1) 0 else if p=k then o.getD m 0 else o.getD p 0
theorem Dn.start(m:Nat)(o:List Int):Dn m m o o:=⟨List.Perm.refl _,fun p=>by
 rw[if_neg (by omega)]
 by_cases e:p=m
 ·rw[if_pos e,e]
 ·rw[if_neg e]⟩
theorem Dn.step{k m:Nat}{o X:List Int}(h:Dn (k+1) m o X)(hk:k+1<=m)(hl:k+1<X.length):Dn k m o (Qf0 X (k+1) k):=by
 refine⟨(Qhk X _ _ hl (by omega)).trans h.perm,fun p=>?_⟩
 rw[Qg6 X _ _ _ hl (by omega),h.at',h.at',h.at']
 by_cases e1:p=k
 ·subst e1
  rw[if_pos rfl,if_neg (by omega),if_pos rfl,if_neg (by omega),if_pos rfl]
 ·rw[if_neg e1,if_neg e1]
  by_cases e2:p=k+1
  ·subst e2
   rw[if_pos rfl,if_neg (by omega),if_neg (by omega),if_pos (by omega)]
   rfl
  ·rw[if_neg e2,if_neg e2]
   by_cases e3:k+1<p∧p<=m
   ·rw[if_pos e3,if_pos (by omega)]
   ·rw[if_neg e3,if_neg (by omega)]
theorem Dn.sorted{cs:List Int}{a m i:Nat}{o X:List Int}(hm:Mrg cs a m (m+1) o)(hi:a<=i)(him:i<=m)(h1:i=a∨key cs (o.getD (i-1) 0)<=key cs (o.getD m 0))(h2:i=m∨key cs (o.getD m 0)<key cs (o.getD i 0))(h:Dn i m o X):Sorted cs a (m+1) o X:=by
 have hl1:∀q,a<=q->q<i->Lx cs (o.getD q 0) (o.getD m 0):=fun q e1 e2=>by
  rcases h1 with h1 | h1
  ·omega
  ·exact hm.lo' e1 (show q<=i-1 by omega) (by omega) (hm.left (by omega) (by omega) (Nat.le_refl _) (by omega) h1)
 have hl2:∀q,i<=q->q<m->Lx cs (o.getD m 0) (o.getD q 0):=fun q e1 e2=>by
  rcases h2 with h2 | h2
  ·omega
  ·exact hm.lo'' hi e1 e2 (Or.inl h2)
 refine⟨h.perm,fun p hp=>?_,fun p q e1 e2 e3=>?_⟩
 ·rw[h.at',if_neg (by omega)]
  by_cases c:p=i
  ·omega
  ·rw[if_neg c]
 ·rw[h.at',h.at']
  by_cases c1:p<i
  ·rw[if_neg (by omega),if_neg (show p≠i by omega)]
   by_cases c2:q<i
   ·rw[if_neg (by omega),if_neg (show q≠i by omega)];exact hm.lo _ _ e1 e2 (by omega)
   ·by_cases c3:q=i
    ·rw[if_neg (by omega),if_pos c3];exact hl1 _ e1 c1
    ·rw[if_pos (by omega)];exact hm.lo _ _ e1 (by omega) (by omega)
  ·rw[if_pos (show i<q∧q<=m by omega)]
   by_cases c3:p=i
   ·rw[if_neg (by omega),if_pos c3];exact hl2 _ (by omega) (by omega)
   ·rw[if_pos (by omega)];exact hm.lo _ _ (by omega) (by omega) (by omega)
structure Turned (a m b mid s e:Nat) (o Y:List Int):Prop where
 perm:Y.Perm o
 sum:s+e=mid+m
 sm:s<=m
 me:m<=e
 as:a<=s
 eb:e<=b
 smid:s<=mid
 mide:mid<=e
 at':∀p,Y.getD p 0=o.getD (if s<=p∧p<mid then p+(m-s) else if mid<=p∧p<e then p-(e-m) else p) 0
structure Xls (cs:List Int) (a m b mid s:Nat) (o:List Int):Prop where
 low:(m>mid∧s=mid+m-b)∨(m<=mid∧s=a)∨Lx cs (o.getD (s-1) 0) (o.getD (mid+m-s) 0)
 high:(m>mid∧s=mid)∨(m<=mid∧s=m)∨Lx cs (o.getD (mid+m-1-s) 0) (o.getD s 0)
theorem Turned.first{cs:List Int}{a m b mid s e:Nat}{o Y:List Int}(hm:Mrg cs a m b o)(h:Turned a m b mid s e o Y):Mrg cs a s mid Y:=by
 obtain⟨_,h1,h2,h3,h4,h5,h6,h7,hat⟩:=h
 refine⟨fun p q e1 e2 e3=>?_,fun p q e1 e2 e3=>?_,fun p q e1 e2 e3 e4=>?_⟩
 ·rw[hat,hat,if_neg (by omega),if_neg (by omega),if_neg (by omega),if_neg (by omega)];exact hm.lo _ _ e1 e2 (by omega)
 ·rw[hat,hat,if_pos (by omega),if_pos (by omega)];exact hm.hi _ _ (by omega) (by omega) (by omega)
 ·rw[hat,hat,if_neg (by omega),if_neg (by omega),if_pos (by omega)];exact hm.less _ _ e1 (by omega) (by omega) (by omega)
theorem Turned.second{cs:List Int}{a m b mid s e:Nat}{o Y Z:List Int}(hm:Mrg cs a m b o)(h:Turned a m b mid s e o Y)(hz:Same a mid Y Z):Mrg cs mid e b Z:=by
 obtain⟨_,h1,h2,h3,h4,h5,h6,h7,hat⟩:=h
 refine⟨fun p q e1 e2 e3=>?_,fun p q e1 e2 e3=>?_,fun p q e1 e2 e3 e4=>?_⟩
 ·rw[hz.out p (by omega),hz.out q (by omega),hat,hat,if_neg (by omega),if_pos (by omega),if_neg (by omega),if_pos (by omega)];exact hm.lo _ _ (by omega) (by omega) (by omega)
 ·rw[hz.out p (by omega),hz.out q (by omega),hat,hat,if_neg (by omega),if_neg (by omega),if_neg (by omega),if_neg (by omega)];exact hm.hi _ _ (by omega) (by omega) (by omega)
 ·rw[hz.out p (by omega),hz.out q (by omega),hat,hat,if_neg (by omega),if_pos (by omega),if_neg (by omega),if_neg (by omega)];exact hm.less _ _ (by omega) (by omega) (by omega) (by omega)
theorem Turned.cross{cs:List Int}{a m b mid s e:Nat}{o Y:List Int}(hm:Mrg cs a m b o)(h:Turned a m b mid s e o Y)(hc:Xls cs a m b mid s o):∀p q,a<=p->p<mid->mid<=q->q<b->Lx cs (Y.getD p 0) (Y.getD q 0):=by
 obtain⟨_,h1,h2,h3,h4,h5,h6,h7,hat⟩:=h
 intro p q e1 e2 e3 e4
 rw[hat,hat]
 by_cases c1:p<s
 ·rw[if_neg (by omega),if_neg (by omega)]
  by_cases c2:q<e
  ·rw[if_neg (by omega),if_pos (by omega)];exact hm.lo _ _ e1 (by omega) (by omega)
  ·rw[if_neg (by omega),if_neg (by omega)]
   rcases hc.low with c | c | c
   ·omega
   ·omega
   ·rw[show mid+m-s=e by omega] at c
    exact hm.hi'' h3 (show e<=q by omega) e4 (hm.lo' e1 (show p<=s-1 by omega) (by omega) c)
 ·rw[if_pos (by omega)]
  by_cases c2:q<e
  ·rw[if_neg (by omega),if_pos (by omega)]
   rcases hc.high with c | c | c
   ·omega
   ·omega
   ·rw[show mid+m-1-s=e-1 by omega] at c
    exact hm.lo'' h4 (show s<=q-(e-m) by omega) (by omega) (hm.hi' (by omega) (show p+(m-s)<=e-1 by omega) (by omega) c)
  ·rw[if_neg (by omega),if_neg (by omega)];exact hm.hi _ _ (by omega) (by omega) e4
theorem Turned.same{a m b mid s e:Nat}{o Y:List Int}(h:Turned a m b mid s e o Y):Same a b o Y:=by
 obtain⟨hp,h1,h2,h3,h4,h5,h6,h7,hat⟩:=h
 exact⟨hp,fun p hp=>by rw[hat,if_neg (by omega),if_neg (by omega)]⟩
theorem merged{cs:List Int}{a m b mid s e:Nat}{o Y Z1 Z2:List Int}(hb:b<=o.length)(hm:Mrg cs a m b o)(h:Turned a m b mid s e o Y)(hc:Xls cs a m b mid s o)(h1:Sorted cs a mid Y Z1)(h2:Sorted cs mid b Z1 Z2):Sorted cs a b o Z2:=by
 have hx:=Turned.cross hm h hc
 have hs:=h.same
 have hamid:a<=mid:=Nat.le_trans h.as h.smid
 have hmidb:mid<=b:=Nat.le_trans h.mide h.eb
 refine⟨h2.perm.trans (h1.perm.trans h.perm),fun p hp=>?_,fun p q e1 e2 e3=>?_⟩
 ·rw[h2.out p (by omega),h1.out p (by omega)];exact hs.out p hp
 ·by_cases c1:q<mid
  ·rw[h2.out p (by omega),h2.out q (by omega)];exact h1.ord p q e1 e2 c1
  ·by_cases c2:mid<=p
   ·exact h2.ord p q c2 e2 e3
   ·rw[h2.out p (by omega)]
    obtain⟨p',p1,p2,pe⟩:=h1.same.mem (by rw[h.perm.length_eq];omega) p e1 (by omega)
    obtain⟨q',q1,q2,qe⟩:=h2.same.mem (by rw[h1.perm.length_eq,h.perm.length_eq];omega) q (by omega) e3
    rw[pe,qe,h1.out q' (by omega)]
    exact hx p' q' p1 p2 q1 q2
theorem Mrg.one{cs:List Int}{a m b:Nat}{o:List Int}(hm:Mrg cs a m b o)(h:m=a∨m=b):Sorted cs a b o o:=by
 refine⟨List.Perm.refl _,fun _ _=>rfl,fun p q e1 e2 e3=>?_⟩
 rcases h with h | h
 ·exact hm.hi p q (by omega) e2 e3
 ·exact hm.lo p q e1 e2 (by omega)
theorem Turned.still{a m b mid s e:Nat}{o:List Int}(hsum:s+e=mid+m)(h1:a<=s)(h2:s<=m)(h3:m<=e)(h4:e<=b)(h5:s<=mid)(h6:mid<=e)(h:s=m∨m=e):Turned a m b mid s e o o:=by
 refine⟨List.Perm.refl _,hsum,h2,h3,h1,h4,h5,h6,fun p=>?_⟩
 congr 1
 repeat' split
 all_goals omega
end Hf
end
/-
 Plain facts on a stable sort by blocks: where the blocks begin, and what joins two of them.
-/
section
namespace Hf
def Gd(cs:List Int)(C:Nat->Prop)(n:Nat)(X:List Int):Prop:=
 ∀p q,p<q->q<n->((∀x,p<x->x<=q->¬C x)->Lx cs (X.getD p 0) (X.getD q 0))∧(∀x,p<x->x<=q->C x->X.getD p 0<X.getD q 0)
theorem Gd.iff{cs:List Int}{C D:Nat->Prop}{n:Nat}{X:List Int}(h:Gd cs C n X)(e:∀x,x<n->(C x↔D x)):Gd cs D n X:=by
 intro p q h1 h2
 obtain⟨a,b⟩:=h p q h1 h2
 exact⟨fun hx=>a (fun x e1 e2 hc=>hx x e1 e2 ((e x (by omega)).1 hc)),fun x e1 e2 hd=>b x e1 e2 ((e x (by omega)).2 hd)⟩
theorem Gd.start{cs:List Int}{n:Nat}{o:List Int}(hinc:∀p q,p<q->q<n->o.getD p 0<o.getD q 0)(C:Nat->Prop)(hC:∀x,C x):Gd cs C n o:=
 fun p q h1 h2=>⟨fun h=>absurd (hC q) (h q h1 (Nat.le_refl _)),fun _ _ _ _=>hinc p q h1 h2⟩
theorem Gd.join{cs:List Int}{C:Nat->Prop}{n a b:Nat}{X Y:List Int}(h:Gd cs C n X)(hs:Sorted cs a b X Y)(hl:X.length=n)(hb:b<=n)(ca:a=0∨C a)(cb:b=n∨C b):Gd cs (fun x=>C x∧¬(a<x∧x<b)) n Y:=by
 have hm:∀p,a<=p->p<b->∃q,a<=q∧q<b∧Y.getD p 0=X.getD q 0:=fun p=>hs.same.mem (by omega) p
 intro p q h1 h2
 obtain⟨e1,e2⟩:=h p q h1 h2
 by_cases pa:p<a
 ·have hCa:C a:=by rcases ca with c | c;exact absurd c (by omega);exact c
  by_cases qa:q<a
  ·rw[hs.out p (by omega),hs.out q (by omega)]
   exact⟨fun hx=>e1 (fun x k1 k2 hc=>hx x k1 k2 ⟨hc,by omega⟩),fun x k1 k2 hc=>e2 x k1 k2 hc.1⟩
  ·refine⟨fun hx=>absurd ⟨hCa,by omega⟩ (hx a pa (by omega)),fun _ _ _ _=>?_⟩
   by_cases qb:q<b
   ·obtain⟨r,r1,r2,re⟩:=hm q (by omega) qb
    rw[hs.out p (by omega),re]
    exact(h p r (by omega) (by omega)).2 a pa r1 hCa
   ·rw[hs.out p (by omega),hs.out q (by omega)]
    exact e2 a pa (by omega) hCa
 ·by_cases pb:p<b
  ·by_cases qb:q<b
   ·exact⟨fun _=>hs.ord p q (by omega) h1 qb,fun x k1 k2 hc=>absurd ⟨by omega,by omega⟩ hc.2⟩
   ·have hCb:C b:=by rcases cb with c | c;exact absurd c (by omega);exact c
    refine⟨fun hx=>absurd ⟨hCb,by omega⟩ (hx b pb (by omega)),fun _ _ _ _=>?_⟩
    obtain⟨r,r1,r2,re⟩:=hm p (by omega) pb
    rw[re,hs.out q (by omega)]
    exact(h r q (by omega) h2).2 b r2 (by omega) hCb
  ·rw[hs.out p (by omega),hs.out q (by omega)]
   exact⟨fun hx=>e1 (fun x k1 k2 hc=>hx x k1 k2 ⟨hc,by omega⟩),fun x k1 k2 hc=>e2 x k1 k2 hc.1⟩
theorem Gd.mrg{cs:List Int}{C:Nat->Prop}{n a m b:Nat}{X:List Int}(h:Gd cs C n X)(hb:b<=n)(hm:C m)(hn:∀x,a<x->x<b->C x->x=m)(_ham:a<m)(hmb:m<=b):Mrg cs a m b X:=
 ⟨fun p q h1 h2 h3=>(h p q h2 (by omega)).1 (fun x k1 k2 hc=>by have:=hn x (by omega) (by omega) hc;omega),
  fun p q h1 h2 h3=>(h p q h2 (by omega)).1 (fun x k1 k2 hc=>by have:=hn x (by omega) (by omega) hc;omega),
  fun p q h1 h2 h3 h4=>(h p q (by omega) (by omega)).2 m h2 h3 hm⟩
theorem Gd.end{cs:List Int}{C:Nat->Prop}{n:Nat}{o X:List Int}(h:Gd cs C n X)(hp:X.Perm o)(hl:o.length=n)(hn:∀x,0<x->x<n->¬C x):Sorted cs 0 n o X:=
 ⟨hp,fun p hp'=>by
  have h1:X.getD p 0=0:=by simp[List.getD,List.getElem?_eq_none (show X.length<=p by rw[hp.length_eq];omega)]
  have h2:o.getD p 0=0:=by simp[List.getD,List.getElem?_eq_none (show o.length<=p by omega)]
  rw[h1,h2],fun p q h1 h2 h3=>(h p q h2 h3).1 (fun x k1 k2=>hn x (by omega) (by omega))⟩
def C20(a x:Nat):Prop:=a<=x∨20 ∣ x
theorem Xd7{a x:Nat}(h:20 ∣ a):(C20 a x∧¬(a<x∧x<a+20))↔C20 (a+20) x:=by unfold C20;omega
theorem Xhu{a n x:Nat}(h:20 ∣ a)(h2:n<a+20)(hx:x<n):(C20 a x∧¬(a<x∧x<n))↔20 ∣ x:=by unfold C20;omega
def CB(b a x:Nat):Prop:=(x<=a∧2*b ∣ x)∨(a<=x∧b ∣ x)
theorem Xjs{b a x:Nat}(_hb:0<b)(ha:2*b ∣ a)(hx:b ∣ x)(h1:a<x)(h2:x<a+2*b):x=a+b:=by
 obtain⟨j,rfl⟩:=ha
 obtain⟨u,rfl⟩:=hx
 have e:2*b*j=b*(2*j):=by rw[Nat.mul_comm 2 b,Nat.mul_assoc]
 rw[e] at h1 h2|-
 have l1:2*j<u:=Nat.lt_of_mul_lt_mul_left h1
 have l2:b*u<b*(2*j+2):=by rw[Nat.mul_add];omega
 have l3:u<2*j+2:=Nat.lt_of_mul_lt_mul_left l2
 have l4:u=2*j+1:=by omega
 rw[l4,Nat.mul_add];omega
theorem Qwd{c a x:Nat}(ha:c ∣ a)(hx:c ∣ x)(h1:a<x):a+c<=x:=by
 obtain⟨j,rfl⟩:=ha
 obtain⟨u,rfl⟩:=hx
 have l1:j<u:=Nat.lt_of_mul_lt_mul_left h1
 have:c*(j+1)<=c*u:=Nat.mul_le_mul_left _ (by omega)
 rw[Nat.mul_add] at this;omega
theorem Qpq{b x:Nat}(h:2*b ∣ x):b ∣ x:=Nat.dvd_trans ⟨2,by omega⟩ h
theorem Xfb(b x:Nat):b ∣ x↔CB b 0 x:=by
 unfold CB
 constructor
 ·intro h;exact Or.inr ⟨Nat.zero_le _,h⟩
 ·rintro (⟨h1,h2⟩ | ⟨_,h⟩)
  ·exact Qpq h2
  ·exact h
theorem Xbp{b a x:Nat}(hb:0<b)(ha:2*b ∣ a)(h1:a<x)(h2:x<a+2*b)(h:CB b a x):x=a+b:=by
 rcases h with ⟨h,_⟩ | ⟨_,h⟩
 ·omega
 ·exact Xjs hb ha h h1 h2
theorem Xk7{b a:Nat}(ha:2*b ∣ a):CB b a a:=Or.inl ⟨Nat.le_refl _,ha⟩
theorem Qzm{b a:Nat}(ha:2*b ∣ a):CB b a (a+b):=Or.inr ⟨by omega,(Nat.dvd_add_iff_right (Qpq ha)).1 (Nat.dvd_refl _)⟩
theorem Xiw{b a:Nat}(ha:2*b ∣ a):CB b a (a+2*b):=Or.inr ⟨by omega,(Nat.dvd_add_iff_right (Qpq ha)).1 ⟨2,by omega⟩⟩
theorem Xjw{b a x:Nat}(hb:0<b)(ha:2*b ∣ a):(CB b a x∧¬(a<x∧x<a+2*b))↔CB b (a+2*b) x:=by
 constructor
 ·rintro ⟨h | h,hn⟩
  ·exact Or.inl ⟨by omega,h.2⟩
  ·by_cases c:x=a
   ·subst c;exact Or.inl ⟨by omega,ha⟩
   ·exact Or.inr ⟨by omega,h.2⟩
 ·rintro (h | h)
  ·by_cases c:x<=a
   ·exact⟨Or.inl ⟨c,h.2⟩,by omega⟩
   ·have:=Qwd ha h.2 (by omega)
    exact⟨Or.inr ⟨by omega,Qpq h.2⟩,by omega⟩
  ·exact⟨Or.inr ⟨by omega,h.2⟩,by omega⟩
theorem Xhb{b a n x:Nat}(_hb:0<b)(ha:2*b ∣ a)(h2:n<a+2*b)(hx:x<n):(CB b a x∧¬(a<x∧x<n))↔2*b ∣ x:=by
 constructor
 ·rintro ⟨h | h,hn⟩
  ·exact h.2
  ·have:x=a:=by omega
   subst this;exact ha
 ·intro h
  by_cases c:x<=a
  ·exact⟨Or.inl ⟨c,h⟩,by omega⟩
  ·have:=Qwd ha h (by omega)
   omega
theorem Xjn{b a n x:Nat}(hb:0<b)(ha:2*b ∣ a)(h2:n<=a+b)(hx:x<n):CB b a x↔2*b ∣ x:=by
 rw[<-Xhb hb ha (show n<a+2*b by omega) hx]
 constructor
 ·intro h
  refine⟨h,fun hn=>?_⟩
  have:=Xbp hb ha hn.1 (by omega) h
  omega
 ·exact fun h=>h.1
theorem Xjz{b n x:Nat}(hn:n<=b)(h0:0<x)(hx:x<n):¬b ∣ x:=fun h=>by
 have:=Nat.le_of_dvd h0 h
 omega
end Hf
end
end Go.Proofs.YtibjlbcnapoblaaGreatDoor
