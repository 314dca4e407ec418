/- Contracts and facts. -/
import Derived.Test.YtibjlbcnapoblaaGreatDoorPart01
namespace Go.Proofs.YtibjlbcnapoblaaGreatDoor
set_option maxRecDepth 100000
set_option maxHeartbeats 6400000
section
namespace Hf
structure Same (a b:Nat) (o X:List Int):Prop where
 perm:X.Perm o
 out:∀p,p<a∨b<=p->X.getD p 0=o.getD p 0
theorem Sorted.same{cs:List Int}{a b:Nat}{o X:List Int}(h:Sorted cs a b o X):Same a b o X:=⟨h.perm,h.out⟩
theorem Qvv{l m:List Int}(hl:l.length=m.length)(h:∀p,p<l.length->l.getD p 0=m.getD p 0):l=m:=by
 refine List.ext_getElem hl (fun i h1 h2=>?_)
 have:=h i h1
 simpa [List.getD,List.getElem?_eq_getElem h1,List.getElem?_eq_getElem h2] using this
theorem getD_take'(l:List Int)(n p:Nat)(h:p<n):(l.take n).getD p 0=l.getD p 0:=by
 simp only[List.getD,List.getElem?_take,if_pos h]
theorem Qhd(l:List Int)(n p:Nat):(l.drop n).getD p 0=l.getD (n+p) 0:=by
 simp only[List.getD,List.getElem?_drop]
theorem Qeg{l:List Int}{u:Int}(h:u∈l):∃p,p<l.length∧l.getD p 0=u:=by
 obtain⟨p,hp,e⟩:=List.getElem_of_mem h
 exact⟨p,hp,by simp[List.getD,List.getElem?_eq_getElem hp,e]⟩
theorem getD_in{l:List Int}(p:Nat)(h:p<l.length):l.getD p 0∈l:=by
 have e:l.getD p 0=l[p]:=by simp[List.getD,List.getElem?_eq_getElem h]
 rw[e];exact List.getElem_mem h
theorem Xl0(l:List Int)(a k:Nat):l=l.take a++((l.drop a).take k++l.drop (a+k)):=by
 have h1:(l.drop a).take k++l.drop (a+k)=l.drop a:=by
  rw[<-List.drop_drop];exact List.take_append_drop k (l.drop a)
 rw[h1,List.take_append_drop]
theorem Same.mem{a b:Nat}{o X:List Int}(h:Same a b o X)(hb:b<=o.length)(p:Nat)(h1:a<=p)(h2:p<b):∃q,a<=q∧q<b∧X.getD p 0=o.getD q 0:=by
 obtain⟨k,rfl⟩:∃k,b=a+k:=⟨b-a,by omega⟩
 have hl:=h.perm.length_eq
 have e1:X.take a=o.take a:=Qvv (by simp[hl]) (fun q hq=>by
  rw[List.length_take] at hq
  rw[getD_take' _ _ _ (by omega),getD_take' _ _ _ (by omega)]
  exact h.out q (by omega))
 have e2:X.drop (a+k)=o.drop (a+k):=Qvv (by simp[hl]) (fun q _=>by
  rw[Qhd,Qhd]
  exact h.out _ (by omega))
 have hp:=h.perm
 rw[Xl0 X a k,Xl0 o a k,e1,e2] at hp
 have hp2:=(List.perm_append_right_iff _).1 ((List.perm_append_left_iff _).1 hp)
 have hm:X.getD p 0∈(X.drop a).take k:=by
  have e3:((X.drop a).take k).getD (p-a) 0=X.getD p 0:=by
   rw[getD_take' _ _ _ (by omega),Qhd];congr 1;omega
  rw[<-e3]
  exact getD_in _ (by rw[List.length_take,List.length_drop];omega)
 obtain⟨q,hq,e⟩:=Qeg (hp2.subset hm)
 rw[List.length_take,List.length_drop] at hq
 refine⟨a+q,by omega,by omega,?_⟩
 rw[<-e,getD_take' _ _ _ (by omega),Qhd]
structure Mrg (cs:List Int) (a m b:Nat) (o:List Int):Prop where
 lo:∀p q,a<=p->p<q->q<m->Lx cs (o.getD p 0) (o.getD q 0)
 hi:∀p q,m<=p->p<q->q<b->Lx cs (o.getD p 0) (o.getD q 0)
 less:∀p q,a<=p->p<m->m<=q->q<b->o.getD p 0<o.getD q 0
theorem Mrg.left{cs:List Int}{a m b:Nat}{o:List Int}(h:Mrg cs a m b o){p q:Nat}(h1:a<=p)(h2:p<m)(h3:m<=q)(h4:q<b)(hk:key cs (o.getD p 0)<=key cs (o.getD q 0)):Lx cs (o.getD p 0) (o.getD q 0):=by
 have:=h.less p q h1 h2 h3 h4
 unfold Lx;omega
theorem Mrg.lo'{cs:List Int}{a m b:Nat}{o:List Int}(h:Mrg cs a m b o){x:Int}{p q:Nat}(h1:a<=p)(h2:p<=q)(h3:q<m)(hx:Lx cs (o.getD q 0) x):Lx cs (o.getD p 0) x:=by
 by_cases e:p=q
 ·rw[e];exact hx
 ·exact(h.lo p q h1 (by omega) h3).trans hx
theorem Mrg.lo''{cs:List Int}{a m b:Nat}{o:List Int}(h:Mrg cs a m b o){x:Int}{p q:Nat}(h1:a<=p)(h2:p<=q)(h3:q<m)(hx:Lx cs x (o.getD p 0)):Lx cs x (o.getD q 0):=by
 by_cases e:p=q
 ·rw[<-e];exact hx
 ·exact hx.trans (h.lo p q h1 (by omega) h3)
theorem Mrg.hi'{cs:List Int}{a m b:Nat}{o:List Int}(h:Mrg cs a m b o){x:Int}{p q:Nat}(h1:m<=p)(h2:p<=q)(h3:q<b)(hx:Lx cs (o.getD q 0) x):Lx cs (o.getD p 0) x:=by
 by_cases e:p=q
 ·rw[e];exact hx
 ·exact(h.hi p q h1 (by omega) h3).trans hx
theorem Mrg.hi''{cs:List Int}{a m b:Nat}{o:List Int}(h:Mrg cs a m b o){x:Int}{p q:Nat}(h1:m<=p)(h2:p<=q)(h3:q<b)(hx:Lx cs x (o.getD p 0)):Lx cs x (o.getD q 0):=by
 by_cases e:p=q
 ·rw[<-e];exact hx
 ·exact hx.trans (h.hi p q h1 (by omega) h3)
structure Up (a k:Nat) (o X:List Int):Prop where
 perm:X.Perm o
 at':∀p,X.getD p 0=if a<=p∧p<k then o.getD (p+1) 0 else if p=k then o.getD a 0 else o.getD p 0
theorem Up.start(a:Nat)(o:List Int):Up a a o o:=⟨List.Perm.refl _,fun p=>by
 rw[if_neg (by omega)]
 by_cases e:p=a
 ·rw[if_pos e,e]
 ·rw[if_neg e]⟩
theorem Up.step{a k:Nat}{o X:List Int}(h:Up a k o X)(ha:a<=k)(hl:k+1<X.length):Up a (k+1) o (Qf6 X k (k+1)):=by
 refine⟨(Qg9 X _ _ (by omega) hl).trans h.perm,fun p=>?_⟩
 rw[Qhh X _ _ _ (by omega) hl,h.at',h.at',h.at']
 by_cases e1:p=k+1
 ·subst e1
  rw[if_pos rfl,if_neg (by omega),if_pos rfl,if_neg (by omega),if_pos rfl]
 ·rw[if_neg e1,if_neg e1]
  by_cases e2:p=k
  ·subst e2
   rw[if_pos rfl,if_neg (by omega),if_neg (by omega),if_pos (by omega)]
  ·rw[if_neg e2,if_neg e2]
   by_cases e3:a<=p∧p<k
   ·rw[if_pos e3,if_pos (by omega)]
   ·rw[if_neg e3,if_neg (by omega)]
theorem Up.sorted{cs:List Int}{a b i:Nat}{o X:List Int}(hm:Mrg cs a (a+1) b o)(hi:a+1<=i)(hib:i<=b)(h1:i=a+1∨key cs (o.getD (i-1) 0)<key cs (o.getD a 0))(h2:i=b∨key cs (o.getD a 0)<=key cs (o.getD i 0))(h:Up a (i-1) o X):Sorted cs a b o X:=by
 have hl1:∀q,a+1<=q->q<i->Lx cs (o.getD q 0) (o.getD a 0):=fun q e1 e2=>by
  rcases h1 with h1 | h1
  ·omega
  ·exact hm.hi' e1 (show q<=i-1 by omega) (by omega) (Or.inl h1)
 have hl2:∀q,i<=q->q<b->Lx cs (o.getD a 0) (o.getD q 0):=fun q e1 e2=>by
  rcases h2 with h2 | h2
  ·omega
  ·exact hm.hi'' hi e1 e2 (hm.left (Nat.le_refl _) (by omega) hi (by omega) h2)
 refine⟨h.perm,fun p hp=>?_,fun p q e1 e2 e3=>?_⟩
 ·rw[h.at',if_neg (by omega),if_neg (by omega)]
 ·rw[h.at',h.at']
  by_cases c1:p<i-1
  ·rw[if_pos ⟨e1,c1⟩]
   by_cases c2:q<i-1
   ·rw[if_pos (by omega)];exact hm.hi _ _ (by omega) (by omega) (by omega)
   ·rw[if_neg (by omega)]
    by_cases c3:q=i-1
    ·rw[if_pos c3];exact hl1 _ (by omega) (by omega)
    ·rw[if_neg c3];exact hm.hi _ _ (by omega) (by omega) e3
  ·rw[if_neg (by omega),if_neg (show ¬(a<=q∧q<i-1) by omega),if_neg (show q≠i-1 by omega)]
   by_cases c3:p=i-1
   ·rw[if_pos c3];exact hl2 _ (by omega) e3
   ·rw[if_neg c3];exact hm.hi _ _ (by omega) e2 e3
structure Dn (k m:Nat) (o X:List Int):Prop where
 perm:X.Perm o
 at':∀p,X.getD p 0=if k<p∧p<=m then o.getD (p-1) 0 else if p=k then o.getD m 0 else o.getD p 0
theorem Dn.start(m:Nat)(o:List Int):Dn m m o o:=⟨List.Perm.refl _,fun p=>by
 rw[if_neg (by omega)]
 by_cases e:p=m
 ·rw[if_pos e,e]
 ·rw[if_neg e]⟩
theorem Dn.step{k m:Nat}{o X:List Int}(h:Dn (k+1) m o X)(hk:k+1<=m)(hl:k+1<X.length):Dn k m o (Qf6 X (k+1) k):=by
 refine⟨(Qg9 X _ _ hl (by omega)).trans h.perm,fun p=>?_⟩
 rw[Qhh X _ _ _ hl (by omega),h.at',h.at',h.at']
 by_cases e1:p=k
 ·subst e1
  rw[if_pos rfl,if_neg (by omega),if_pos rfl,if_neg (by omega),if_pos rfl]
 ·rw[if_neg e1,if_neg e1]
  by_cases e2:p=k+1
  ·subst e2
   rw[if_pos rfl,if_neg (by omega),if_neg (by omega),if_pos (by omega)]
   rfl
  ·rw[if_neg e2,if_neg e2]
   by_cases e3:k+1<p∧p<=m
   ·rw[if_pos e3,if_pos (by omega)]
   ·rw[if_neg e3,if_neg (by omega)]
theorem Dn.sorted{cs:List Int}{a m i:Nat}{o X:List Int}(hm:Mrg cs a m (m+1) o)(hi:a<=i)(him:i<=m)(h1:i=a∨key cs (o.getD (i-1) 0)<=key cs (o.getD m 0))(h2:i=m∨key cs (o.getD m 0)<key cs (o.getD i 0))(h:Dn i m o X):Sorted cs a (m+1) o X:=by
 have hl1:∀q,a<=q->q<i->Lx cs (o.getD q 0) (o.getD m 0):=fun q e1 e2=>by
  rcases h1 with h1 | h1
  ·omega
  ·exact hm.lo' e1 (show q<=i-1 by omega) (by omega) (hm.left (by omega) (by omega) (Nat.le_refl _) (by omega) h1)
 have hl2:∀q,i<=q->q<m->Lx cs (o.getD m 0) (o.getD q 0):=fun q e1 e2=>by
  rcases h2 with h2 | h2
  ·omega
  ·exact hm.lo'' hi e1 e2 (Or.inl h2)
 refine⟨h.perm,fun p hp=>?_,fun p q e1 e2 e3=>?_⟩
 ·rw[h.at',if_neg (by omega)]
  by_cases c:p=i
  ·omega
  ·rw[if_neg c]
 ·rw[h.at',h.at']
  by_cases c1:p<i
  ·rw[if_neg (by omega),if_neg (show p≠i by omega)]
   by_cases c2:q<i
   ·rw[if_neg (by omega),if_neg (show q≠i by omega)];exact hm.lo _ _ e1 e2 (by omega)
   ·by_cases c3:q=i
    ·rw[if_neg (by omega),if_pos c3];exact hl1 _ e1 c1
    ·rw[if_pos (by omega)];exact hm.lo _ _ e1 (by omega) (by omega)
  ·rw[if_pos (show i<q∧q<=m by omega)]
   by_cases c3:p=i
   ·rw[if_neg (by omega),if_pos c3];exact hl2 _ (by omega) (by omega)
   ·rw[if_pos (by omega)];exact hm.lo _ _ (by omega) (by omega) (by omega)
structure Turned (a m b mid s e:Nat) (o Y:List Int):Prop where
 perm:Y.Perm o
 sum:s+e=mid+m
 sm:s<=m
 me:m<=e
 as:a<=s
 eb:e<=b
 smid:s<=mid
 mide:mid<=e
 at':∀p,Y.getD p 0=o.getD (if s<=p∧p<mid then p+(m-s) else if mid<=p∧p<e then p-(e-m) else p) 0
structure Xlj (cs:List Int) (a m b mid s:Nat) (o:List Int):Prop where
 low:(m>mid∧s=mid+m-b)∨(m<=mid∧s=a)∨Lx cs (o.getD (s-1) 0) (o.getD (mid+m-s) 0)
 high:(m>mid∧s=mid)∨(m<=mid∧s=m)∨Lx cs (o.getD (mid+m-1-s) 0) (o.getD s 0)
theorem Turned.first{cs:List Int}{a m b mid s e:Nat}{o Y:List Int}(hm:Mrg cs a m b o)(h:Turned a m b mid s e o Y):Mrg cs a s mid Y:=by
 obtain⟨_,h1,h2,h3,h4,h5,h6,h7,hat⟩:=h
 refine⟨fun p q e1 e2 e3=>?_,fun p q e1 e2 e3=>?_,fun p q e1 e2 e3 e4=>?_⟩
 ·rw[hat,hat,if_neg (by omega),if_neg (by omega),if_neg (by omega),if_neg (by omega)];exact hm.lo _ _ e1 e2 (by omega)
 ·rw[hat,hat,if_pos (by omega),if_pos (by omega)];exact hm.hi _ _ (by omega) (by omega) (by omega)
 ·rw[hat,hat,if_neg (by omega),if_neg (by omega),if_pos (by omega)];exact hm.less _ _ e1 (by omega) (by omega) (by omega)
theorem Turned.second{cs:List Int}{a m b mid s e:Nat}{o Y Z:List Int}(hm:Mrg cs a m b o)(h:Turned a m b mid s e o Y)(hz:Same a mid Y Z):Mrg cs mid e b Z:=by
 obtain⟨_,h1,h2,h3,h4,h5,h6,h7,hat⟩:=h
 refine⟨fun p q e1 e2 e3=>?_,fun p q e1 e2 e3=>?_,fun p q e1 e2 e3 e4=>?_⟩
 ·rw[hz.out p (by omega),hz.out q (by omega),hat,hat,if_neg (by omega),if_pos (by omega),if_neg (by omega),if_pos (by omega)];exact hm.lo _ _ (by omega) (by omega) (by omega)
 ·rw[hz.out p (by omega),hz.out q (by omega),hat,hat,if_neg (by omega),if_neg (by omega),if_neg (by omega),if_neg (by omega)];exact hm.hi _ _ (by omega) (by omega) (by omega)
 ·rw[hz.out p (by omega),hz.out q (by omega),hat,hat,if_neg (by omega),if_pos (by omega),if_neg (by omega),if_neg (by omega)];exact hm.less _ _ (by omega) (by omega) (by omega) (by omega)
theorem Turned.cross{cs:List Int}{a m b mid s e:Nat}{o Y:List Int}(hm:Mrg cs a m b o)(h:Turned a m b mid s e o Y)(hc:Xlj cs a m b mid s o):∀p q,a<=p->p<mid->mid<=q->q<b->Lx cs (Y.getD p 0) (Y.getD q 0):=by
 obtain⟨_,h1,h2,h3,h4,h5,h6,h7,hat⟩:=h
 intro p q e1 e2 e3 e4
 rw[hat,hat]
 by_cases c1:p<s
 ·rw[if_neg (by omega),if_neg (by omega)]
  by_cases c2:q<e
  ·rw[if_neg (by omega),if_pos (by omega)];exact hm.lo _ _ e1 (by omega) (by omega)
  ·rw[if_neg (by omega),if_neg (by omega)]
   rcases hc.low with c | c | c
   ·omega
   ·omega
   ·rw[show mid+m-s=e by omega] at c
    exact hm.hi'' h3 (show e<=q by omega) e4 (hm.lo' e1 (show p<=s-1 by omega) (by omega) c)
 ·rw[if_pos (by omega)]
  by_cases c2:q<e
  ·rw[if_neg (by omega),if_pos (by omega)]
   rcases hc.high with c | c | c
   ·omega
   ·omega
   ·rw[show mid+m-1-s=e-1 by omega] at c
    exact hm.lo'' h4 (show s<=q-(e-m) by omega) (by omega) (hm.hi' (by omega) (show p+(m-s)<=e-1 by omega) (by omega) c)
  ·rw[if_neg (by omega),if_neg (by omega)];exact hm.hi _ _ (by omega) (by omega) e4
theorem Turned.same{a m b mid s e:Nat}{o Y:List Int}(h:Turned a m b mid s e o Y):Same a b o Y:=by
 obtain⟨hp,h1,h2,h3,h4,h5,h6,h7,hat⟩:=h
 exact⟨hp,fun p hp=>by rw[hat,if_neg (by omega),if_neg (by omega)]⟩
theorem merged{cs:List Int}{a m b mid s e:Nat}{o Y Z1 Z2:List Int}(hb:b<=o.length)(hm:Mrg cs a m b o)(h:Turned a m b mid s e o Y)(hc:Xlj cs a m b mid s o)(h1:Sorted cs a mid Y Z1)(h2:Sorted cs mid b Z1 Z2):Sorted cs a b o Z2:=by
 have hx:=Turned.cross hm h hc
 have hs:=h.same
 have hamid:a<=mid:=Nat.le_trans h.as h.smid
 have hmidb:mid<=b:=Nat.le_trans h.mide h.eb
 refine⟨h2.perm.trans (h1.perm.trans h.perm),fun p hp=>?_,fun p q e1 e2 e3=>?_⟩
 ·rw[h2.out p (by omega),h1.out p (by omega)];exact hs.out p hp
 ·by_cases c1:q<mid
  ·rw[h2.out p (by omega),h2.out q (by omega)];exact h1.ord p q e1 e2 c1
  ·by_cases c2:mid<=p
   ·exact h2.ord p q c2 e2 e3
   ·rw[h2.out p (by omega)]
    obtain⟨p',p1,p2,pe⟩:=h1.same.mem (by rw[h.perm.length_eq];omega) p e1 (by omega)
    obtain⟨q',q1,q2,qe⟩:=h2.same.mem (by rw[h1.perm.length_eq,h.perm.length_eq];omega) q (by omega) e3
    rw[pe,qe,h1.out q' (by omega)]
    exact hx p' q' p1 p2 q1 q2
theorem Mrg.one{cs:List Int}{a m b:Nat}{o:List Int}(hm:Mrg cs a m b o)(h:m=a∨m=b):Sorted cs a b o o:=by
 refine⟨List.Perm.refl _,fun _ _=>rfl,fun p q e1 e2 e3=>?_⟩
 rcases h with h | h
 ·exact hm.hi p q (by omega) e2 e3
 ·exact hm.lo p q e1 e2 (by omega)
theorem Turned.still{a m b mid s e:Nat}{o:List Int}(hsum:s+e=mid+m)(h1:a<=s)(h2:s<=m)(h3:m<=e)(h4:e<=b)(h5:s<=mid)(h6:mid<=e)(h:s=m∨m=e):Turned a m b mid s e o o:=by
 refine⟨List.Perm.refl _,hsum,h2,h3,h1,h4,h5,h6,fun p=>?_⟩
 congr 1
 repeat' split
 all_goals omega
end Hf
end
section
namespace Hf
def Gd(cs:List Int)(C:Nat->Prop)(n:Nat)(X:List Int):Prop:=
 ∀p q,p<q->q<n->((∀x,p<x->x<=q->¬C x)->Lx cs (X.getD p 0) (X.getD q 0))∧(∀x,p<x->x<=q->C x->X.getD p 0<X.getD q 0)
theorem Gd.iff{cs:List Int}{C D:Nat->Prop}{n:Nat}{X:List Int}(h:Gd cs C n X)(e:∀x,x<n->(C x↔D x)):Gd cs D n X:=by
 intro p q h1 h2
 obtain⟨a,b⟩:=h p q h1 h2
 exact⟨fun hx=>a (fun x e1 e2 hc=>hx x e1 e2 ((e x (by omega)).1 hc)),fun x e1 e2 hd=>b x e1 e2 ((e x (by omega)).2 hd)⟩
theorem Gd.start{cs:List Int}{n:Nat}{o:List Int}(hinc:∀p q,p<q->q<n->o.getD p 0<o.getD q 0)(C:Nat->Prop)(hC:∀x,C x):Gd cs C n o:=
 fun p q h1 h2=>⟨fun h=>absurd (hC q) (h q h1 (Nat.le_refl _)),fun _ _ _ _=>hinc p q h1 h2⟩
theorem Gd.join{cs:List Int}{C:Nat->Prop}{n a b:Nat}{X Y:List Int}(h:Gd cs C n X)(hs:Sorted cs a b X Y)(hl:X.length=n)(hb:b<=n)(ca:a=0∨C a)(cb:b=n∨C b):Gd cs (fun x=>C x∧¬(a<x∧x<b)) n Y:=by
 have hm:∀p,a<=p->p<b->∃q,a<=q∧q<b∧Y.getD p 0=X.getD q 0:=fun p=>hs.same.mem (by omega) p
 intro p q h1 h2
 obtain⟨e1,e2⟩:=h p q h1 h2
 by_cases pa:p<a
 ·have hCa:C a:=by rcases ca with c | c;exact absurd c (by omega);exact c
  by_cases qa:q<a
  ·rw[hs.out p (by omega),hs.out q (by omega)]
   exact⟨fun hx=>e1 (fun x k1 k2 hc=>hx x k1 k2 ⟨hc,by omega⟩),fun x k1 k2 hc=>e2 x k1 k2 hc.1⟩
  ·refine⟨fun hx=>absurd ⟨hCa,by omega⟩ (hx a pa (by omega)),fun _ _ _ _=>?_⟩
   by_cases qb:q<b
   ·obtain⟨r,r1,r2,re⟩:=hm q (by omega) qb
    rw[hs.out p (by omega),re]
    exact(h p r (by omega) (by omega)).2 a pa r1 hCa
   ·rw[hs.out p (by omega),hs.out q (by omega)]
    exact e2 a pa (by omega) hCa
 ·by_cases pb:p<b
  ·by_cases qb:q<b
   ·exact⟨fun _=>hs.ord p q (by omega) h1 qb,fun x k1 k2 hc=>absurd ⟨by omega,by omega⟩ hc.2⟩
   ·have hCb:C b:=by rcases cb with c | c;exact absurd c (by omega);exact c
    refine⟨fun hx=>absurd ⟨hCb,by omega⟩ (hx b pb (by omega)),fun _ _ _ _=>?_⟩
    obtain⟨r,r1,r2,re⟩:=hm p (by omega) pb
    rw[re,hs.out q (by omega)]
    exact(h r q (by omega) h2).2 b r2 (by omega) hCb
  ·rw[hs.out p (by omega),hs.out q (by omega)]
   exact⟨fun hx=>e1 (fun x k1 k2 hc=>hx x k1 k2 ⟨hc,by omega⟩),fun x k1 k2 hc=>e2 x k1 k2 hc.1⟩
theorem Gd.mrg{cs:List Int}{C:Nat->Prop}{n a m b:Nat}{X:List Int}(h:Gd cs C n X)(hb:b<=n)(hm:C m)(hn:∀x,a<x->x<b->C x->x=m)(_ham:a<m)(hmb:m<=b):Mrg cs a m b X:=
 ⟨fun p q h1 h2 h3=>(h p q h2 (by omega)).1 (fun x k1 k2 hc=>by have:=hn x (by omega) (by omega) hc;omega),
  fun p q h1 h2 h3=>(h p q h2 (by omega)).1 (fun x k1 k2 hc=>by have:=hn x (by omega) (by omega) hc;omega),
  fun p q h1 h2 h3 h4=>(h p q (by omega) (by omega)).2 m h2 h3 hm⟩
theorem Gd.end{cs:List Int}{C:Nat->Prop}{n:Nat}{o X:List Int}(h:Gd cs C n X)(hp:X.Perm o)(hl:o.length=n)(hn:∀x,0<x->x<n->¬C x):Sorted cs 0 n o X:=
 ⟨hp,fun p hp'=>by
  have h1:X.getD p 0=0:=by simp[List.getD,List.getElem?_eq_none (show X.length<=p by rw[hp.length_eq];omega)]
  have h2:o.getD p 0=0:=by simp[List.getD,List.getElem?_eq_none (show o.length<=p by omega)]
  rw[h1,h2],fun p q h1 h2 h3=>(h p q h2 h3).1 (fun x k1 k2=>hn x (by omega) (by omega))⟩
def C20(a x:Nat):Prop:=a<=x∨20 ∣ x
theorem Xd5{a x:Nat}(h:20 ∣ a):(C20 a x∧¬(a<x∧x<a+20))↔C20 (a+20) x:=by unfold C20;omega
theorem Xjv{a n x:Nat}(h:20 ∣ a)(h2:n<a+20)(hx:x<n):(C20 a x∧¬(a<x∧x<n))↔20 ∣ x:=by unfold C20;omega
def CB(b a x:Nat):Prop:=(x<=a∧2*b ∣ x)∨(a<=x∧b ∣ x)
theorem Xjw{b a x:Nat}(_hb:0<b)(ha:2*b ∣ a)(hx:b ∣ x)(h1:a<x)(h2:x<a+2*b):x=a+b:=by
 obtain⟨j,rfl⟩:=ha
 obtain⟨u,rfl⟩:=hx
 have e:2*b*j=b*(2*j):=by rw[Nat.mul_comm 2 b,Nat.mul_assoc]
 rw[e] at h1 h2|-
 have l1:2*j<u:=Nat.lt_of_mul_lt_mul_left h1
 have l2:b*u<b*(2*j+2):=by rw[Nat.mul_add];omega
 have l3:u<2*j+2:=Nat.lt_of_mul_lt_mul_left l2
 have l4:u=2*j+1:=by omega
 rw[l4,Nat.mul_add];omega
theorem Qu7{c a x:Nat}(ha:c ∣ a)(hx:c ∣ x)(h1:a<x):a+c<=x:=by
 obtain⟨j,rfl⟩:=ha
 obtain⟨u,rfl⟩:=hx
 have l1:j<u:=Nat.lt_of_mul_lt_mul_left h1
 have:c*(j+1)<=c*u:=Nat.mul_le_mul_left _ (by omega)
 rw[Nat.mul_add] at this;omega
theorem Qpf{b x:Nat}(h:2*b ∣ x):b ∣ x:=Nat.dvd_trans ⟨2,by omega⟩ h
theorem Xel(b x:Nat):b ∣ x↔CB b 0 x:=by
 unfold CB
 constructor
 ·intro h;exact Or.inr ⟨Nat.zero_le _,h⟩
 ·rintro (⟨h1,h2⟩ | ⟨_,h⟩)
  ·exact Qpf h2
  ·exact h
theorem Qz6{b a x:Nat}(hb:0<b)(ha:2*b ∣ a)(h1:a<x)(h2:x<a+2*b)(h:CB b a x):x=a+b:=by
 rcases h with ⟨h,_⟩ | ⟨_,h⟩
 ·omega
 ·exact Xjw hb ha h h1 h2
theorem Xk9{b a:Nat}(ha:2*b ∣ a):CB b a a:=Or.inl ⟨Nat.le_refl _,ha⟩
theorem Xc6{b a:Nat}(ha:2*b ∣ a):CB b a (a+b):=Or.inr ⟨by omega,(Nat.dvd_add_iff_right (Qpf ha)).1 (Nat.dvd_refl _)⟩
theorem Xjl{b a:Nat}(ha:2*b ∣ a):CB b a (a+2*b):=Or.inr ⟨by omega,(Nat.dvd_add_iff_right (Qpf ha)).1 ⟨2,by omega⟩⟩
theorem Xij{b a x:Nat}(hb:0<b)(ha:2*b ∣ a):(CB b a x∧¬(a<x∧x<a+2*b))↔CB b (a+2*b) x:=by
 constructor
 ·rintro ⟨h | h,hn⟩
  ·exact Or.inl ⟨by omega,h.2⟩
  ·by_cases c:x=a
   ·subst c;exact Or.inl ⟨by omega,ha⟩
   ·exact Or.inr ⟨by omega,h.2⟩
 ·rintro (h | h)
  ·by_cases c:x<=a
   ·exact⟨Or.inl ⟨c,h.2⟩,by omega⟩
   ·have:=Qu7 ha h.2 (by omega)
    exact⟨Or.inr ⟨by omega,Qpf h.2⟩,by omega⟩
  ·exact⟨Or.inr ⟨by omega,h.2⟩,by omega⟩
theorem Xgr{b a n x:Nat}(_hb:0<b)(ha:2*b ∣ a)(h2:n<a+2*b)(hx:x<n):(CB b a x∧¬(a<x∧x<n))↔2*b ∣ x:=by
 constructor
 ·rintro ⟨h | h,hn⟩
  ·exact h.2
  ·have:x=a:=by omega
   subst this;exact ha
 ·intro h
  by_cases c:x<=a
  ·exact⟨Or.inl ⟨c,h⟩,by omega⟩
  ·have:=Qu7 ha h (by omega)
   omega
theorem Xir{b a n x:Nat}(hb:0<b)(ha:2*b ∣ a)(h2:n<=a+b)(hx:x<n):CB b a x↔2*b ∣ x:=by
 rw[<-Xgr hb ha (show n<a+2*b by omega) hx]
 constructor
 ·intro h
  refine⟨h,fun hn=>?_⟩
  have:=Qz6 hb ha hn.1 (by omega) h
  omega
 ·exact fun h=>h.1
theorem Xh9{b n x:Nat}(hn:n<=b)(h0:0<x)(hx:x<n):¬b ∣ x:=fun h=>by
 have:=Nat.le_of_dvd h0 h
 omega
end Hf
end
section
namespace Hf
def nB(bs:List Bool):Nat->Nat
 | 0=>0
 | k+1=>nB bs k*2+(if bs.getD k false then 1 else 0)
def Qtr(c n i:Nat):Bool:=c/2^(n-1-i)%2==1
def Qcy(c n:Nat):List Bool:=(List.range n).map (Qtr c n)
theorem Qbi(c n:Nat):(Qcy c n).length=n:=by simp[Qcy]
theorem Qx8(c n i:Nat)(h:i<n):(Qcy c n).getD i false=Qtr c n i:=by simp[Qcy,List.getD,h]
def Qjl(c n j:Nat):List Bool:=(List.range n).map (fun i=>if n-j<=i then Qtr c n i else false)
theorem Qdz(c n j:Nat):(Qjl c n j).length=n:=by simp[Qjl]
theorem Qg6(c n j i:Nat)(h:i<n):(Qjl c n j).getD i false=if n-j<=i then Qtr c n i else false:=by simp[Qjl,List.getD,h]
theorem Xcr{l m:List Bool}(h:l.length=m.length)(he:∀i,i<l.length->l.getD i false=m.getD i false):l=m:=by
 refine List.ext_getElem h (fun i h1 h2=>?_)
 have:=he i h1
 simpa [List.getD,List.getElem?_eq_getElem h1,List.getElem?_eq_getElem h2] using this
theorem Xdi(l:List Bool)(i j:Nat)(v:Bool)(h:i<l.length):(l.set i v).getD j false=if j=i then v else l.getD j false:=by
 simp only[List.getD,List.getElem?_set]
 by_cases e:i=j
 ·subst e;simp[h]
 ·rw[if_neg e,if_neg (fun x=>e x.symm)]
theorem Qw4(c n:Nat):Qjl c n 0=List.replicate n false:=by
 refine Xcr (by simp[Qjl]) (fun i hi=>?_)
 rw[Qdz] at hi
 rw[Qg6 _ _ _ _ hi,if_neg (by omega)]
 simp[List.getD,hi]
theorem Qxl(c n:Nat):Qjl c n n=Qcy c n:=by
 refine Xcr (by simp[Qjl,Qcy]) (fun i hi=>?_)
 rw[Qdz] at hi
 rw[Qg6 _ _ _ _ hi,Qx8 _ _ _ hi,if_pos (by omega)]
theorem Qyz(c n j:Nat)(hj:j<n):(Qjl c n j).set (n-1-j) (c/2^j%2==1)=Qjl c n (j+1):=by
 refine Xcr (by simp[Qjl]) (fun i hi=>?_)
 rw[List.length_set,Qdz] at hi
 rw[Xdi _ _ _ _ (by rw[Qdz];omega),Qg6 _ _ _ _ hi,Qg6 _ _ _ _ hi]
 by_cases e:i=n-1-j
 ·rw[if_pos e,if_pos (by omega)]
  unfold Qtr
  rw[show n-1-i=j from by omega]
 ·rw[if_neg e]
  by_cases h:n-j<=i
  ·rw[if_pos h,if_pos (by omega)]
  ·rw[if_neg h,if_neg (by omega)]
theorem Xid(xs ys:List Bool)(j:Nat)(hj:j<=xs.length):nB (xs++ys) j=nB xs j:=by
 induction j with
 | zero=>rfl
 | succ j ih=>
   rw[nB,nB,ih (by omega)]
   have e:(xs++ys).getD j false=xs.getD j false:=by simp[List.getD,List.getElem?_append_left (show j<xs.length from by omega)]
   rw[e]
theorem Xaj(xs ys:List Bool)(j:Nat):nB (xs++ys) (xs.length+j)=nB xs xs.length*2^j+nB ys j:=by
 induction j with
 | zero=>simp[nB,Xid xs ys xs.length (Nat.le_refl _)]
 | succ j ih=>
   rw[<-Nat.add_assoc,nB,ih]
   have e:(xs++ys).getD (xs.length+j) false=ys.getD j false:=by simp[List.getD,List.getElem?_append_right (show xs.length<=xs.length+j from by omega)]
   rw[e,nB,Nat.pow_succ,Nat.add_mul,Nat.mul_assoc]
   omega
theorem Xkb(i:Nat):Xfm (i+1)=7-i%8:=by
 unfold Xfm;split<;>omega
theorem Qkf(M i:Nat):Qbu M (i+1)=Qex (M*2^(7-i%8)) (8*(i/8+1)):=by
 unfold Qbu
 rw[Xkb,show i+1+(7-i%8)=8*(i/8+1) from by omega]
theorem Qob(N i:Nat)(h:i%8≠0):Qbu (N*2) (i+1)=Qbu N i:=by
 rw[Qkf]
 unfold Qbu Xfm
 rw[if_neg h,show i+(8-i%8)=8*(i/8+1) from by omega,Nat.mul_assoc,show 2*2^(7-i%8)=2^(8-i%8) from by rw[show 8-i%8=(7-i%8)+1 from by omega,Nat.pow_succ];omega]
theorem Xb1(N q:Nat):Qex (N*256) (8*(q+1))=Qex N (8*q)++ [0]:=by
 refine Qvy (by rw[List.length_append,Qbc,Qbc];simp) (fun j hj=>?_)
 rw[Qbc] at hj
 have hq:8*(q+1)/8=q+1:=by omega
 have hq2:8*q/8=q:=by omega
 rw[hq] at hj
 rw[Qc8 _ _ _ (by omega)]
 by_cases h:j<q
 ·have e:(Qex N (8*q)++ [0]).getD j 0=(Qex N (8*q)).getD j 0:=by
   simp[List.getD,List.getElem?_append_left (show j<(Qex N (8*q)).length from by rw[Qbc];omega)]
  rw[e,Qc8 _ _ _ (by omega)]
  have hd:=Xbe N 0 8 (8*q-8*(j+1)) (by decide)
  rw[Nat.add_zero,show 8*q-8*(j+1)+8=8*(q+1)-8*(j+1) from by omega] at hd
  rw[show(256:Nat)=2^8 from rfl,hd]
 ·obtain rfl:j=q:=by omega
  have e:(Qex N (8*j)++ [0]).getD j 0=0:=by
   simp[List.getD,Qbc,hq2]
  rw[e,Nat.sub_self,Nat.pow_zero,Nat.div_one,Nat.mul_mod_left]
  rfl
theorem Qpt(N i:Nat)(h:i%8=0):Qbu (N*2) (i+1)=Qbu N i++ [0]:=by
 rw[Qkf,h,Nat.mul_assoc,show 2*2^(7-0)=256 from rfl,Xb1]
 unfold Qbu Xfm
 rw[if_pos h,Nat.pow_zero,Nat.mul_one,Nat.add_zero,show 8*(i/8)=i from by omega]
theorem Xdo(N k:Nat)(hk:k<8):(N*2+1)*2^(7-k)%256=N*2*2^(7-k)%256+2^(7-k):=by
 match k,hk with
 | 0,_=>omega
 | 1,_=>omega
 | 2,_=>omega
 | 3,_=>omega
 | 4,_=>omega
 | 5,_=>omega
 | 6,_=>omega
 | 7,_=>omega
theorem Xbb(N k e:Nat)(hk:k<8):(N*2+1)*2^(7-k)/2^(e+8)=N*2*2^(7-k)/2^(e+8):=by
 have e2:2^(8-k)=2*2^(7-k):=by rw[show 8-k=(7-k)+1 from by omega,Nat.pow_succ];omega
 have e1:(N*2+1)*2^(7-k)=N*2^(8-k)+2^(7-k):=by rw[Nat.add_mul,e2,Nat.mul_assoc];omega
 have e3:N*2*2^(7-k)=N*2^(8-k)+0:=by rw[e2,Nat.mul_assoc];omega
 rw[e1,e3,show e+8=(e+k)+(8-k) from by omega,Xbe _ _ _ _ (by rw[e2];have:=Nat.two_pow_pos (7-k);omega),Xbe _ _ _ _ (Nat.two_pow_pos _)]
theorem Qkl(N i:Nat):Qbu (N*2+1) (i+1)=(Qbu (N*2) (i+1)).set (i/8) ((Qbu (N*2) (i+1)).getD (i/8) 0+((2^(7-i%8):Nat):Int)):=by
 have hq:8*(i/8+1)/8=i/8+1:=by omega
 refine Qvy (by rw[List.length_set,Qbh,Qbh]) (fun j hj=>?_)
 rw[Qbh] at hj
 have hset:∀(l:List Int) (a b:Nat) (v:Int),a<l.length->(l.set a v).getD b 0=if b=a then v else l.getD b 0:=by
  intro l a b v h
  simp only[List.getD,List.getElem?_set]
  by_cases e:a=b
  ·subst e;simp[h]
  ·rw[if_neg e,if_neg (fun x=>e x.symm)]
 rw[hset _ _ _ _ (by rw[Qbh];omega),Qkf,Qkf,Qc8 _ _ _ (by omega),Qc8 _ _ _ (by omega),Qc8 _ _ _ (by omega)]
 by_cases e:j=i/8
 ·rw[if_pos e,e,Nat.sub_self,Nat.pow_zero,Nat.div_one,Nat.div_one,Xdo N (i%8) (by omega)]
  simp
 ·rw[if_neg e]
  have hh:=Xbb N (i%8) (8*(i/8+1)-8*(j+1)-8) (by omega)
  rw[show 8*(i/8+1)-8*(j+1)-8+8=8*(i/8+1)-8*(j+1) from by omega] at hh
  rw[hh]
end Hf
end
section
namespace Hf
def dvF(N:Nodes):Nat->Nat->Int
 | 0,_=>0
 | f+1,i=>if i+1<N.length then dvF N f (inn N i).toNat+1 else 0
def dv(N:Nodes)(i:Nat):Int:=dvF N N.length i
def Ups(N:Nodes):Prop:=∀i,i+1<N.length->(i:Int)<inn N i∧inn N i<(N.length:Int)
theorem Qvs{N:Nodes}(h:Ups N):∀(f g i:Nat),N.length<=f+i+1->N.length<=g+i+1->dvF N f i=dvF N g i
 | 0,0,_,_,_=>rfl
 | 0,g+1,i,h1,_=>by rw[dvF,dvF,if_neg (by omega)]
 | f+1,0,i,_,h2=>by rw[dvF,dvF,if_neg (by omega)]
 | f+1,g+1,i,h1,h2=>by
   rw[dvF,dvF]
   by_cases hi:i+1<N.length
   ·rw[if_pos hi,if_pos hi]
    have hu:=h i hi
    rw[Qvs h f g _ (by omega) (by omega)]
   ·rw[if_neg hi,if_neg hi]
theorem Qjb{N:Nodes}(h:Ups N)(i:Nat)(hi:i+1<N.length):dv N i=dv N (inn N i).toNat+1:=by
 have hu:=h i hi
 unfold dv
 obtain⟨m,hm⟩:∃m,N.length=m+1:=⟨N.length-1,by omega⟩
 conv=>lhs;rw[hm,dvF,if_pos hi]
 rw[Qvs h m N.length _ (by omega) (by omega)]
theorem Qld(N:Nodes)(i:Nat)(hi:¬i+1<N.length):dv N i=0:=by
 unfold dv
 cases hN:N.length with
 | zero=>rfl
 | succ m=>rw[dvF,if_neg (by omega)]
theorem Xbz(N:Nodes):∀(f i:Nat),0<=dvF N f i∧dvF N f i<=(f:Int)
 | 0,_=>by simp[dvF]
 | f+1,i=>by
   rw[dvF]
   have:=Xbz N f (inn N i).toNat
   split<;>omega
theorem Qny(N:Nodes)(i:Nat):0<=dv N i∧dv N i<=(N.length:Int):=Xbz N _ i
def Qbz(N:Nodes)(j:Nat):List Int:=(List.range N.length).map (fun i=>if j<=i then dv N i else 0)
theorem Qcs(N:Nodes)(j:Nat):(Qbz N j).length=N.length:=by simp[Qbz]
theorem Qc6(N:Nodes)(j i:Nat)(h:i<N.length):(Qbz N j).getD i 0=if j<=i then dv N i else 0:=by
 simp[Qbz,List.getD,h]
theorem Qnl{l m:List Int}(h:l.length=m.length)(he:∀i,i<l.length->l.getD i 0=m.getD i 0):l=m:=by
 refine List.ext_getElem h (fun i h1 h2=>?_)
 have:=he i h1
 simpa [List.getD,List.getElem?_eq_getElem h1,List.getElem?_eq_getElem h2] using this
theorem Qsj(N:Nodes)(j:Nat)(hj:N.length<=j+1):Qbz N j=List.replicate N.length 0:=by
 refine Qnl (by simp[Qbz]) (fun i hi=>?_)
 rw[Qcs] at hi
 rw[Qc6 _ _ _ hi]
 have e:(List.replicate N.length (0:Int)).getD i 0=0:=by simp[List.getD,hi]
 rw[e]
 split
 ·exact Qld N i (by omega)
 ·rfl
theorem Qx5{N:Nodes}(h:Ups N)(j:Nat)(hj:j+1<N.length):(Qbz N (j+1)).set j (dv N (inn N j).toNat+1)=Qbz N j:=by
 refine Qnl (by simp[Qbz]) (fun i hi=>?_)
 rw[List.length_set,Qcs] at hi
 rw[Qb9 _ _ _ _ (by rw[Qcs];omega),Qc6 _ _ _ hi,Qc6 _ _ _ hi]
 by_cases e:i=j
 ·subst e;rw[if_pos rfl,if_pos (Nat.le_refl _),Qjb h i hj]
 ·rw[if_neg e]
  by_cases h2:j<=i
  ·rw[if_pos (by omega),if_pos h2]
  ·rw[if_neg (by omega),if_neg h2]
def Qfg(m:Nat)(sy:List Int)(B:List Int):Nat->List Int
 | 0=>List.replicate m 0
 | k+1=>(Qfg m sy B k).set (sy.getD k 0).toNat (B.getD k 0)
theorem Qb3(m:Nat)(sy B:List Int)(k:Nat):(Qfg m sy B k).length=m:=by
 induction k with
 | zero=>simp[Qfg]
 | succ k ih=>rw[Qfg,List.length_set,ih]
def Qaf(cs:List Int):List Int:=
 if (srt cs).length=1 then (List.replicate cs.length 0).set ((srt cs).getD 0 0).toNat 1
 else Qfg cs.length (srt cs) (Qbz (Qae ((srt cs).map (key cs)) ((srt cs).length-1)).N 0) (srt cs).length
theorem Qkj(ws:List Int)(h:∀i,0<=ws.getD i 0)(hn:2<=ws.length):Ups (Qae ws (ws.length-1)).N∧(Qae ws (ws.length-1)).N.length=2*ws.length-1:=by
 have hI:=TI.run ws h (ws.length-1) (by omega)
 have hl:=hI.len
 refine⟨fun i hi=>?_,by omega⟩
 have h1:=hI.ln
 have h2:=hI.np
 have h3:=hI.cnt
 have h4:=hI.last (by omega)
 have:=hI.par i (by omega)
 rw[hl]
 exact this
end Hf
end
section
namespace Hf
def Qsc(g:Nat->Int):Nat->Nat->Int
 | _,0=>0
 | i,k+1=>g i+Qsc g (i+1) k
theorem Qlh(g:Nat->Int):∀(k i:Nat),Qsc g i (k+1)=Qsc g i k+g (i+k)
 | 0,i=>by simp[Qsc]
 | k+1,i=>by
   rw[Qsc,Qlh g k (i+1),Qsc]
   rw[show i+1+k=i+(k+1) from by omega]
   omega
def Qmc(n len:Nat)(g:Nat->Int)(l p:Nat):Int:=Qsc g l (n-l)+Qsc g p (len-p)
theorem Qm6(g:Nat->Int){n:Nat}{N:Nodes}{l p:Nat}(ln:l<=n)(np:n<=p)(pl:p<=N.length)(hfree:0<(n-l)+(N.length-p)):
 Qmc n N.length g l p=g (takeA n N l p)+Qmc n N.length g (Qa0 n N l p) (Qay n N l p):=by
 obtain⟨_,_,_,_,_,_,h⟩:=take_one (n:=n) (N:=N) (l:=l) (p:=p) ln np pl hfree
 unfold Qmc
 rcases h with ⟨h1,h2,h3,h4⟩ | ⟨h1,h2,h3,h4⟩
 ·rw[h1,h3,h4,show n-l=(n-(l+1))+1 from by omega,Qsc];omega
 ·rw[h1,h3,h4,show N.length-p=(N.length-(p+1))+1 from by omega,Qsc];omega
theorem Qf3{n:Nat}{C:Int}{t:Nat}{s:TS}(h:TI n C t s)(ht:t+2<=n):
 (∀i,(i<s.l∨(n<=i∧i<s.p))->inn (Qcc n s).N i=inn s.N i)∧inn (Qcc n s).N (Qfb n s)=(s.N.length:Int)∧inn (Qcc n s).N (Qfe n s)=(s.N.length:Int) ∧
 (∀i,i<s.N.length->wt (Qcc n s).N i=wt s.N i)∧wt (Qcc n s).N s.N.length=wt s.N (Qfb n s)+wt s.N (Qfe n s):=by
 have hlen:=h.len
 have hln:=h.ln
 have hnp:=h.np
 have hpl:=h.pl
 have hcnt:=h.cnt
 obtain⟨a1,a2,a3,a4,a5,_,a7⟩:=take_one (n:=n) (N:=s.N) (l:=s.l) (p:=s.p) h.ln h.np (by omega) (by omega)
 obtain⟨b1,b2,b3,b4,b5,_,b7⟩:=take_one (n:=n) (N:=s.N) (l:=Qa0 n s.N s.l s.p) (p:=Qay n s.N s.l s.p) a2 a3 a4 (by omega)
 have hA:Qfb n s=takeA n s.N s.l s.p:=rfl
 have hB:Qfe n s=takeA n s.N (Qa0 n s.N s.l s.p) (Qay n s.N s.l s.p):=rfl
 rw[<-hA] at a1 a7
 rw[<-hB] at b1 b7
 have hN2:(Qcc n s).N=Qcg (Qcg s.N (Qfb n s) (s.N.length:Int)) (Qfe n s) (s.N.length:Int)++ [(wt s.N (Qfb n s)+wt s.N (Qfe n s),0)]:=rfl
 generalize Qfb n s=A at *
 generalize Qfe n s=B at *
 generalize Qa0 n s.N s.l s.p=l1 at *
 generalize Qay n s.N s.l s.p=p1 at *
 have hM:(Qcg (Qcg s.N A (s.N.length:Int)) B (s.N.length:Int)).length=s.N.length:=by rw[Qbj,Qbj]
 have hin:∀i,i<s.N.length->inn (Qcc n s).N i=if i=B then (s.N.length:Int) else if i=A then (s.N.length:Int) else inn s.N i:=fun i hi=>by
  rw[hN2,Xcq _ _ _ (by rw[hM];exact hi),Qik _ _ _ _ (by rw[Qbj];exact b1),Qik _ _ _ _ a1]
 refine⟨fun i hi=>?_,?_,?_,fun j hj=>?_,?_⟩
 ·rw[hin i (by omega),if_neg (by omega),if_neg (by omega)]
 ·rw[hin A a1]
  by_cases e:A=B
  ·rw[if_pos e]
  ·rw[if_neg e,if_pos rfl]
 ·rw[hin B b1,if_pos rfl]
 ·rw[hN2,Xac _ _ _ (by rw[hM];exact hj),Qez,Qez]
 ·rw[hN2]
  have:=Xa3 (Qcg (Qcg s.N A (s.N.length:Int)) B (s.N.length:Int)) (wt s.N A+wt s.N B,0)
  rw[hM] at this
  exact this
theorem Xa6(ws:List Int)(h:∀i,0<=ws.getD i 0):∀(k t:Nat),t+k+1=ws.length->∀i,(i<(Qae ws t).l∨(ws.length<=i∧i<(Qae ws t).p))->inn (Qae ws (ws.length-1)).N i=inn (Qae ws t).N i
 | 0,t,ht,i,_=>by rw[show ws.length-1=t from by omega]
 | k+1,t,ht,i,hi=>by
   have hI:=TI.run ws h t (by omega)
   have hs:=Qf3 hI (by omega)
   obtain⟨a1,a2,a3,a4,a5,_,a7⟩:=take_one (n:=ws.length) (N:=(Qae ws t).N) (l:=(Qae ws t).l) (p:=(Qae ws t).p) hI.ln hI.np (by rw[hI.len];exact hI.pl) (by have:=hI.len;have:=hI.cnt;have:=hI.ln;have:=hI.pl;omega)
   obtain⟨b1,b2,b3,b4,b5,_,b7⟩:=take_one (n:=ws.length) (N:=(Qae ws t).N) (l:=Qa0 ws.length (Qae ws t).N (Qae ws t).l (Qae ws t).p) (p:=Qay ws.length (Qae ws t).N (Qae ws t).l (Qae ws t).p) a2 a3 a4 (by have:=hI.len;have:=hI.cnt;have:=hI.ln;have:=hI.pl;omega)
   have e1:(Qae ws (t+1)).l=Qa0 ws.length (Qae ws t).N (Qa0 ws.length (Qae ws t).N (Qae ws t).l (Qae ws t).p) (Qay ws.length (Qae ws t).N (Qae ws t).l (Qae ws t).p):=rfl
   have e2:(Qae ws (t+1)).p=Qay ws.length (Qae ws t).N (Qa0 ws.length (Qae ws t).N (Qae ws t).l (Qae ws t).p) (Qay ws.length (Qae ws t).N (Qae ws t).l (Qae ws t).p):=rfl
   rw[Xa6 ws h k (t+1) (by omega) i (by rw[e1,e2];omega)]
   exact hs.1 i hi
theorem Xex(ws:List Int)(h:∀i,0<=ws.getD i 0)(t:Nat)(ht:t+2<=ws.length)(g:Nat->Int):
 ∃A B,Qmc ws.length (ws.length+t) g (Qae ws t).l (Qae ws t).p+g (ws.length+t)=g A+g B+Qmc ws.length (ws.length+(t+1)) g (Qae ws (t+1)).l (Qae ws (t+1)).p ∧
  inn (Qae ws (ws.length-1)).N A=((ws.length+t:Nat):Int)∧inn (Qae ws (ws.length-1)).N B=((ws.length+t:Nat):Int)∧A<ws.length+t∧B<ws.length+t:=by
 have hI:=TI.run ws h t (by omega)
 have hs:=Qf3 hI (by omega)
 have hlen:=hI.len
 obtain⟨a1,a2,a3,a4,a5,_,a7⟩:=take_one (n:=ws.length) (N:=(Qae ws t).N) (l:=(Qae ws t).l) (p:=(Qae ws t).p) hI.ln hI.np (by rw[hI.len];exact hI.pl) (by have:=hI.cnt;have:=hI.ln;have:=hI.pl;omega)
 have hf1:=Qm6 g (n:=ws.length) (N:=(Qae ws t).N) (l:=(Qae ws t).l) (p:=(Qae ws t).p) hI.ln hI.np (by rw[hI.len];exact hI.pl) (by have:=hI.cnt;have:=hI.ln;have:=hI.pl;omega)
 obtain⟨b1,b2,b3,b4,b5,_,b7⟩:=take_one (n:=ws.length) (N:=(Qae ws t).N) (l:=Qa0 ws.length (Qae ws t).N (Qae ws t).l (Qae ws t).p) (p:=Qay ws.length (Qae ws t).N (Qae ws t).l (Qae ws t).p) a2 a3 a4 (by have:=hI.cnt;have:=hI.ln;have:=hI.pl;omega)
 have hf2:=Qm6 g (n:=ws.length) (N:=(Qae ws t).N) (l:=Qa0 ws.length (Qae ws t).N (Qae ws t).l (Qae ws t).p) (p:=Qay ws.length (Qae ws t).N (Qae ws t).l (Qae ws t).p) a2 a3 a4 (by have:=hI.cnt;have:=hI.ln;have:=hI.pl;omega)
 have e1:(Qae ws (t+1)).l=Qa0 ws.length (Qae ws t).N (Qa0 ws.length (Qae ws t).N (Qae ws t).l (Qae ws t).p) (Qay ws.length (Qae ws t).N (Qae ws t).l (Qae ws t).p):=rfl
 have e2:(Qae ws (t+1)).p=Qay ws.length (Qae ws t).N (Qa0 ws.length (Qae ws t).N (Qae ws t).l (Qae ws t).p) (Qay ws.length (Qae ws t).N (Qae ws t).l (Qae ws t).p):=rfl
 have hA:Qfb ws.length (Qae ws t)=takeA ws.length (Qae ws t).N (Qae ws t).l (Qae ws t).p:=rfl
 have hB:Qfe ws.length (Qae ws t)=takeA ws.length (Qae ws t).N (Qa0 ws.length (Qae ws t).N (Qae ws t).l (Qae ws t).p) (Qay ws.length (Qae ws t).N (Qae ws t).l (Qae ws t).p):=rfl
 rw[<-hA] at hf1 a1 a7
 rw[<-hB] at hf2 b1 b7
 rw[<-e1,<-e2] at hf2
 rw[<-e2] at b3 b4
 rw[<-e1,<-e2] at b7
 rw[hlen] at hf1 hf2 a1 b1 b4 b7
 have hend:=Xa6 ws h (ws.length-1-(t+1)) (t+1) (by omega)
 have tA:Qfb ws.length (Qae ws t)<(Qae ws (t+1)).l∨(ws.length<=Qfb ws.length (Qae ws t)∧Qfb ws.length (Qae ws t)<(Qae ws (t+1)).p):=by
  have h1:=hI.np
  clear hs hf1 hf2 hend e1 e2 hA hB
  generalize Qfb ws.length (Qae ws t)=A at *
  generalize Qfe ws.length (Qae ws t)=B at *
  generalize Qa0 ws.length (Qae ws t).N (Qae ws t).l (Qae ws t).p=l1 at *
  generalize Qay ws.length (Qae ws t).N (Qae ws t).l (Qae ws t).p=p1 at *
  omega
 have tB:Qfe ws.length (Qae ws t)<(Qae ws (t+1)).l∨(ws.length<=Qfe ws.length (Qae ws t)∧Qfe ws.length (Qae ws t)<(Qae ws (t+1)).p):=by
  have h1:=hI.np
  clear hs hf1 hf2 hend e1 e2 hA hB
  generalize Qfb ws.length (Qae ws t)=A at *
  generalize Qfe ws.length (Qae ws t)=B at *
  generalize Qa0 ws.length (Qae ws t).N (Qae ws t).l (Qae ws t).p=l1 at *
  generalize Qay ws.length (Qae ws t).N (Qae ws t).l (Qae ws t).p=p1 at *
  omega
 refine⟨Qfb ws.length (Qae ws t),Qfe ws.length (Qae ws t),?_,?_,?_,a1,b1⟩
 ·have e3:Qmc ws.length (ws.length+(t+1)) g (Qae ws (t+1)).l (Qae ws (t+1)).p=Qmc ws.length (ws.length+t) g (Qae ws (t+1)).l (Qae ws (t+1)).p+g (ws.length+t):=by
   unfold Qmc
   rw[show ws.length+(t+1)-(Qae ws (t+1)).p=(ws.length+t-(Qae ws (t+1)).p)+1 from by omega,Qlh,show(Qae ws (t+1)).p+(ws.length+t-(Qae ws (t+1)).p)=ws.length+t from by omega]
   omega
  rw[e3,hf1,hf2];omega
 ·have:=hs.2.1
  rw[hlen] at this
  rw[hend (Qfb ws.length (Qae ws t)) tA]
  exact this
 ·have:=hs.2.2.1
  rw[hlen] at this
  rw[hend (Qfe ws.length (Qae ws t)) tB]
  exact this
def shr(M:Nat)(N:Nodes)(i:Nat):Int:=2^(M-(dv N i).toNat)
theorem Qp6{N:Nodes}(hu:Ups N)(M i:Nat)(hi:i+1<N.length)(hM:N.length<=M):shr M N (inn N i).toNat=2*shr M N i:=by
 have h1:=Qjb hu i hi
 have h2:=Qny N i
 have h3:=Qny N (inn N i).toNat
 unfold shr
 rw[show M-(dv N (inn N i).toNat).toNat=(M-(dv N i).toNat)+1 from by omega,Int.pow_succ]
 omega
theorem Qyh(ws:List Int)(h:∀i,0<=ws.getD i 0)(hn:2<=ws.length)(M:Nat)(hM:2*ws.length<=M):∀(k t:Nat),t+k+1=ws.length->Qmc ws.length (ws.length+t) (shr M (Qae ws (ws.length-1)).N) (Qae ws t).l (Qae ws t).p=2^M:=by
 obtain⟨hu,hl⟩:=Qkj ws h hn
 intro k
 induction k with
 | zero=>
   intro t ht
   have hI:=TI.run ws h t (by omega)
   have h1:=hI.ln
   have h2:=hI.np
   have h3:=hI.pl
   have h4:=hI.cnt
   have h5:=hI.last (by omega)
   unfold Qmc
   rw[show ws.length-(Qae ws t).l=0 from by omega,show ws.length+t-(Qae ws t).p=1 from by omega]
   rw[Qsc,Qsc,Qsc]
   unfold shr
   rw[Qld _ _ (by rw[hl];omega)]
   simp
 | succ k ih=>
   intro t ht
   obtain⟨A,B,e,hA,hB,lA,lB⟩:=Xex ws h t (by omega) (shr M (Qae ws (ws.length-1)).N)
   rw[ih (t+1) (by omega)] at e
   have cA:=Qp6 hu M A (by rw[hl];omega) (by rw[hl];omega)
   have cB:=Qp6 hu M B (by rw[hl];omega) (by rw[hl];omega)
   rw[hA,Int.toNat_natCast] at cA
   rw[hB,Int.toNat_natCast] at cB
   omega
theorem Xlx(ws:List Int)(h:∀i,0<=ws.getD i 0)(hn:2<=ws.length)(M:Nat)(hM:2*ws.length<=M):Qsc (shr M (Qae ws (ws.length-1)).N) 0 ws.length=2^M:=by
 have:=Qyh ws h hn M hM (ws.length-1) 0 (by omega)
 unfold Qmc at this
 have e1:(Qae ws 0).l=0:=rfl
 have e2:(Qae ws 0).p=ws.length:=rfl
 rw[e1,e2,Nat.sub_zero,Nat.add_zero,Nat.sub_self,Qsc] at this
 omega
end Hf
end
end Go.Proofs.YtibjlbcnapoblaaGreatDoor
