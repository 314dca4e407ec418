/- Contracts and facts. -/
import Derived.Laws.BitsAllLaws
namespace Go.Proofs.YtibjlbcnapoblaaGreatDoor
set_option maxRecDepth 100000
set_option maxHeartbeats 6400000
section
namespace Hf
def cnt(zs:List Int)(l:Nat):Nat:=if l=0 then 0 else zs.countP (fun z=>z==(l:Int))
def tal(zs:List Int):List Nat:=(List.range 16).map (cnt zs)
theorem Xel(zs:List Int):cnt zs 0=0:=by simp[cnt]
theorem Ql0(zs:List Int)(l:Nat):cnt zs l<=zs.length:=by
 unfold cnt;split
 ·omega
 ·exact List.countP_le_length
theorem Qa4(zs:List Int):(tal zs).length=16:=by simp[tal]
theorem Qcq(zs:List Int)(l:Nat)(h:l<16):(tal zs).getD l 0=cnt zs l:=by
 simp[tal,List.getD,h]
theorem Qhi(zs:List Int)(z:Int)(l:Nat):cnt (zs++ [z]) l=cnt zs l+(if l≠0∧z=(l:Int) then 1 else 0):=by
 unfold cnt
 by_cases h:l=0
 ·simp[h]
 ·simp only[h,if_false,List.countP_append,List.countP_singleton,ne_eq,not_false_eq_true,true_and]
  by_cases h2:z=(l:Int)
  ·simp[h2]
  ·simp[h2]
theorem Xh2:tal []=List.replicate 16 0:=by decide
theorem Qbc{l m:List Nat}(h:l.length=m.length)(he:∀i,i<l.length->l.getD i 0=m.getD i 0):l=m:=by
 refine List.ext_getElem h (fun i h1 h2=>?_)
 have:=he i h1
 simpa [List.getD,List.getElem?_eq_getElem h1,List.getElem?_eq_getElem h2] using this
theorem Qo8(l:List Nat)(i j v:Nat)(h:i<l.length):(l.set i v).getD j 0=if j=i then v else l.getD j 0:=by
 simp only[List.getD,List.getElem?_set]
 by_cases e:i=j
 ·subst e;simp[h]
 ·rw[if_neg e,if_neg (fun x=>e x.symm)]
theorem Xgp(zs:List Int)(l:Nat)(h0:0<l)(h:l<16):tal (zs++ [(l:Int)])=(tal zs).set l (cnt zs l+1):=by
 refine Qbc (by simp[Qa4]) (fun i hi=>?_)
 rw[Qa4] at hi
 rw[Qcq _ _ hi,Qo8 _ _ _ _ (by rw[Qa4];exact h),Qcq _ _ hi,Qhi]
 by_cases e:i=l
 ·subst e;simp;omega
 ·rw[if_neg e,if_neg (by omega)];rfl
theorem Qy9(zs:List Int)(z:Int)(h:z<=0):tal (zs++ [z])=tal zs:=by
 refine Qbc (by simp[Qa4]) (fun i hi=>?_)
 rw[Qa4] at hi
 rw[Qcq _ _ hi,Qcq _ _ hi,Qhi,if_neg (by omega)];rfl
def Qgj(zs:List Int):Nat->Nat
 | 0=>0
 | k+1=>Qgj zs k+cnt zs k*2^(15-k)
theorem Xjc(zs:List Int)(k:Nat):Qgj zs k<=k*(zs.length*32768):=by
 induction k with
 | zero=>simp[Qgj]
 | succ k ih=>
   have h1:=Ql0 zs k
   have h2:2^(15-k)<=2^15:=Nat.pow_le_pow_right (by decide) (by omega)
   have h3:cnt zs k*2^(15-k)<=zs.length*32768:=Nat.mul_le_mul h1 (by simpa using h2)
   rw[Qgj,Nat.add_mul];omega
def z16:List Nat:=List.replicate 16 0
theorem Qou(i:Nat):z16.getD i 0=0:=by
 by_cases h:i<16
 ·have:∀i,i<16->z16.getD i 0=0:=by decide
  exact this i h
 ·have:z16[i]?=none:=List.getElem?_eq_none (by simp[z16];omega)
  simp[List.getD,this]
def Qm6:List Nat:=0::1::List.replicate 14 0
def Qhl(zs:List Int):Bool:=decide (zs.length<=512)&&zs.all (fun z=>decide (0<=z)&&decide (z<=15))
def okT(zs:List Int):Bool:=Qgj zs 16==32768||tal zs==z16||tal zs==Qm6
def Qal(zs:List Int):Bool:=Qhl zs&&okT zs
def Qb8(zs:List Int):Int:=if Qal zs then 0 else 51
def first(zs:List Int):Nat->Nat
 | 0=>0
 | k+1=>(first zs k+cnt zs k)*2
theorem Xgm(zs:List Int)(k:Nat):first zs k+2*zs.length<=zs.length*2^(k+1):=by
 induction k with
 | zero=>simp[first];omega
 | succ k ih=>
   have h1:=Ql0 zs k
   rw[first,Nat.pow_succ 2 (k+1),<-Nat.mul_assoc]
   omega
theorem Qh2(zs:List Int)(k:Nat)(hk:k<16)(hl:zs.length<=520):first zs k+zs.length<=34078720:=by
 have h:=Xgm zs k
 have h2:2^(k+1)<=2^16:=Nat.pow_le_pow_right (by decide) (by omega)
 have h3:zs.length*2^(k+1)<=520*65536:=Nat.mul_le_mul hl (by simpa using h2)
 omega
def Qdj(zs:List Int)(k:Nat):List Nat:=(List.range 16).map (fun l=>if l<k then first zs l else 0)
theorem Qc4(zs:List Int)(k:Nat):(Qdj zs k).length=16:=by simp[Qdj]
theorem Qfk(zs:List Int)(k l:Nat)(h:l<16):(Qdj zs k).getD l 0=if l<k then first zs l else 0:=by
 simp[Qdj,List.getD,h]
theorem Xbd(zs:List Int):Qdj zs 1=z16:=by
 refine Qbc (by simp[Qdj,z16]) (fun i hi=>?_)
 rw[Qc4] at hi
 rw[Qfk _ _ _ hi]
 rw[Qou]
 by_cases h:i<1
 ·obtain rfl:i=0:=by omega
  simp[first]
 ·simp[h]
theorem Xcc(zs:List Int)(k:Nat)(h0:0<k)(h:k<16):(Qdj zs k).set k ((first zs (k-1)+cnt zs (k-1))*2)=Qdj zs (k+1):=by
 have e:(first zs (k-1)+cnt zs (k-1))*2=first zs k:=by
  conv=>rhs;rw[show k=(k-1)+1 from by omega,first]
 rw[e]
 refine Qbc (by simp[Qdj]) (fun i hi=>?_)
 rw[List.length_set,Qc4] at hi
 rw[Qo8 _ _ _ _ (by rw[Qc4];exact h),Qfk _ _ _ hi,Qfk _ _ _ hi]
 by_cases e:i=k
 ·subst e;simp
 ·rw[if_neg e]
  by_cases h2:i<k
  ·rw[if_pos h2,if_pos (by omega)]
  ·rw[if_neg h2,if_neg (by omega)]
def Qhx(zs:List Int)(k:Nat):List Nat:=(List.range 16).map (fun l=>first zs l+cnt (zs.take k) l)
theorem Qd1(zs:List Int)(k:Nat):(Qhx zs k).length=16:=by simp[Qhx]
theorem Qdq(zs:List Int)(k l:Nat)(h:l<16):(Qhx zs k).getD l 0=first zs l+cnt (zs.take k) l:=by
 simp[Qhx,List.getD,h]
theorem Qxj(zs:List Int):Qhx zs 0=Qdj zs 16:=by
 refine Qbc (by simp[Qdj,Qhx]) (fun i hi=>?_)
 rw[Qd1] at hi
 rw[Qdq _ _ _ hi,Qfk _ _ _ hi,if_pos hi]
 simp[cnt]
theorem Qbo(zs:List Int)(k:Nat)(hk:k<zs.length):zs.take (k+1)=zs.take k++ [zs.getD k 0]:=by
 rw[List.take_succ_eq_append_getElem hk]
 simp[List.getD,List.getElem?_eq_getElem hk]
theorem Qy8(zs:List Int)(k l:Nat)(hk:k<zs.length)(hz:zs.getD k 0=(l:Int))(h0:0<l)(h:l<16):(Qhx zs k).set l (first zs l+cnt (zs.take k) l+1)=Qhx zs (k+1):=by
 refine Qbc (by simp[Qhx]) (fun i hi=>?_)
 rw[List.length_set,Qd1] at hi
 rw[Qo8 _ _ _ _ (by rw[Qd1];exact h),Qdq _ _ _ hi,Qdq _ _ _ hi,Qbo zs k hk,hz,Qhi]
 by_cases e:i=l
 ·subst e;rw[if_pos rfl,if_pos ⟨by omega,rfl⟩];omega
 ·rw[if_neg e,if_neg (by omega)];rfl
theorem Qxv(zs:List Int)(k:Nat)(hk:k<zs.length)(hz:zs.getD k 0<=0):Qhx zs (k+1)=Qhx zs k:=by
 refine Qbc (by simp[Qhx]) (fun i hi=>?_)
 rw[Qd1] at hi
 rw[Qdq _ _ _ hi,Qdq _ _ _ hi,Qbo zs k hk,Qhi,if_neg (by omega)];rfl
def Qbt(zs:List Int)(s:Nat):Nat:=first zs (zs.getD s 0).toNat+cnt (zs.take s) (zs.getD s 0).toNat
def codeF(zs:List Int)(s:Nat):Int:=if 0<zs.getD s 0 then ((Qbt zs s%65536:Nat):Int) else 0
def Qaj(zs:List Int):List Int:=(List.range zs.length).map (codeF zs)
theorem Qaq(zs:List Int):(Qaj zs).length=zs.length:=by simp[Qaj]
theorem Qdk(zs:List Int)(s:Nat)(h:s<zs.length):(Qaj zs).getD s 0=codeF zs s:=by
 simp[Qaj,List.getD,h]
theorem Xcg(zs:List Int)(s:Nat):0<=codeF zs s∧codeF zs s<=65535:=by
 unfold codeF;split
 ·have:=Nat.mod_lt (Qbt zs s) (show 0<65536 by decide);omega
 ·omega
theorem Qc5(zs:List Int)(j:Nat):0<=(Qaj zs).getD j 0∧(Qaj zs).getD j 0<=65535:=by
 by_cases h:j<zs.length
 ·rw[Qdk zs j h];exact Xcg zs j
 ·have:(Qaj zs)[j]?=none:=List.getElem?_eq_none (by rw[Qaq];omega)
  simp[List.getD,this]
def Qj6(zs:List Int):Nat:=(zs.map (fun z=>if 0<z then 2^(15-z.toNat) else 0)).sum
def Qdf(zs:List Int):Nat:=zs.countP (fun z=>decide (0<z))
def Qm0(zs:List Int):Nat:=zs.countP (fun z=>z==1)
theorem Qra(zs:List Int)(z:Int):Qj6 (zs++ [z])=Qj6 zs+(if 0<z then 2^(15-z.toNat) else 0):=by
 simp[Qj6]
theorem Qxn(zs:List Int)(z:Int):Qdf (zs++ [z])=Qdf zs+(if 0<z then 1 else 0):=by
 simp[Qdf,List.countP_append,List.countP_singleton]
theorem Qzn(zs:List Int)(z:Int):Qm0 (zs++ [z])=Qm0 zs+(if z=1 then 1 else 0):=by
 simp[Qm0,List.countP_append,List.countP_singleton]
theorem Xjr(zs:List Int):Qj6 zs<=zs.length*32768:=by
 induction zs with
 | nil=>simp[Qj6]
 | cons z l ih=>
   have h2:2^(15-z.toNat)<=2^15:=Nat.pow_le_pow_right (by decide) (by omega)
   have h2':2^(15-z.toNat)<=32768:=by simpa using h2
   simp only[Qj6,List.map_cons,List.sum_cons,List.length_cons,Nat.add_mul] at ih|-
   split<;>omega
theorem Xbn(zs:List Int)(z:Int)(k:Nat):Qgj (zs++ [z]) k=Qgj zs k+(if 0<z∧z.toNat<k then 2^(15-z.toNat) else 0):=by
 induction k with
 | zero=>simp[Qgj]
 | succ k ih=>
   rw[Qgj,Qgj,ih,Qhi]
   by_cases h:k≠0∧z=(k:Int)
   ·have h3:0<z∧z.toNat<k+1:=by omega
    have h4:¬(0<z∧z.toNat<k):=by omega
    have h5:z.toNat=k:=by omega
    rw[if_pos h,if_neg h4,if_pos h3,h5,Nat.add_mul];omega
   ·rw[if_neg h]
    by_cases h2:0<z∧z.toNat<k
    ·rw[if_pos h2,if_pos ⟨h2.1,by omega⟩,Nat.add_zero];omega
    ·rw[if_neg h2,if_neg (by omega)];rfl
theorem Xez(k:Nat):Qgj [] k=0:=by
 induction k with
 | zero=>rfl
 | succ k ih=>rw[Qgj,ih];simp[cnt]
theorem Xfr{p:List Int->Prop}(h0:p [])(h1:∀l z,p l->p (l++ [z]))(zs:List Int):p zs:=by
 have h:∀n,p (zs.take n):=by
  intro n
  induction n with
  | zero=>simpa using h0
  | succ n ih=>
    by_cases hn:n<zs.length
    ·rw[Qbo zs n hn];exact h1 _ _ ih
    ·rw[List.take_of_length_le (by omega)];rw[List.take_of_length_le (by omega)] at ih;exact ih
 simpa using h zs.length
theorem Qqq(zs:List Int)(h:∀z∈zs,0<=z∧z<=15):Qgj zs 16=Qj6 zs:=by
 revert h
 refine Xfr (p:=fun zs=>(∀z∈zs,0<=z∧z<=15)->Qgj zs 16=Qj6 zs) (fun _=>by rw[Xez];rfl) (fun l z ih h=>?_) zs
 have hz:=h z (by simp)
 rw[Xbn,Qra,ih (fun y hy=>h y (by simp[hy]))]
 by_cases h0:0<z
 ·rw[if_pos ⟨h0,by omega⟩,if_pos h0]
 ·rw[if_neg (by omega),if_neg h0]
theorem Xd2(zs:List Int)(l:Nat):cnt zs l<=Qdf zs:=by
 unfold cnt Qdf
 split
 ·omega
 ·refine List.countP_mono_left (fun z _ hz=>?_)
  have:z=(l:Int):=by simpa using hz
  simp;omega
theorem Qj1(zs:List Int)(h:∀z∈zs,0<=z∧z<=15):(tal zs==z16)=(Qdf zs==0):=by
 rw[Bool.eq_iff_iff,beq_iff_eq,beq_iff_eq]
 constructor
 ·intro e
  unfold Qdf
  rw[List.countP_eq_zero]
  intro z hz hpos
  have hpos':0<z:=by simpa using hpos
  have hr:=h z hz
  have hc:cnt zs z.toNat=0:=by
   rw[<-Qcq zs z.toNat (by omega),e,Qou]
  unfold cnt at hc
  rw[if_neg (by omega),List.countP_eq_zero] at hc
  exact hc z hz (by simp;omega)
 ·intro e
  refine Qbc (by simp[Qa4,z16]) (fun i hi=>?_)
  rw[Qa4] at hi
  rw[Qcq zs i hi]
  have:=Xd2 zs i
  rw[Qou];omega
theorem Qrd(zs:List Int)(h:∀z∈zs,0<=z∧z<=15):(tal zs==Qm6)=(Qdf zs==1&&Qm0 zs==1):=by
 have hone:cnt zs 1=Qm0 zs:=by unfold cnt Qm0;simp
 have hsp:Qdf zs=Qm0 zs+zs.countP (fun z=>decide (1<z)):=by
  unfold Qdf Qm0
  clear hone h
  induction zs with
  | nil=>rfl
  | cons z l ih=>
    rw[List.countP_cons,List.countP_cons,List.countP_cons,ih]
    by_cases h1:1<z
    ·simp[h1,show 0<z from by omega,show ¬z=1 from by omega];omega
    ·by_cases h2:z=1
     ·subst h2;simp;omega
     ·simp[h1,h2,show ¬0<z from by omega]
 rw[Bool.eq_iff_iff,beq_iff_eq,Bool.and_eq_true,beq_iff_eq,beq_iff_eq]
 constructor
 ·intro e
  have h1:Qm0 zs=1:=by rw[<-hone,<-Qcq zs 1 (by decide),e];rfl
  have h2:zs.countP (fun z=>decide (1<z))=0:=by
   rw[List.countP_eq_zero]
   intro z hz hpos
   have hpos':1<z:=by simpa using hpos
   have hr:=h z hz
   have hc:cnt zs z.toNat=0:=by
    rw[<-Qcq zs z.toNat (by omega),e]
    have:∀i,i<16->1<i->Qm6.getD i 0=0:=by decide
    exact this _ (by omega) (by omega)
   unfold cnt at hc
   rw[if_neg (by omega),List.countP_eq_zero] at hc
   exact hc z hz (by simp;omega)
  omega
 ·rintro ⟨h1,h2⟩
  have h3:zs.countP (fun z=>decide (1<z))=0:=by omega
  refine Qbc (by simp[Qa4,Qm6]) (fun i hi=>?_)
  rw[Qa4] at hi
  rw[Qcq zs i hi]
  by_cases e0:i=0
  ·subst e0;rw[Xel];rfl
  ·by_cases e1:i=1
   ·subst e1;rw[hone,h2];rfl
   ·have:∀i,i<16->1<i->Qm6.getD i 0=0:=by decide
    rw[this i hi (by omega)]
    unfold cnt
    rw[if_neg e0,List.countP_eq_zero]
    intro z hz hzi
    rw[List.countP_eq_zero] at h3
    have:z=(i:Int):=by simpa using hzi
    exact h3 z hz (by simp;omega)
theorem Qb1{zs:List Int}(h:Qhl zs=true):zs.length<=512∧∀z∈zs,0<=z∧z<=15:=by
 unfold Qhl at h
 rw[Bool.and_eq_true,decide_eq_true_eq,List.all_eq_true] at h
 exact⟨h.1,fun z hz=>by simpa using h.2 z hz⟩
def okR(zs:List Int):Bool:=(Qdf zs==0||(Qdf zs==1&&Qm0 zs==1))||Qj6 zs==32768
theorem Xjp{zs:List Int}(h:Qhl zs=true):okR zs=okT zs:=by
 have ha:=(Qb1 h).2
 unfold okR okT
 rw[Qqq zs ha,Qj1 zs ha,Qrd zs ha]
 cases (Qj6 zs==32768)<;>cases (Qdf zs==0)<;>cases (Qdf zs==1&&Qm0 zs==1)<;>rfl
end Hf
end
/-
 Repetitions as lists: how many bytes are alike, the longest copy, the tokens of a row. Plain mathematics.
-/
namespace Lz
def com(bs:List Int):Nat->Nat->Nat->Nat
 | _,_,0=>0
 | p,q,k+1=>if bs.getD p 0=bs.getD q 0 then com bs (p+1) (q+1) k+1 else 0
theorem Qy0(bs:List Int):∀k p q,com bs p q k<=k
 | 0,_,_=>Nat.le_refl _
 | k+1,p,q=>by
   unfold com
   have:=Qy0 bs k (p+1) (q+1)
   split<;>omega
theorem Qu8(bs:List Int):∀k p q j,j<com bs p q k->bs.getD (p+j) 0=bs.getD (q+j) 0
 | 0,_,_,j,h=>absurd h (by simp[com])
 | k+1,p,q,j,h=>by
   unfold com at h
   split at h
   ·rename_i e
    cases j with
    | zero=>simpa using e
    | succ j=>
      have:=Qu8 bs k (p+1) (q+1) j (by omega)
      rw[show p+(j+1)=p+1+j from by omega,show q+(j+1)=q+1+j from by omega]
      exact this
   ·omega
theorem Qve(bs:List Int):∀k p q,com bs p q k<k->bs.getD (p+com bs p q k) 0≠bs.getD (q+com bs p q k) 0
 | 0,_,_,h=>absurd h (by omega)
 | k+1,p,q,h=>by
   unfold com at h|-
   split at h
   ·rename_i e
    rw[if_pos e]
    have:=Qve bs k (p+1) (q+1) (by omega)
    rw[show p+(com bs (p+1) (q+1) k+1)=p+1+com bs (p+1) (q+1) k from by omega,show q+(com bs (p+1) (q+1) k+1)=q+1+com bs (p+1) (q+1) k from by omega]
    exact this
   ·rename_i e
    rw[if_neg e]
    exact e
def better(bs:List Int)(q k:Nat)(s:Nat×Nat)(p:Nat):Nat×Nat:=if s.2<com bs p q k then (q-p,com bs p q k) else s
def best(bs:List Int)(q k:Nat)(ps:List Nat):Nat×Nat:=ps.foldl (better bs q k) (0,3)
def most(bs:List Int)(q:Nat):Nat:=min (bs.length-q) 258
def Good(q k:Nat)(s:Nat×Nat):Prop:=(s.1=0∧s.2=3)∨(1<=s.1∧s.1<=q∧4<=s.2∧s.2<=k)
theorem Qs8{bs:List Int}{q k:Nat}{s:Nat×Nat}(h:Good q k s){p:Nat}(hp:p<q):Good q k (better bs q k s p):=by
 unfold better
 split
 ·rename_i hlt
  have:=Qy0 bs k p q
  refine .inr ⟨by simp;omega,by simp,?_,this⟩
  rcases h with ⟨_,h2⟩ | ⟨_,_,h2,_⟩<;>simp<;>omega
 ·exact h
theorem Qrc{bs:List Int}{q k:Nat}:∀(ps:List Nat) (s:Nat×Nat),Good q k s->(∀p∈ps,p<q)->Good q k (ps.foldl (better bs q k) s)
 | [],_,h,_=>h
 | p::ps,s,h,hp=>Qrc ps _ (Qs8 h (hp p (by simp))) (fun x hx=>hp x (by simp[hx]))
theorem Xck{bs:List Int}{q k:Nat}{ps:List Nat}(hp:∀p∈ps,p<q):Good q k (best bs q k ps):=Qrc ps _ (.inl ⟨rfl,rfl⟩) hp
abbrev Tok:=Nat×Nat×Int
def Xic(bs:List Int)(q:Nat)(s:Nat×Nat):Tok:=if s.1=0 then (0,1,bs.getD q 0) else (s.1,s.2,0)
def Qn5(q:Nat):List Nat:=(List.range (min q 4096)).map fun j=>q-1-j
theorem Qnh{q p:Nat}(h:p∈Qn5 q):p<q∧q-p<=4096:=by
 unfold Qn5 at h
 rw[List.mem_map] at h
 obtain⟨j,hj,rfl⟩:=h
 rw[List.mem_range] at hj
 omega
def Qe9(bs:List Int)(q:Nat):Tok:=Xic bs q (best bs q (most bs q) (Qn5 q))
def Xle(bs:List Int)(p q:Nat):Bool:=bs.getD p 0==bs.getD q 0&&(bs.getD (p+1) 0==bs.getD (q+1) 0&&(bs.getD (p+2) 0==bs.getD (q+2) 0&&bs.getD (p+3) 0==bs.getD (q+3) 0))
theorem Qxy(bs:List Int)(q:Nat):Good q (most bs q) (best bs q (most bs q) (Qn5 q)):=Xck fun _ hp=>(Qnh hp).1
theorem Ql8(bs:List Int)(q:Nat)(h:q<bs.length):1<=(Qe9 bs q).2.1∧q+(Qe9 bs q).2.1<=bs.length∧(Qe9 bs q).2.1<=258:=by
 have hg:=Qxy bs q
 have hm:most bs q<=bs.length-q∧most bs q<=258:=by unfold most;omega
 unfold Qe9 Xic
 rcases hg with ⟨h1,h2⟩ | ⟨h1,h2,h3,h4⟩
 ·rw[if_pos h1];simp;omega
 ·rw[if_neg (by omega)];simp;omega
def tks(bs:List Int):Nat->Nat->List Tok
 | 0,_=> []
 | n+1,q=>if q<bs.length then Qe9 bs q::tks bs n (q+(Qe9 bs q).2.1) else []
def Qhr(bs:List Int):List Tok:=tks bs bs.length 0
theorem Ql3{bs:List Int}{q:Nat}(h:¬q<bs.length):∀n,tks bs n q= []
 | 0=>rfl
 | n+1=>by unfold tks;rw[if_neg h]
theorem Qwa{bs:List Int}:∀(n q:Nat),bs.length-q<=n->tks bs (n+1) q=tks bs n q
 | 0,q,h=>by rw[Ql3 (by omega),Ql3 (by omega)]
 | n+1,q,h=>by
   by_cases hq:q<bs.length
   ·have:=Ql8 bs q hq
    rw[show tks bs (n+1+1) q=if q<bs.length then Qe9 bs q::tks bs (n+1) (q+(Qe9 bs q).2.1) else [] from rfl,show tks bs (n+1) q=if q<bs.length then Qe9 bs q::tks bs n (q+(Qe9 bs q).2.1) else [] from rfl,if_pos hq,if_pos hq,Qwa n _ (by omega)]
   ·rw[Ql3 hq,Ql3 hq]
def from_(bs:List Int)(q:Nat):List Tok:=tks bs (bs.length-q) q
theorem Qvg{bs:List Int}(q:Nat):∀d,tks bs (bs.length-q+d) q=from_ bs q
 | 0=>rfl
 | d+1=>by rw[show bs.length-q+(d+1)=bs.length-q+d+1 from by omega,Qwa _ _ (by omega)];exact Qvg q d
theorem Qmu{bs:List Int}{q:Nat}(h:q<bs.length):from_ bs q=Qe9 bs q::from_ bs (q+(Qe9 bs q).2.1):=by
 have hl:=Ql8 bs q h
 have e:bs.length-q=(bs.length-q-1)+1:=by omega
 unfold from_
 rw[e]
 rw[show tks bs (bs.length-q-1+1) q=if q<bs.length then Qe9 bs q::tks bs (bs.length-q-1) (q+(Qe9 bs q).2.1) else [] from rfl,if_pos h]
 congr 1
 have:=Qvg (bs:=bs) (q+(Qe9 bs q).2.1) (bs.length-q-1-(bs.length-(q+(Qe9 bs q).2.1)))
 rw[show bs.length-(q+(Qe9 bs q).2.1)+(bs.length-q-1-(bs.length-(q+(Qe9 bs q).2.1)))=bs.length-q-1 from by omega] at this
 exact this
theorem Qkv{bs:List Int}{q:Nat}(h:¬q<bs.length):from_ bs q= []:=Ql3 h _
theorem Qhg(bs:List Int):Qhr bs=from_ bs 0:=by unfold Qhr from_;rfl
def nxt(bs:List Int)(q:Nat):Nat->Nat
 | 0=>0
 | m+1=>if Xle bs m q then m+1 else nxt bs q m
def chain(bs:List Int)(q:Nat):Nat->List Nat
 | 0=> []
 | m+1=>if Xle bs m q=true∧q-m<=4096 then m::chain bs q m else chain bs q m
end Lz
/-
 SHA-256 as plain mathematics over natural numbers: a step, the padding, the digest.
-/
namespace Sh.Sha
def Qyg(x:Nat):Nat:=x/2+x%2*2147483648
def iter(f:Nat->Nat):Nat->Nat->Nat
 | 0,x=>x
 | n+1,x=>iter f n (f x)
theorem Qme(f:Nat->Nat)(x:Nat):iter f 0 x=x:=rfl
theorem Qls(f:Nat->Nat)(n x:Nat):iter f (n+1) x=iter f n (f x):=rfl
theorem Xay(f:Nat->Nat)(B:Nat)(hf:∀x,x<B->f x<B)(n:Nat):∀x:Nat,x<B->iter f n x<B:=by
 induction n with
 | zero=>intro x h;exact h
 | succ n ih=>intro x h;exact ih (f x) (hf x h)
def Xbh(x:Nat):Nat:=x/2
def Qhf(n x:Nat):Nat:=iter Qyg n x
def Qpx(n x:Nat):Nat:=iter Xbh n x
def sg0(x:Nat):Nat:=Qhf 7 x^^^Qhf 18 x^^^Qpx 3 x
def sg1(x:Nat):Nat:=Qhf 17 x^^^Qhf 19 x^^^Qpx 10 x
def up0(x:Nat):Nat:=Qhf 2 x^^^Qhf 13 x^^^Qhf 22 x
def up1(x:Nat):Nat:=Qhf 6 x^^^Qhf 11 x^^^Qhf 25 x
def add32(a b:Nat):Nat:=(a+b)%4294967296
def be4(bl:List Nat)(i:Nat):Nat:=add32 (add32 (add32 (bl.getD (4*i) 0*16777216%4294967296) (bl.getD (4*i+1) 0*65536%4294967296)) (bl.getD (4*i+2) 0*256%4294967296)) (bl.getD (4*i+3) 0)
def next(bl l:List Nat):Nat:=
 if l.length<16 then be4 bl l.length
 else add32 (add32 (add32 (l.getD (l.length-16) 0) (sg0 (l.getD (l.length-15) 0))) (l.getD (l.length-7) 0)) (sg1 (l.getD (l.length-2) 0))
def sched(bl:List Nat):Nat->List Nat
 | 0=> []
 | n+1=>sched bl n++ [next bl (sched bl n)]
def kL:List Nat:= [0x428a2f98,0x71374491,0xb5c0fbcf,0xe9b5dba5,0x3956c25b,0x59f111f1,0x923f82a4,0xab1c5ed5,
 0xd807aa98,0x12835b01,0x243185be,0x550c7dc3,0x72be5d74,0x80deb1fe,0x9bdc06a7,0xc19bf174,
 0xe49b69c1,0xefbe4786,0x0fc19dc6,0x240ca1cc,0x2de92c6f,0x4a7484aa,0x5cb0a9dc,0x76f988da,
 0x983e5152,0xa831c66d,0xb00327c8,0xbf597fc7,0xc6e00bf3,0xd5a79147,0x06ca6351,0x14292967,
 0x27b70a85,0x2e1b2138,0x4d2c6dfc,0x53380d13,0x650a7354,0x766a0abb,0x81c2c92e,0x92722c85,
 0xa2bfe8a1,0xa81a664b,0xc24b8b70,0xc76c51a3,0xd192e819,0xd6990624,0xf40e3585,0x106aa070,
 0x19a4c116,0x1e376c08,0x2748774c,0x34b0bcb5,0x391c0cb3,0x4ed8aa4a,0x5b9cca4f,0x682e6ff3,
 0x748f82ee,0x78a5636f,0x84c87814,0x8cc70208,0x90befffa,0xa4506ceb,0xbef9a3f7,0xc67178f2]
structure St where
 a:Nat
 b:Nat
 c:Nat
 d:Nat
 e:Nat
 f:Nat
 g:Nat
 h:Nat
def St.list(s:St):List Nat:= [s.a,s.b,s.c,s.d,s.e,s.f,s.g,s.h]
def t1F(s:St)(k w:Nat):Nat:=add32 (add32 (add32 (add32 s.h (up1 s.e)) ((s.e&&&s.f)^^^((s.e^^^4294967295)&&&s.g))) k) w
def t2F(s:St):Nat:=add32 (up0 s.a) ((s.a&&&s.b)^^^(s.a&&&s.c)^^^(s.b&&&s.c))
def rnd(s:St)(k w:Nat):St:=⟨add32 (t1F s k w) (t2F s),s.a,s.b,s.c,add32 s.d (t1F s k w),s.e,s.f,s.g⟩
def rounds(ws:List Nat)(s:St):Nat->St
 | 0=>s
 | n+1=>rnd (rounds ws s n) (kL.getD n 0) (ws.getD n 0)
def both(s t:St):St:=⟨add32 s.a t.a,add32 s.b t.b,add32 s.c t.c,add32 s.d t.d,add32 s.e t.e,add32 s.f t.f,add32 s.g t.g,add32 s.h t.h⟩
def step(s:St)(bl:List Nat):St:=both (rounds (sched bl 64) s 64) s
def start:St:=⟨0x6a09e667,0xbb67ae85,0x3c6ef372,0xa54ff53a,0x510e527f,0x9b05688c,0x1f83d9ab,0x5be0cd19⟩
/-! The bounds -/
theorem Qcj(a b:Nat):add32 a b<2^32:=Nat.mod_lt _ (by decide)
theorem Qun(x:Nat)(h:x<2^32):Qyg x<2^32:=by unfold Qyg;omega
theorem Qtj(x:Nat)(h:x<2^32):Xbh x<2^32:=by unfold Xbh;omega
theorem Qa8(n x:Nat)(h:x<2^32):Qhf n x<2^32:=Xay Qyg (2^32) Qun n x h
theorem Qoy(n x:Nat)(h:x<2^32):Qpx n x<2^32:=Xay Xbh (2^32) Qtj n x h
theorem Xgx(x:Nat)(h:x<2^32):sg0 x<2^32:=by
 unfold sg0
 exact Nat.xor_lt_two_pow (Nat.xor_lt_two_pow (Qa8 _ _ h) (Qa8 _ _ h)) (Qoy _ _ h)
theorem Xhj(x:Nat)(h:x<2^32):sg1 x<2^32:=by
 unfold sg1
 exact Nat.xor_lt_two_pow (Nat.xor_lt_two_pow (Qa8 _ _ h) (Qa8 _ _ h)) (Qoy _ _ h)
theorem Xlm(x:Nat)(h:x<2^32):up0 x<2^32:=by
 unfold up0
 exact Nat.xor_lt_two_pow (Nat.xor_lt_two_pow (Qa8 _ _ h) (Qa8 _ _ h)) (Qa8 _ _ h)
theorem Xkk(x:Nat)(h:x<2^32):up1 x<2^32:=by
 unfold up1
 exact Nat.xor_lt_two_pow (Nat.xor_lt_two_pow (Qa8 _ _ h) (Qa8 _ _ h)) (Qa8 _ _ h)
theorem Qbg(bl:List Nat)(n:Nat):(sched bl n).length=n:=by
 induction n with
 | zero=>rfl
 | succ n ih=>rw[sched,List.length_append,ih];rfl
theorem next_lt(bl l:List Nat):next bl l<2^32:=by
 unfold next
 split
 ·exact Qcj _ _
 ·exact Qcj _ _
structure St.Ok (s:St):Prop where
 a:s.a<2^32
 b:s.b<2^32
 c:s.c<2^32
 d:s.d<2^32
 e:s.e<2^32
 f:s.f<2^32
 g:s.g<2^32
 h:s.h<2^32
theorem Xkx(s:St)(k w:Nat)(h:s.Ok):(rnd s k w).Ok:=⟨Qcj _ _,h.a,h.b,h.c,Qcj _ _,h.e,h.f,h.g⟩
theorem Qry(ws:List Nat)(s:St)(h:s.Ok)(n:Nat):(rounds ws s n).Ok:=by
 induction n with
 | zero=>exact h
 | succ n ih=>exact Xkx _ _ _ ih
theorem Xhw(s t:St):(both s t).Ok:=⟨Qcj _ _,Qcj _ _,Qcj _ _,Qcj _ _,Qcj _ _,Qcj _ _,Qcj _ _,Qcj _ _⟩
theorem step_ok(s:St)(bl:List Nat):(step s bl).Ok:=Xhw _ _
theorem Qoh:start.Ok:=⟨by decide,by decide,by decide,by decide,by decide,by decide,by decide,by decide⟩
/-! The digest -/
def Qe5(f:St->List Nat->St):Nat->List Nat->St->St
 | 0,_,s=>s
 | n+1,l,s=>Qe5 f n (l.drop 64) (f s (l.take 64))
theorem Qj7(f:St->List Nat->St)(l:List Nat)(s:St):Qe5 f 0 l s=s:=rfl
theorem Qc6(f:St->List Nat->St)(n:Nat)(l:List Nat)(s:St):Qe5 f (n+1) l s=Qe5 f n (l.drop 64) (f s (l.take 64)):=rfl
theorem Qw7(f:St->List Nat->St)(hf:∀s l,(f s l).Ok)(n:Nat):∀(l:List Nat) (s:St),s.Ok->(Qe5 f n l s).Ok:=by
 induction n with
 | zero=>intro l s h;exact h
 | succ n ih=>intro l s h;rw[Qc6];exact ih _ _ (hf _ _)
def blocks(n:Nat)(l:List Nat)(s:St):St:=Qe5 step n l s
theorem Qlf(n:Nat)(l:List Nat)(s:St)(h:s.Ok):(blocks n l s).Ok:=Qw7 step step_ok n l s h
def pad(n:Nat):List Nat:=128::List.replicate ((119-n%64)%64) 0++(List.range 8).map fun i=>(8*n)%2^64/256^(7-i)%256
def four(x:Nat):List Nat:= [x/16777216%256,x/65536%256,x/256%256,x%256]
def bytes(s:St):List Nat:=four s.a++four s.b++four s.c++four s.d++four s.e++four s.f++four s.g++four s.h
def digest(l:List Nat):List Nat:=bytes (blocks ((l++pad l.length).length/64) (l++pad l.length) start)
end Sh.Sha
/-
 SHA-256 in a form that the kernel can reckon with: each number is reckoned once.
-/
namespace Sh.Sha
def force{α:Type}(x:Nat)(f:Nat->α):α:=Nat.rec (f 0) (fun n _=>f n.succ) x
def Qpw(n x:Nat):Nat:=x/2^n+x%2^n*2^(32-n)
theorem Xa2(n x:Nat)(hn:n<32)(_hx:x<2^32):Qpw n (Qyg x)=Qpw (n+1) x:=by
 have hp:(2:Nat)^(32-n)=2*2^(31-n):=by rw[<-Nat.pow_succ',show(31-n).succ=32-n from by omega]
 have hq:(2:Nat)^31=2^n*2^(31-n):=by rw[<-Nat.pow_add,show n+(31-n)=31 from by omega]
 have hn0:(0:Nat)<2^n:=Nat.two_pow_pos n
 have e1:Qyg x=x/2+2^n*(x%2*2^(31-n)):=by
  unfold Qyg
  rw[show(2147483648:Nat)=2^31 from rfl,hq,<-Nat.mul_assoc,<-Nat.mul_assoc,Nat.mul_comm (x%2) (2^n)]
 unfold Qpw
 rw[e1,Nat.add_mul_div_left _ _ hn0,Nat.add_mul_mod_self_left,Nat.div_div_eq_div_mul,<-Nat.pow_succ',hp,show 32-(n+1)=31-n from by omega]
 have e2:x%2^(n+1)=x%2+2*(x/2%2^n):=by rw[Nat.pow_succ',Nat.mod_mul]
 rw[e2,Nat.add_mul]
 have e3:x/2%2^n*(2*2^(31-n))=2*(x/2%2^n)*2^(31-n):=by rw[<-Nat.mul_assoc,Nat.mul_comm _ 2]
 rw[e3,Nat.add_assoc]
theorem Qnk(f:Nat->Nat)(Q:Nat->Nat->Nat)(B M:Nat)(h0:∀x,Q 0 x=x)(hf:∀x,x<B->f x<B)(hs:∀n x,n<M->x<B->Q n (f x)=Q (n+1) x)(n:Nat):∀x:Nat,n<=M->x<B->iter f n x=Q n x:=by
 induction n with
 | zero=>intro x _ _;rw[h0,Qme]
 | succ n ih=>intro x hn hx;rw[Qls,ih _ (by omega) (hf x hx),hs n x (by omega) hx]
theorem Xap(x:Nat):Qpw 0 x=x:=by unfold Qpw;rw[Nat.pow_zero,Nat.div_one,Nat.mod_one,Nat.zero_mul,Nat.add_zero]
theorem Qfq(n x:Nat)(hn:n<=32)(hx:x<2^32):Qhf n x=Qpw n x:=Qnk Qyg Qpw (2^32) 32 Xap Qun Xa2 n x hn hx
theorem Xf3(n x:Nat):Xbh x/2^n=x/2^(n+1):=by unfold Xbh;rw[Nat.div_div_eq_div_mul,<-Nat.pow_succ']
theorem Qi9(n x:Nat)(hn:n<=32)(hx:x<2^32):Qpx n x=x/2^n:=Qnk Xbh (fun n x=>x/2^n) (2^32) 32 (fun x=>by rw[Nat.pow_zero,Nat.div_one]) Qtj (fun n x _ _=>Xf3 n x) n x hn hx
def Xlu(x:Nat):Nat:=Qpw 7 x^^^Qpw 18 x^^^x/2^3
def Xlt(x:Nat):Nat:=Qpw 17 x^^^Qpw 19 x^^^x/2^10
def Xmh(x:Nat):Nat:=Qpw 2 x^^^Qpw 13 x^^^Qpw 22 x
def Xmc(x:Nat):Nat:=Qpw 6 x^^^Qpw 11 x^^^Qpw 25 x
theorem Qru(x:Nat)(h:x<2^32):sg0 x=Xlu x:=by rw[sg0,Xlu,Qfq _ _ (by decide) h,Qfq _ _ (by decide) h,Qi9 _ _ (by decide) h]
theorem Qrb(x:Nat)(h:x<2^32):sg1 x=Xlt x:=by rw[sg1,Xlt,Qfq _ _ (by decide) h,Qfq _ _ (by decide) h,Qi9 _ _ (by decide) h]
def wS(bl:List Nat)(i:Nat):Nat:=next bl (sched bl i)
theorem Qeo(bl:List Nat)(n i:Nat)(h:i<n):(sched bl n).getD i 0=wS bl i:=by
 induction n with
 | zero=>omega
 | succ n ih=>
   rw[sched]
   by_cases hi:i<n
   ·rw[<-ih hi]
    simp[List.getD,List.getElem?_append_left (show i<(sched bl n).length from by rw[Qbg];exact hi)]
   ·have:i=n:=by omega
    subst this
    have hl:=Qbg bl i
    simp[List.getD,wS,hl]
theorem Qhy(bl:List Nat)(i:Nat):wS bl i<2^32:=next_lt _ _
theorem Xhm(bl:List Nat)(i:Nat)(h:i<16):wS bl i=be4 bl i:=by
 rw[wS,next,Qbg,if_pos h]
theorem Xix(bl:List Nat)(i:Nat):wS bl (i+16)=add32 (add32 (add32 (wS bl i) (Xlu (wS bl (i+1)))) (wS bl (i+9))) (Xlt (wS bl (i+14))):=by
 rw[<-Qru _ (Qhy _ _),<-Qrb _ (Qhy _ _)]
 rw[show wS bl (i+16)=next bl (sched bl (i+16)) from rfl,next,Qbg,if_neg (by omega)]
 rw[Qeo _ _ _ (show i+16-16<i+16 by omega),Qeo _ _ _ (show i+16-15<i+16 by omega),Qeo _ _ _ (show i+16-7<i+16 by omega),Qeo _ _ _ (show i+16-2<i+16 by omega)]
 rfl
def t1Q(e f g h k w:Nat):Nat:=add32 (add32 (add32 (add32 h (Xmc e)) ((e&&&f)^^^((e^^^4294967295)&&&g))) k) w
def t2Q(a b c:Nat):Nat:=add32 (Xmh a) ((a&&&b)^^^(a&&&c)^^^(b&&&c))
structure Win where
 w0:Nat
 w1:Nat
 w2:Nat
 w3:Nat
 w4:Nat
 w5:Nat
 w6:Nat
 w7:Nat
 w8:Nat
 w9:Nat
 w10:Nat
 w11:Nat
 w12:Nat
 w13:Nat
 w14:Nat
 w15:Nat
def go:List Nat->Win->St->St
 | [],_,s=>s
 | k::ks,⟨w0,w1,w2,w3,w4,w5,w6,w7,w8,w9,w10,w11,w12,w13,w14,w15⟩,⟨a,b,c,d,e,f,g,h⟩=>
   force (add32 (add32 (add32 w0 (Xlu w1)) w9) (Xlt w14)) fun wn=>
   force (t1Q e f g h k w0) fun t1=>
   force (add32 t1 (t2Q a b c)) fun a'=>
   force (add32 d t1) fun e'=>
   go ks ⟨w1,w2,w3,w4,w5,w6,w7,w8,w9,w10,w11,w12,w13,w14,w15,wn⟩ ⟨a',a,b,c,e',e,f,g⟩
end Sh.Sha
/-
 Plain facts on bits that are put into bytes.
-/
section
namespace Hf
def Qex(N n:Nat):List Int:=(List.range (n/8)).map (fun i=>((N/2^(n-8*(i+1))%256:Nat):Int))
theorem Qa6(N n:Nat):(Qex N n).length=n/8:=by simp[Qex]
theorem Qc8(N n i:Nat)(h:i<n/8):(Qex N n).getD i 0=((N/2^(n-8*(i+1))%256:Nat):Int):=by
 simp[Qex,List.getD,h]
theorem Xcf(N n j:Nat):0<=(Qex N n).getD j 0∧(Qex N n).getD j 0<=255:=by
 by_cases h:j<n/8
 ·rw[Qc8 N n j h]
  have:=Nat.mod_lt (N/2^(n-8*(j+1))) (show 0<256 by decide)
  omega
 ·have:(Qex N n)[j]?=none:=List.getElem?_eq_none (by rw[Qa6];omega)
  simp[List.getD,this]
theorem Qqc{l m:List Int}(h:l.length=m.length)(he:∀i,i<l.length->l.getD i 0=m.getD i 0):l=m:=by
 refine List.ext_getElem h (fun i h1 h2=>?_)
 have:=he i h1
 simpa [List.getD,List.getElem?_eq_getElem h1,List.getElem?_eq_getElem h2] using this
theorem Xa6(N c len e:Nat)(hc:c<2^len):(N*2^len+c)/2^(e+len)=N/2^e:=by
 rw[Nat.add_comm e len,Nat.pow_add,<-Nat.div_div_eq_div_mul,Nat.mul_comm N,Nat.mul_add_div (Nat.two_pow_pos len),Nat.div_eq_of_lt hc,Nat.add_zero]
end Hf
end
/-
 Plain facts on codes, and on symbols as bits.
-/
section
namespace Hf
theorem Qxt(zs:List Int)(k:Nat)(hk:k<=15):first zs k*2^(15-k)=Qgj zs k:=by
 induction k with
 | zero=>simp[first,Qgj]
 | succ k ih=>
   have ih:=ih (by omega)
   rw[first,Qgj,<-ih,Nat.mul_assoc,show 2*2^(15-(k+1))=2^(15-k) from by rw[show 15-k=(15-(k+1))+1 from by omega,Nat.pow_succ];omega,Nat.add_mul]
theorem Xbo(zs:List Int)(k n:Nat):Qgj zs k<=Qgj zs (k+n):=by
 induction n with
 | zero=>exact Nat.le_refl _
 | succ n ih=>rw[<-Nat.add_assoc,Qgj];omega
theorem Qvz(zs:List Int)(l:List Nat)(h:tal zs=l)(k:Nat)(hk:k<=16):Qgj zs k=((List.range k).map (fun i=>l.getD i 0*2^(15-i))).sum:=by
 induction k with
 | zero=>rfl
 | succ k ih=>
   rw[Qgj,ih (by omega),List.range_succ,List.map_append,List.sum_append,<-h]
   simp only[List.map_cons,List.map_nil,List.sum_cons,List.sum_nil,Nat.add_zero,Qcq zs k (show k<16 by omega)]
theorem Xgn{zs:List Int}(h:Qal zs=true):Qgj zs 16<=32768:=by
 unfold Qal okT at h
 rw[Bool.and_eq_true,Bool.or_eq_true,Bool.or_eq_true,beq_iff_eq,beq_iff_eq,beq_iff_eq] at h
 rcases h.2 with (h | h) | h
 ·omega
 ·rw[Qvz zs _ h 16 (Nat.le_refl _)];decide
 ·rw[Qvz zs _ h 16 (Nat.le_refl _)];decide
theorem Qj5{zs:List Int}(h:Qal zs=true)(l:Nat)(hl:l<=15):first zs l+cnt zs l<=2^l:=by
 have h1:(first zs l+cnt zs l)*2^(15-l)=Qgj zs (l+1):=by rw[Nat.add_mul,Qxt zs l hl,Qgj]
 have h2:=Xbo zs (l+1) (16-(l+1))
 rw[show l+1+(16-(l+1))=16 from by omega] at h2
 have h3:=Xgn h
 have h4:(first zs l+cnt zs l)*2^(15-l)<=2^l*2^(15-l):=by
  rw[h1,<-Nat.pow_add,show l+(15-l)=15 from by omega];omega
 exact Nat.le_of_mul_le_mul_right h4 (Nat.two_pow_pos _)
theorem Qm2(p:Int->Bool)(zs:List Int)(s:Nat)(hs:s<zs.length)(h:p (zs.getD s 0)=true):(zs.take s).countP p<zs.countP p:=by
 have e:zs.countP p=(zs.take s).countP p+(zs.drop s).countP p:=by
  rw[<-List.countP_append,List.take_append_drop]
 have e2:zs.drop s=zs.getD s 0::zs.drop (s+1):=by
  rw[List.drop_eq_getElem_cons hs]
  simp[List.getD,List.getElem?_eq_getElem hs]
 rw[e,e2,List.countP_cons,if_pos h]
 omega
theorem Qes(zs:List Int)(s l:Nat)(hs:s<zs.length)(hz:zs.getD s 0=(l:Int))(h0:0<l):cnt (zs.take s) l<cnt zs l:=by
 unfold cnt
 rw[if_neg (by omega),if_neg (by omega)]
 exact Qm2 _ zs s hs (by rw[hz];simp)
theorem Qi4{zs:List Int}(h:Qal zs=true)(s l:Nat)(hs:s<zs.length)(hz:zs.getD s 0=(l:Int))(h0:0<l)(hl:l<=15):Qbt zs s<2^l:=by
 have h1:=Qj5 h l hl
 have h2:=Qes zs s l hs hz h0
 unfold Qbt
 rw[hz,Int.toNat_natCast]
 omega
def has(zs:List Int)(s:Int):Bool:=decide (0<=s)&&decide (s<(zs.length:Int))&&zs.getD s.toNat 0 != 0
def Xfd(n:Nat):Nat:=if n%8=0 then 0 else 8-n%8
def Qbw(N n:Nat):List Int:=Qex (N*2^Xfd n) (n+Xfd n)
theorem Qgz(N n j:Nat):0<=(Qbw N n).getD j 0∧(Qbw N n).getD j 0<=255:=Xcf _ _ _
theorem Qbr(N n:Nat):(Qbw N n).length=(n+7)/8:=by
 unfold Qbw Xfd
 rw[Qa6]
 split<;>omega
end Hf
end
/-
 Plain facts on how codes are found in bits.
-/
section
namespace Hf
def Quk(b:List Int)(i:Nat):Nat:=(b.getD (i/8) 0).toNat/2^(7-i%8)%2
theorem Qol(b:List Int)(i:Nat):Quk b i<2:=Nat.mod_lt _ (by decide)
def vb(b:List Int)(at':Nat):Nat->Nat
 | 0=>0
 | l+1=>vb b at' l*2+Quk b (at'+l)
theorem Xi1(b:List Int)(at' l:Nat):vb b at' l<2^l:=by
 induction l with
 | zero=>simp[vb]
 | succ l ih=>
   have:=Qol b (at'+l)
   rw[vb,Nat.pow_succ];omega
def plc(zs:List Int):Nat->Nat
 | 0=>0
 | l+1=>plc zs l+cnt zs l
def Xmg(zs b:List Int)(at':Nat):Nat->Nat->Int×Int
 | 0,_=>(0,0)
 | f+1,l=>if l<16∧at'+l<=8*b.length then (if vb b at' l<first zs l+cnt zs l then ((plc zs l:Int)+(vb b at' l:Int)-(first zs l:Int),(l:Int)) else Xmg zs b at' f (l+1)) else (0,0)
def who(zs:List Int)(l c:Nat):Option Nat:=(List.range zs.length).find? (fun s=>zs.getD s 0==(l:Int)&&Qbt zs s==c)
def oneG(zs b:List Int)(at':Nat):Nat->Nat->Int×Int
 | 0,_=>(-1,0)
 | f+1,l=>if l<16∧at'+l<=8*b.length then (match who zs l (vb b at' l) with | some s=>((s:Int),(l:Int)) | none=>oneG zs b at' f (l+1)) else (-1,0)
def Qed(zs b:List Int)(at':Nat):Int×Int:=oneG zs b at' 16 1
theorem Qf2(zs:List Int)(s l:Nat)(h:zs.getD s 0=(l:Int)):Qbt zs s=first zs l+cnt (zs.take s) l:=by
 unfold Qbt;rw[h,Int.toNat_natCast]
theorem Qi1(zs:List Int)(l s t:Nat)(h0:0<l)(hs:s<t)(ht:t<=zs.length)(hz:zs.getD s 0=(l:Int)):cnt (zs.take s) l<cnt (zs.take t) l:=by
 have e:(zs.take t).take s=zs.take s:=by rw[List.take_take,Nat.min_eq_left (by omega)]
 rw[<-e]
 refine Qes (zs.take t) s l (by rw[List.length_take];omega) ?_ h0
 rw[<-hz]
 simp[List.getD,List.getElem?_take_of_lt hs]
theorem code_inj(zs:List Int)(l s t:Nat)(h0:0<l)(hs:s<zs.length)(ht:t<zs.length)(h1:zs.getD s 0=(l:Int))(h2:zs.getD t 0=(l:Int))(he:Qbt zs s=Qbt zs t):s=t:=by
 rw[Qf2 zs s l h1,Qf2 zs t l h2] at he
 rcases Nat.lt_trichotomy s t with h | h | h
 ·have:=Qi1 zs l s t h0 h (by omega) h1;omega
 ·exact h
 ·have:=Qi1 zs l t s h0 h (by omega) h2;omega
theorem Qvr{zs:List Int}{l c s:Nat}(h0:0<l)(hs:s<zs.length)(hz:zs.getD s 0=(l:Int))(hc:Qbt zs s=c):who zs l c=some s:=by
 unfold who
 cases hf:(List.range zs.length).find? (fun s=>zs.getD s 0==(l:Int)&&Qbt zs s==c) with
 | none=>
   rw[List.find?_eq_none] at hf
   exact absurd (by rw[hz,hc];simp) (hf s (by simpa using hs))
 | some t=>
   have h1:=List.find?_some hf
   have h2:=List.mem_of_find?_eq_some hf
   rw[Bool.and_eq_true,beq_iff_eq,beq_iff_eq] at h1
   rw[code_inj zs l t s h0 (by simpa using h2) hs h1.1 hz (by rw[h1.2,hc])]
theorem Qu6{zs:List Int}{l c:Nat}(h:∀s,s<zs.length->zs.getD s 0=(l:Int)->Qbt zs s≠c):who zs l c=none:=by
 unfold who
 rw[List.find?_eq_none]
 intro s hs hb
 rw[Bool.and_eq_true,beq_iff_eq,beq_iff_eq] at hb
 exact h s (by simpa using hs) hb.1 hb.2
end Hf
end
/-
 Plain facts on the tree of a code, as codec grows it.
-/
section
namespace Hf
theorem Xef(zs:List Int)(l d:Nat):(first zs l+cnt zs l)*2^(d+1)<=first zs (l+d+1):=by
 induction d with
 | zero=>rw[first];simp
 | succ d ih=>
   rw[Nat.pow_succ,<-Nat.mul_assoc,show l+(d+1)+1=(l+d+1)+1 from by omega,first]
   exact Nat.mul_le_mul_right 2 (Nat.le_trans ih (Nat.le_add_right _ _))
theorem Xgt{zs:List Int}(s t l m:Nat)(hs:s<zs.length)(ht:t<zs.length)(hst:s≠t)(h1:zs.getD s 0=(l:Int))(h2:zs.getD t 0=(m:Int))(h0:0<l)(hlm:l<=m)(e:Qbt zs s=Qbt zs t/2^(m-l)):False:=by
 by_cases hlm2:l=m
 ·subst hlm2
  rw[Nat.sub_self,Nat.pow_zero,Nat.div_one] at e
  exact hst (code_inj zs l s t h0 hs ht h1 h2 e)
 ·have d1:=Qf2 zs s l h1
  have d2:=Qes zs s l hs h1 h0
  have d3:=Qf2 zs t m h2
  have d4:=Xef zs l (m-l-1)
  rw[show m-l-1+1=m-l from by omega,show l+(m-l-1)+1=m from by omega] at d4
  have d6:first zs l+cnt zs l<=Qbt zs t/2^(m-l):=by
   rw[Nat.le_div_iff_mul_le (Nat.two_pow_pos _)]
   omega
  omega
abbrev Tr:=List (Int×Int)
def ent(T:Tr)(i b:Nat):Int:=if b=0 then (T.getD i (0,0)).1 else (T.getD i (0,0)).2
def Qmw(T:Tr)(i b:Nat)(x:Int):Tr:=T.set i (if b=0 then (x,(T.getD i (0,0)).2) else ((T.getD i (0,0)).1,x))
def Qcz(s:Nat)(c:Nat):Nat->Nat->Tr->Tr
 | 0,at_,T=>Qmw T at_ (c%2) (-(s:Int)-1)
 | m+1,at_,T=>if ent T at_ (c/2^(m+1)%2)=0 then Qcz s c m T.length (Qmw T at_ (c/2^(m+1)%2) (T.length:Int)++ [(0,0)]) else Qcz s c m (ent T at_ (c/2^(m+1)%2)).toNat T
theorem Qa1(T:Tr)(i b:Nat)(x:Int):(Qmw T i b x).length=T.length:=by simp[Qmw]
theorem Qei(T:Tr)(i b:Nat)(x:Int)(hi:i<T.length)(j d:Nat)(hb:b<2)(hd:d<2):ent (Qmw T i b x) j d=if j=i∧d=b then x else ent T j d:=by
 unfold ent Qmw
 by_cases e:j=i
 ·subst e
  have h1:(T.set j (if b=0 then (x,(T.getD j (0,0)).2) else ((T.getD j (0,0)).1,x))).getD j (0,0)=(if b=0 then (x,(T.getD j (0,0)).2) else ((T.getD j (0,0)).1,x)):=by simp[List.getD,hi]
  rw[h1]
  by_cases eb:b=0
  ·subst eb
   by_cases ed:d=0
   ·subst ed;simp
   ·simp[ed]
  ·by_cases ed:d=0
   ·subst ed
    have:¬0=b:=fun q=>eb q.symm
    simp[eb,this]
   ·have:d=b:=by omega
    subst this
    simp[ed]
 ·have h1:(T.set i (if b=0 then (x,(T.getD i (0,0)).2) else ((T.getD i (0,0)).1,x))).getD j (0,0)=T.getD j (0,0):=by
   simp only[List.getD,List.getElem?_set]
   rw[if_neg (fun q=>e q.symm)]
  rw[h1]
  simp[e]
theorem Qje(T:Tr)(j d:Nat):ent (T++ [(0,0)]) j d=ent T j d:=by
 unfold ent
 by_cases h:j<T.length
 ·simp[List.getD,List.getElem?_append_left h]
 ·have h1:T.getD j (0,0)=(0,0):=by simp[List.getD,List.getElem?_eq_none (show T.length<=j by omega)]
  have h2:(T++ [((0:Int),(0:Int))]).getD j (0,0)=(0,0):=by
   by_cases e:j=T.length
   ·subst e;simp[List.getD]
   ·simp[List.getD,List.getElem?_eq_none (show(T++ [((0:Int),(0:Int))]).length<=j by simp;omega)]
  rw[h1,h2]
structure Tv (T:Tr) (P:List (Nat×Nat)) (S:Nat×Nat->Prop):Prop where
 len:P.length=T.length
 root:P.getD 0 (0,0)=(0,0)
 pos:0<T.length
 up:∀i b,i<T.length->b<2->0<ent T i b->(ent T i b).toNat<T.length∧P.getD (ent T i b).toNat (0,0)=((P.getD i (0,0)).1+1,2*(P.getD i (0,0)).2+b)
 leaf:∀i b,i<T.length->b<2->ent T i b<0->S ((P.getD i (0,0)).1+1,2*(P.getD i (0,0)).2+b)
theorem Tv.mono{T:Tr}{P:List (Nat×Nat)}{S S':Nat×Nat->Prop}(h:Tv T P S)(hs:∀x,S x->S' x):Tv T P S':=⟨h.len,h.root,h.pos,h.up,fun i b h1 h2 h3=>hs _ (h.leaf i b h1 h2 h3)⟩
theorem half(c m:Nat):c/2^m=2*(c/2^(m+1))+c/2^m%2:=by
 rw[Nat.pow_succ,<-Nat.div_div_eq_div_mul];omega
theorem Tv.node{T:Tr}{P:List (Nat×Nat)}{S:Nat×Nat->Prop}(h:Tv T P S)(i b:Nat)(hi:i<T.length)(hb:b<2):Tv (Qmw T i b (T.length:Int)++ [(0,0)]) (P++ [((P.getD i (0,0)).1+1,2*(P.getD i (0,0)).2+b)]) S:=by
 have hl:=h.len
 have hP:∀j,j<T.length->(P++ [((P.getD i (0,0)).1+1,2*(P.getD i (0,0)).2+b)]).getD j (0,0)=P.getD j (0,0):=fun j hj=>by simp[List.getD,List.getElem?_append_left (show j<P.length by omega)]
 have hPn:(P++ [((P.getD i (0,0)).1+1,2*(P.getD i (0,0)).2+b)]).getD T.length (0,0)=((P.getD i (0,0)).1+1,2*(P.getD i (0,0)).2+b):=by rw[<-hl];simp[List.getD]
 have hz:∀d,ent T T.length d=0:=fun d=>by
  unfold ent
  have:T.getD T.length (0,0)=(0,0):=by simp[List.getD]
  rw[this];split<;>rfl
 refine⟨by simp[Qa1,hl],by rw[hP 0 h.pos];exact h.root,by simp,fun j d hj hd hx=>?_,fun j d hj hd hx=>?_⟩
 ·rw[Qje,Qei T i b _ hi j d hb hd] at hx|-
  rw[List.length_append,Qa1,List.length_singleton] at hj|-
  by_cases e:j=i∧d=b
  ·obtain⟨rfl,rfl⟩:=e
   rw[if_pos ⟨rfl,rfl⟩,Int.toNat_natCast]
   exact⟨by omega,by rw[hPn,hP j hi]⟩
  ·rw[if_neg e] at hx|-
   by_cases c:j<T.length
   ·have h1:=h.up j d c hd hx
    refine⟨by omega,?_⟩
    rw[hP _ h1.1,hP j c];exact h1.2
   ·have:j=T.length:=by omega
    rw[this,hz] at hx
    omega
 ·rw[Qje,Qei T i b _ hi j d hb hd] at hx
  rw[List.length_append,Qa1,List.length_singleton] at hj
  by_cases e:j=i∧d=b
  ·rw[if_pos e] at hx;omega
  ·rw[if_neg e] at hx
   by_cases c:j<T.length
   ·rw[hP j c];exact h.leaf j d c hd hx
   ·have:j=T.length:=by omega
    rw[this,hz] at hx
    omega
theorem Tv.put{T:Tr}{P:List (Nat×Nat)}{S:Nat×Nat->Prop}(h:Tv T P S)(i b s:Nat)(hi:i<T.length)(hb:b<2)(hS:S ((P.getD i (0,0)).1+1,2*(P.getD i (0,0)).2+b)):Tv (Qmw T i b (-(s:Int)-1)) P S:=by
 refine⟨by rw[Qa1];exact h.len,h.root,by rw[Qa1];exact h.pos,fun j d hj hd hx=>?_,fun j d hj hd hx=>?_⟩
 ·rw[Qa1] at hj|-
  rw[Qei T i b _ hi j d hb hd] at hx|-
  by_cases e:j=i∧d=b
  ·rw[if_pos e] at hx;omega
  ·rw[if_neg e] at hx|-;exact h.up j d hj hd hx
 ·rw[Qa1] at hj
  rw[Qei T i b _ hi j d hb hd] at hx
  by_cases e:j=i∧d=b
  ·obtain⟨rfl,rfl⟩:=e;exact hS
  ·rw[if_neg e] at hx;exact h.leaf j d hj hd hx
theorem Tv.grow{S:Nat×Nat->Prop}(s c:Nat):∀(m at_ d:Nat) (T:Tr) (P:List (Nat×Nat)),Tv T P S->at_<T.length->P.getD at_ (0,0)=(d,c/2^(m+1))->(∀l p,S (l,p)->l<d+m+1->c/2^(d+m+1-l)≠p)->S (d+m+1,c) ->
 ∃P',Tv (Qcz s c m at_ T) P' S∧(Qcz s c m at_ T).length<=T.length+m:=by
 intro m
 induction m with
 | zero=>
   intro at_ d T P h hat hP hap hS
   refine⟨P,?_,?_⟩
   ·rw[Qcz]
    refine h.put at_ (c%2) s hat (Nat.mod_lt _ (by decide)) ?_
    rw[hP]
    have h3:=half c 0
    rw[Nat.pow_zero,Nat.div_one] at h3
    dsimp only
    rw[<-h3]
    exact hS
   ·rw[Qcz,Qa1];exact Nat.le_refl _
 | succ m ih=>
   intro at_ d T P h hat hP hap hS
   have hb:c/2^(m+1)%2<2:=Nat.mod_lt _ (by decide)
   have h3:=half c (m+1)
   rw[Qcz]
   by_cases he:ent T at_ (c/2^(m+1)%2)=0
   ·rw[if_pos he]
    obtain⟨P',h1,h2⟩:=ih T.length (d+1) _ _ (h.node at_ (c/2^(m+1)%2) hat hb) (by simp[Qa1]) (by
     rw[<-h.len,hP]
     simp only[List.getD,List.getElem?_concat_length,Option.getD_some,Prod.mk.injEq]
     exact⟨trivial,by omega⟩) (by rw[show d+1+m+1=d+(m+1)+1 from by omega];exact hap) (by rw[show d+1+m+1=d+(m+1)+1 from by omega];exact hS)
    refine⟨P',h1,?_⟩
    rw[List.length_append,Qa1,List.length_singleton] at h2
    omega
   ·rw[if_neg he]
    have hpos:0<ent T at_ (c/2^(m+1)%2):=by
     rcases Int.lt_trichotomy (ent T at_ (c/2^(m+1)%2)) 0 with q | q | q
     ·exfalso
      have h1:=h.leaf at_ _ hat hb q
      rw[hP] at h1
      refine hap _ _ h1 (by dsimp only;omega) ?_
      dsimp only
      rw[show d+(m+1)+1-(d+1)=m+1 from by omega]
      omega
     ·exact absurd q he
     ·exact q
    have hup:=h.up at_ _ hat hb hpos
    obtain⟨P',h1,h2⟩:=ih _ (d+1) _ _ h hup.1 (by
     rw[hup.2,hP]
     simp only[Prod.mk.injEq]
     exact⟨trivial,by omega⟩) (by rw[show d+1+m+1=d+(m+1)+1 from by omega];exact hap) (by rw[show d+1+m+1=d+(m+1)+1 from by omega];exact hS)
    exact⟨P',h1,by omega⟩
def Qbx(zs:List Int):Nat->Tr
 | 0=> [(0,0)]
 | k+1=>if 0<zs.getD k 0 then Qcz k (Qbt zs k) ((zs.getD k 0).toNat-1) 0 (Qbx zs k) else Qbx zs k
def coS(zs:List Int)(k:Nat)(x:Nat×Nat):Prop:=∃s,s<k∧0<zs.getD s 0∧x=((zs.getD s 0).toNat,Qbt zs s)
theorem Qmh{zs:List Int}(k n:Nat)(hk:k<zs.length)(hz:zs.getD k 0=(n:Int)):∀l p,coS zs (k+1) (l,p)->l<n->Qbt zs k/2^(n-l)≠p:=by
 rintro l p ⟨s,hs,h0,e⟩ hl heq
 simp only[Prod.mk.injEq] at e
 obtain⟨rfl,rfl⟩:=e
 have hne:s≠k:=by
  rintro rfl
  rw[hz] at hl
  omega
 exact Xgt s k (zs.getD s 0).toNat n (by omega) hk hne (by omega) hz (by omega) (by omega) heq.symm
theorem Qow{zs:List Int}(hc:Qal zs=true):∀k,k<=zs.length->∃P,Tv (Qbx zs k) P (coS zs k)∧(Qbx zs k).length<=1+15*k:=by
 have hok:Qhl zs=true:=by unfold Qal at hc;rw[Bool.and_eq_true] at hc;exact hc.1
 intro k
 induction k with
 | zero=>
   intro _
   refine⟨[(0,0)],⟨rfl,rfl,by simp[Qbx],fun i b hi hb hx=>?_,fun i b hi hb hx=>?_⟩,by simp[Qbx]⟩
   ·have:i=0:=by simpa [Qbx] using hi
    subst this
    simp[Qbx,ent] at hx
   ·have:i=0:=by simpa [Qbx] using hi
    subst this
    simp[Qbx,ent] at hx
 | succ k ih=>
   intro hk
   obtain⟨P,h1,h2⟩:=ih (by omega)
   have h1':Tv (Qbx zs k) P (coS zs (k+1)):=h1.mono (fun x ⟨s,hs,hx⟩=>⟨s,by omega,hx⟩)
   rw[Qbx]
   by_cases h0:0<zs.getD k 0
   ·rw[if_pos h0]
    have hr:=(Qb1 hok).2 _ (show zs.getD k 0∈zs from by simp[List.getD,List.getElem?_eq_getElem (show k<zs.length by omega)])
    obtain⟨n,hn⟩:∃n:Nat,zs.getD k 0=((n+1:Nat):Int):=⟨(zs.getD k 0).toNat-1,by omega⟩
    have hlt:=Qi4 hc k (n+1) (by omega) hn (by omega) (by omega)
    have hap:=Qmh (zs:=zs) k (n+1) (by omega) hn
    obtain⟨P',h3,h4⟩:=Tv.grow (S:=coS zs (k+1)) k (Qbt zs k) n 0 0 (Qbx zs k) P h1' h1.pos (by rw[h1.root,Nat.div_eq_of_lt hlt]) (by rw[Nat.zero_add];exact hap) ⟨k,by omega,h0,by rw[hn];simp⟩
    rw[hn,Int.toNat_natCast,Nat.add_sub_cancel]
    exact⟨P',h3,by omega⟩
   ·rw[if_neg h0]
    exact⟨P,h1',by omega⟩
end Hf
end
end Go.Proofs.YtibjlbcnapoblaaGreatDoor
