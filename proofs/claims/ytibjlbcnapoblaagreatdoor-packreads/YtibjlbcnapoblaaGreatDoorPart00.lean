/-
 Plain facts on lengths, how many there are of each, and the codes of lengths.
-/
import Derived.Laws.BitsAllLaws
namespace Go.Proofs.YtibjlbcnapoblaaGreatDoor
set_option maxRecDepth 100000
set_option maxHeartbeats 6400000
section
namespace Hf
def cnt(zs:List Int)(l:Nat):Nat:=if l=0 then 0 else zs.countP (fun z=>z==(l:Int))
def tal(zs:List Int):List Nat:=(List.range 16).map (cnt zs)
theorem Qv3(zs:List Int):cnt zs 0=0:=by simp[cnt]
theorem Qmf(zs:List Int)(l:Nat):cnt zs l<=zs.length:=by
 unfold cnt;split
 ·omega
 ·exact List.countP_le_length
theorem Qa8(zs:List Int):(tal zs).length=16:=by simp[tal]
theorem Qcu(zs:List Int)(l:Nat)(h:l<16):(tal zs).getD l 0=cnt zs l:=by
 simp[tal,List.getD,h]
theorem Qg5(zs:List Int)(z:Int)(l:Nat):cnt (zs++ [z]) l=cnt zs l+(if l≠0∧z=(l:Int) then 1 else 0):=by
 unfold cnt
 by_cases h:l=0
 ·simp[h]
 ·simp only[h,if_false,List.countP_append,List.countP_singleton,ne_eq,not_false_eq_true,true_and]
  by_cases h2:z=(l:Int)
  ·simp[h2]
  ·simp[h2]
theorem Xix:tal []=List.replicate 16 0:=by decide
theorem Qbg{l m:List Nat}(h:l.length=m.length)(he:∀i,i<l.length->l.getD i 0=m.getD i 0):l=m:=by
 refine List.ext_getElem h (fun i h1 h2=>?_)
 have:=he i h1
 simpa [List.getD,List.getElem?_eq_getElem h1,List.getElem?_eq_getElem h2] using this
theorem Qnr(l:List Nat)(i j v:Nat)(h:i<l.length):(l.set i v).getD j 0=if j=i then v else l.getD j 0:=by
 simp only[List.getD,List.getElem?_set]
 by_cases e:i=j
 ·subst e;simp[h]
 ·rw[if_neg e,if_neg (fun x=>e x.symm)]
theorem Xec(zs:List Int)(l:Nat)(h0:0<l)(h:l<16):tal (zs++ [(l:Int)])=(tal zs).set l (cnt zs l+1):=by
 refine Qbg (by simp[Qa8]) (fun i hi=>?_)
 rw[Qa8] at hi
 rw[Qcu _ _ hi,Qnr _ _ _ _ (by rw[Qa8];exact h),Qcu _ _ hi,Qg5]
 by_cases e:i=l
 ·subst e;simp;omega
 ·rw[if_neg e,if_neg (by omega)];rfl
theorem Qzx(zs:List Int)(z:Int)(h:z<=0):tal (zs++ [z])=tal zs:=by
 refine Qbg (by simp[Qa8]) (fun i hi=>?_)
 rw[Qa8] at hi
 rw[Qcu _ _ hi,Qcu _ _ hi,Qg5,if_neg (by omega)];rfl
def wsum(zs:List Int):Nat->Nat
 | 0=>0
 | k+1=>wsum zs k+cnt zs k*2^(15-k)
theorem Xhi(zs:List Int)(k:Nat):wsum zs k<=k*(zs.length*32768):=by
 induction k with
 | zero=>simp[wsum]
 | succ k ih=>
   have h1:=Qmf zs k
   have h2:2^(15-k)<=2^15:=Nat.pow_le_pow_right (by decide) (by omega)
   have h3:cnt zs k*2^(15-k)<=zs.length*32768:=Nat.mul_le_mul h1 (by simpa using h2)
   rw[wsum,Nat.add_mul];omega
def z16:List Nat:=List.replicate 16 0
theorem Qo1(i:Nat):z16.getD i 0=0:=by
 by_cases h:i<16
 ·have:∀i,i<16->z16.getD i 0=0:=by decide
  exact this i h
 ·have:z16[i]?=none:=List.getElem?_eq_none (by simp[z16];omega)
  simp[List.getD,this]
def Qmk:List Nat:=0::1::List.replicate 14 0
def Qg8(zs:List Int):Bool:=decide (zs.length<=512)&&zs.all (fun z=>decide (0<=z)&&decide (z<=15))
def okT(zs:List Int):Bool:=wsum zs 16==32768||tal zs==z16||tal zs==Qmk
def Qal(zs:List Int):Bool:=Qg8 zs&&okT zs
def Qca(zs:List Int):Int:=if Qal zs then 0 else 51
def first(zs:List Int):Nat->Nat
 | 0=>0
 | k+1=>(first zs k+cnt zs k)*2
theorem Xff(zs:List Int)(k:Nat):first zs k+2*zs.length<=zs.length*2^(k+1):=by
 induction k with
 | zero=>simp[first];omega
 | succ k ih=>
   have h1:=Qmf zs k
   rw[first,Nat.pow_succ 2 (k+1),<-Nat.mul_assoc]
   omega
theorem Qht(zs:List Int)(k:Nat)(hk:k<16)(hl:zs.length<=520):first zs k+zs.length<=34078720:=by
 have h:=Xff zs k
 have h2:2^(k+1)<=2^16:=Nat.pow_le_pow_right (by decide) (by omega)
 have h3:zs.length*2^(k+1)<=520*65536:=Nat.mul_le_mul hl (by simpa using h2)
 omega
def Qds(zs:List Int)(k:Nat):List Nat:=(List.range 16).map (fun l=>if l<k then first zs l else 0)
theorem Qc4(zs:List Int)(k:Nat):(Qds zs k).length=16:=by simp[Qds]
theorem Qfd(zs:List Int)(k l:Nat)(h:l<16):(Qds zs k).getD l 0=if l<k then first zs l else 0:=by
 simp[Qds,List.getD,h]
theorem Xat(zs:List Int):Qds zs 1=z16:=by
 refine Qbg (by simp[Qds,z16]) (fun i hi=>?_)
 rw[Qc4] at hi
 rw[Qfd _ _ _ hi]
 rw[Qo1]
 by_cases h:i<1
 ·obtain rfl:i=0:=by omega
  simp[first]
 ·simp[h]
theorem Xaf(zs:List Int)(k:Nat)(h0:0<k)(h:k<16):(Qds zs k).set k ((first zs (k-1)+cnt zs (k-1))*2)=Qds zs (k+1):=by
 have e:(first zs (k-1)+cnt zs (k-1))*2=first zs k:=by
  conv=>rhs;rw[show k=(k-1)+1 from by omega,first]
 rw[e]
 refine Qbg (by simp[Qds]) (fun i hi=>?_)
 rw[List.length_set,Qc4] at hi
 rw[Qnr _ _ _ _ (by rw[Qc4];exact h),Qfd _ _ _ hi,Qfd _ _ _ hi]
 by_cases e:i=k
 ·subst e;simp
 ·rw[if_neg e]
  by_cases h2:i<k
  ·rw[if_pos h2,if_pos (by omega)]
  ·rw[if_neg h2,if_neg (by omega)]
def Qhy(zs:List Int)(k:Nat):List Nat:=(List.range 16).map (fun l=>first zs l+cnt (zs.take k) l)
theorem Qd3(zs:List Int)(k:Nat):(Qhy zs k).length=16:=by simp[Qhy]
theorem Qdk(zs:List Int)(k l:Nat)(h:l<16):(Qhy zs k).getD l 0=first zs l+cnt (zs.take k) l:=by
 simp[Qhy,List.getD,h]
theorem Qwz(zs:List Int):Qhy zs 0=Qds zs 16:=by
 refine Qbg (by simp[Qds,Qhy]) (fun i hi=>?_)
 rw[Qd3] at hi
 rw[Qdk _ _ _ hi,Qfd _ _ _ hi,if_pos hi]
 simp[cnt]
theorem Qbp(zs:List Int)(k:Nat)(hk:k<zs.length):zs.take (k+1)=zs.take k++ [zs.getD k 0]:=by
 rw[List.take_succ_eq_append_getElem hk]
 simp[List.getD,List.getElem?_eq_getElem hk]
theorem Qyb(zs:List Int)(k l:Nat)(hk:k<zs.length)(hz:zs.getD k 0=(l:Int))(h0:0<l)(h:l<16):(Qhy zs k).set l (first zs l+cnt (zs.take k) l+1)=Qhy zs (k+1):=by
 refine Qbg (by simp[Qhy]) (fun i hi=>?_)
 rw[List.length_set,Qd3] at hi
 rw[Qnr _ _ _ _ (by rw[Qd3];exact h),Qdk _ _ _ hi,Qdk _ _ _ hi,Qbp zs k hk,hz,Qg5]
 by_cases e:i=l
 ·subst e;rw[if_pos rfl,if_pos ⟨by omega,rfl⟩];omega
 ·rw[if_neg e,if_neg (by omega)];rfl
theorem Qx6(zs:List Int)(k:Nat)(hk:k<zs.length)(hz:zs.getD k 0<=0):Qhy zs (k+1)=Qhy zs k:=by
 refine Qbg (by simp[Qhy]) (fun i hi=>?_)
 rw[Qd3] at hi
 rw[Qdk _ _ _ hi,Qdk _ _ _ hi,Qbp zs k hk,Qg5,if_neg (by omega)];rfl
def Qbx(zs:List Int)(s:Nat):Nat:=first zs (zs.getD s 0).toNat+cnt (zs.take s) (zs.getD s 0).toNat
def codeF(zs:List Int)(s:Nat):Int:=if 0<zs.getD s 0 then ((Qbx zs s%65536:Nat):Int) else 0
def Qaj(zs:List Int):List Int:=(List.range zs.length).map (codeF zs)
theorem Qat(zs:List Int):(Qaj zs).length=zs.length:=by simp[Qaj]
theorem Qdo(zs:List Int)(s:Nat)(h:s<zs.length):(Qaj zs).getD s 0=codeF zs s:=by
 simp[Qaj,List.getD,h]
theorem Qz6(zs:List Int)(s:Nat):0<=codeF zs s∧codeF zs s<=65535:=by
 unfold codeF;split
 ·have:=Nat.mod_lt (Qbx zs s) (show 0<65536 by decide);omega
 ·omega
theorem Qc5(zs:List Int)(j:Nat):0<=(Qaj zs).getD j 0∧(Qaj zs).getD j 0<=65535:=by
 by_cases h:j<zs.length
 ·rw[Qdo zs j h];exact Qz6 zs j
 ·have:(Qaj zs)[j]?=none:=List.getElem?_eq_none (by rw[Qat];omega)
  simp[List.getD,this]
def sumR(zs:List Int):Nat:=(zs.map (fun z=>if 0<z then 2^(15-z.toNat) else 0)).sum
def Qdd(zs:List Int):Nat:=zs.countP (fun z=>decide (0<z))
def oneR(zs:List Int):Nat:=zs.countP (fun z=>z==1)
theorem Qrl(zs:List Int)(z:Int):sumR (zs++ [z])=sumR zs+(if 0<z then 2^(15-z.toNat) else 0):=by
 simp[sumR]
theorem Qxg(zs:List Int)(z:Int):Qdd (zs++ [z])=Qdd zs+(if 0<z then 1 else 0):=by
 simp[Qdd,List.countP_append,List.countP_singleton]
theorem Xcz(zs:List Int)(z:Int):oneR (zs++ [z])=oneR zs+(if z=1 then 1 else 0):=by
 simp[oneR,List.countP_append,List.countP_singleton]
theorem Xhm(zs:List Int):sumR zs<=zs.length*32768:=by
 induction zs with
 | nil=>simp[sumR]
 | cons z l ih=>
   have h2:2^(15-z.toNat)<=2^15:=Nat.pow_le_pow_right (by decide) (by omega)
   have h2':2^(15-z.toNat)<=32768:=by simpa using h2
   simp only[sumR,List.map_cons,List.sum_cons,List.length_cons,Nat.add_mul] at ih|-
   split<;>omega
theorem Xc2(zs:List Int)(z:Int)(k:Nat):wsum (zs++ [z]) k=wsum zs k+(if 0<z∧z.toNat<k then 2^(15-z.toNat) else 0):=by
 induction k with
 | zero=>simp[wsum]
 | succ k ih=>
   rw[wsum,wsum,ih,Qg5]
   by_cases h:k≠0∧z=(k:Int)
   ·have h3:0<z∧z.toNat<k+1:=by omega
    have h4:¬(0<z∧z.toNat<k):=by omega
    have h5:z.toNat=k:=by omega
    rw[if_pos h,if_neg h4,if_pos h3,h5,Nat.add_mul];omega
   ·rw[if_neg h]
    by_cases h2:0<z∧z.toNat<k
    ·rw[if_pos h2,if_pos ⟨h2.1,by omega⟩,Nat.add_zero];omega
    ·rw[if_neg h2,if_neg (by omega)];rfl
theorem Xfm(k:Nat):wsum [] k=0:=by
 induction k with
 | zero=>rfl
 | succ k ih=>rw[wsum,ih];simp[cnt]
theorem Xev{p:List Int->Prop}(h0:p [])(h1:∀l z,p l->p (l++ [z]))(zs:List Int):p zs:=by
 have h:∀n,p (zs.take n):=by
  intro n
  induction n with
  | zero=>simpa using h0
  | succ n ih=>
    by_cases hn:n<zs.length
    ·rw[Qbp zs n hn];exact h1 _ _ ih
    ·rw[List.take_of_length_le (by omega)];rw[List.take_of_length_le (by omega)] at ih;exact ih
 simpa using h zs.length
theorem Qqs(zs:List Int)(h:∀z∈zs,0<=z∧z<=15):wsum zs 16=sumR zs:=by
 revert h
 refine Xev (p:=fun zs=>(∀z∈zs,0<=z∧z<=15)->wsum zs 16=sumR zs) (fun _=>by rw[Xfm];rfl) (fun l z ih h=>?_) zs
 have hz:=h z (by simp)
 rw[Xc2,Qrl,ih (fun y hy=>h y (by simp[hy]))]
 by_cases h0:0<z
 ·rw[if_pos ⟨h0,by omega⟩,if_pos h0]
 ·rw[if_neg (by omega),if_neg h0]
theorem Xe2(zs:List Int)(l:Nat):cnt zs l<=Qdd zs:=by
 unfold cnt Qdd
 split
 ·omega
 ·refine List.countP_mono_left (fun z _ hz=>?_)
  have:z=(l:Int):=by simpa using hz
  simp;omega
theorem Qjl(zs:List Int)(h:∀z∈zs,0<=z∧z<=15):(tal zs==z16)=(Qdd zs==0):=by
 rw[Bool.eq_iff_iff,beq_iff_eq,beq_iff_eq]
 constructor
 ·intro e
  unfold Qdd
  rw[List.countP_eq_zero]
  intro z hz hpos
  have hpos':0<z:=by simpa using hpos
  have hr:=h z hz
  have hc:cnt zs z.toNat=0:=by
   rw[<-Qcu zs z.toNat (by omega),e,Qo1]
  unfold cnt at hc
  rw[if_neg (by omega),List.countP_eq_zero] at hc
  exact hc z hz (by simp;omega)
 ·intro e
  refine Qbg (by simp[Qa8,z16]) (fun i hi=>?_)
  rw[Qa8] at hi
  rw[Qcu zs i hi]
  have:=Xe2 zs i
  rw[Qo1];omega
theorem Qqd(zs:List Int)(h:∀z∈zs,0<=z∧z<=15):(tal zs==Qmk)=(Qdd zs==1&&oneR zs==1):=by
 have hone:cnt zs 1=oneR zs:=by unfold cnt oneR;simp
 have hsp:Qdd zs=oneR zs+zs.countP (fun z=>decide (1<z)):=by
  unfold Qdd oneR
  clear hone h
  induction zs with
  | nil=>rfl
  | cons z l ih=>
    rw[List.countP_cons,List.countP_cons,List.countP_cons,ih]
    by_cases h1:1<z
    ·simp[h1,show 0<z from by omega,show ¬z=1 from by omega];omega
    ·by_cases h2:z=1
     ·subst h2;simp;omega
     ·simp[h1,h2,show ¬0<z from by omega]
 rw[Bool.eq_iff_iff,beq_iff_eq,Bool.and_eq_true,beq_iff_eq,beq_iff_eq]
 constructor
 ·intro e
  have h1:oneR zs=1:=by rw[<-hone,<-Qcu zs 1 (by decide),e];rfl
  have h2:zs.countP (fun z=>decide (1<z))=0:=by
   rw[List.countP_eq_zero]
   intro z hz hpos
   have hpos':1<z:=by simpa using hpos
   have hr:=h z hz
   have hc:cnt zs z.toNat=0:=by
    rw[<-Qcu zs z.toNat (by omega),e]
    have:∀i,i<16->1<i->Qmk.getD i 0=0:=by decide
    exact this _ (by omega) (by omega)
   unfold cnt at hc
   rw[if_neg (by omega),List.countP_eq_zero] at hc
   exact hc z hz (by simp;omega)
  omega
 ·rintro ⟨h1,h2⟩
  have h3:zs.countP (fun z=>decide (1<z))=0:=by omega
  refine Qbg (by simp[Qa8,Qmk]) (fun i hi=>?_)
  rw[Qa8] at hi
  rw[Qcu zs i hi]
  by_cases e0:i=0
  ·subst e0;rw[Qv3];rfl
  ·by_cases e1:i=1
   ·subst e1;rw[hone,h2];rfl
   ·have:∀i,i<16->1<i->Qmk.getD i 0=0:=by decide
    rw[this i hi (by omega)]
    unfold cnt
    rw[if_neg e0,List.countP_eq_zero]
    intro z hz hzi
    rw[List.countP_eq_zero] at h3
    have:z=(i:Int):=by simpa using hzi
    exact h3 z hz (by simp;omega)
theorem Qb2{zs:List Int}(h:Qg8 zs=true):zs.length<=512∧∀z∈zs,0<=z∧z<=15:=by
 unfold Qg8 at h
 rw[Bool.and_eq_true,decide_eq_true_eq,List.all_eq_true] at h
 exact⟨h.1,fun z hz=>by simpa using h.2 z hz⟩
def okR(zs:List Int):Bool:=(Qdd zs==0||(Qdd zs==1&&oneR zs==1))||sumR zs==32768
theorem Xje{zs:List Int}(h:Qg8 zs=true):okR zs=okT zs:=by
 have ha:=(Qb2 h).2
 unfold okR okT
 rw[Qqs zs ha,Qjl zs ha,Qqd zs ha]
 cases (sumR zs==32768)<;>cases (Qdd zs==0)<;>cases (Qdd zs==1&&oneR zs==1)<;>rfl
end Hf
end
/-
 Repetitions as lists: how many bytes are alike, the longest copy, the tokens of a row. Plain mathematics.
-/
namespace Lz
def com(bs:List Int):Nat->Nat->Nat->Nat
 | _,_,0=>0
 | p,q,k+1=>if bs.getD p 0=bs.getD q 0 then com bs (p+1) (q+1) k+1 else 0
theorem Qkt(bs:List Int):∀k p q,com bs p q k<=k
 | 0,_,_=>Nat.le_refl _
 | k+1,p,q=>by
   unfold com
   have:=Qkt bs k (p+1) (q+1)
   split<;>omega
theorem Qeh(bs:List Int):∀k p q j,j<com bs p q k->bs.getD (p+j) 0=bs.getD (q+j) 0
 | 0,_,_,j,h=>absurd h (by simp[com])
 | k+1,p,q,j,h=>by
   unfold com at h
   split at h
   ·rename_i e
    cases j with
    | zero=>simpa using e
    | succ j=>
      have:=Qeh bs k (p+1) (q+1) j (by omega)
      rw[show p+(j+1)=p+1+j from by omega,show q+(j+1)=q+1+j from by omega]
      exact this
   ·omega
theorem Qn9(bs:List Int):∀k p q,com bs p q k<k->bs.getD (p+com bs p q k) 0≠bs.getD (q+com bs p q k) 0
 | 0,_,_,h=>absurd h (by omega)
 | k+1,p,q,h=>by
   unfold com at h|-
   split at h
   ·rename_i e
    rw[if_pos e]
    have:=Qn9 bs k (p+1) (q+1) (by omega)
    rw[show p+(com bs (p+1) (q+1) k+1)=p+1+com bs (p+1) (q+1) k from by omega,show q+(com bs (p+1) (q+1) k+1)=q+1+com bs (p+1) (q+1) k from by omega]
    exact this
   ·rename_i e
    rw[if_neg e]
    exact e
theorem Xf8(bs:List Int)(k p q n:Nat)(hn:n<=k)(hs:∀j,j<n->bs.getD (p+j) 0=bs.getD (q+j) 0)(he:n=k∨bs.getD (p+n) 0≠bs.getD (q+n) 0):com bs p q k=n:=by
 rcases Nat.lt_trichotomy (com bs p q k) n with h | h | h
 ·exact absurd (hs _ h) (Qn9 bs k p q (by omega))
 ·exact h
 ·rcases he with rfl | he
  ·have:=Qkt bs n p q;omega
  ·exact absurd (Qeh bs k p q n h) he
def better(bs:List Int)(q k:Nat)(s:Nat×Nat)(p:Nat):Nat×Nat:=if s.2<com bs p q k then (q-p,com bs p q k) else s
def best(bs:List Int)(q k:Nat)(ps:List Nat):Nat×Nat:=ps.foldl (better bs q k) (0,3)
theorem Qpx(bs:List Int)(q k:Nat)(ps:List Nat)(p:Nat):best bs q k (ps++ [p])=better bs q k (best bs q k ps) p:=by simp[best]
def most(bs:List Int)(q:Nat):Nat:=min (bs.length-q) 258
theorem Qhh{bs:List Int}{q k:Nat}{s:Nat×Nat}(h:k<=s.2)(p:Nat):better bs q k s p=s:=by
 unfold better
 have:=Qkt bs k p q
 rw[if_neg (by omega)]
theorem Qh2{bs:List Int}{q k:Nat}{s:Nat×Nat}(h:k<=s.2):∀ps:List Nat,ps.foldl (better bs q k) s=s
 | []=>rfl
 | p::ps=>by rw[List.foldl_cons,Qhh h];exact Qh2 h ps
theorem Qp1{bs:List Int}{q k:Nat}{ps:List Nat}(h:k<=(best bs q k ps).2){qs:List Nat}(hp:ps <+: qs):best bs q k qs=best bs q k ps:=by
 obtain⟨r,rfl⟩:=hp
 unfold best
 rw[List.foldl_append]
 exact Qh2 h r
theorem Xcs(bs:List Int)(q k:Nat)(s:Nat×Nat)(p:Nat):s.2<=(better bs q k s p).2:=by
 unfold better;split
 ·simp;omega
 ·exact Nat.le_refl _
def Good(q k:Nat)(s:Nat×Nat):Prop:=(s.1=0∧s.2=3)∨(1<=s.1∧s.1<=q∧4<=s.2∧s.2<=k)
theorem Qsn{bs:List Int}{q k:Nat}{s:Nat×Nat}(h:Good q k s){p:Nat}(hp:p<q):Good q k (better bs q k s p):=by
 unfold better
 split
 ·rename_i hlt
  have:=Qkt bs k p q
  refine .inr ⟨by simp;omega,by simp,?_,this⟩
  rcases h with ⟨_,h2⟩ | ⟨_,_,h2,_⟩<;>simp<;>omega
 ·exact h
theorem Qo6{bs:List Int}{q k:Nat}:∀(ps:List Nat) (s:Nat×Nat),Good q k s->(∀p∈ps,p<q)->Good q k (ps.foldl (better bs q k) s)
 | [],_,h,_=>h
 | p::ps,s,h,hp=>Qo6 ps _ (Qsn h (hp p (by simp))) (fun x hx=>hp x (by simp[hx]))
theorem Qlr{bs:List Int}{q k:Nat}{ps:List Nat}(hp:∀p∈ps,p<q):Good q k (best bs q k ps):=Qo6 ps _ (.inl ⟨rfl,rfl⟩) hp
abbrev Tok:=Nat×Nat×Int
def Qep(bs:List Int)(q:Nat)(s:Nat×Nat):Tok:=if s.1=0 then (0,1,bs.getD q 0) else (s.1,s.2,0)
def Qf9(q:Nat):List Nat:=(List.range (min q 4096)).map fun j=>q-1-j
theorem Qi6{q p:Nat}(h:p∈Qf9 q):p<q∧q-p<=4096:=by
 unfold Qf9 at h
 rw[List.mem_map] at h
 obtain⟨j,hj,rfl⟩:=h
 rw[List.mem_range] at hj
 omega
def Qc8(bs:List Int)(q:Nat):Tok:=Qep bs q (best bs q (most bs q) (Qf9 q))
def Qes(bs:List Int)(p q:Nat):Bool:=bs.getD p 0==bs.getD q 0&&(bs.getD (p+1) 0==bs.getD (q+1) 0&&(bs.getD (p+2) 0==bs.getD (q+2) 0&&bs.getD (p+3) 0==bs.getD (q+3) 0))
theorem Qq2{bs:List Int}{k p q:Nat}(h:3<com bs p q k):Qes bs p q=true:=by
 have h0:=Qeh bs k p q 0 (by omega)
 have h1:=Qeh bs k p q 1 (by omega)
 have h2:=Qeh bs k p q 2 (by omega)
 have h3:=Qeh bs k p q 3 (by omega)
 unfold Qes
 simp only[Nat.add_zero] at h0
 rw[h0,h1,h2,h3]
 simp
theorem fold_filter{bs:List Int}{q k:Nat}:∀(ps:List Nat) (s:Nat×Nat),3<=s.2->(ps.filter fun p=>Qes bs p q).foldl (better bs q k) s=ps.foldl (better bs q k) s
 | [],_,_=>rfl
 | p::ps,s,h=>by
   have hg:=Xcs bs q k s p
   cases hs:Qes bs p q with
   | true=>
     rw[List.filter_cons_of_pos (by simpa using hs),List.foldl_cons,List.foldl_cons]
     exact fold_filter ps _ (by omega)
   | false=>
     rw[List.filter_cons_of_neg (by simp[hs]),List.foldl_cons]
     have e:better bs q k s p=s:=by
      unfold better
      rw[if_neg]
      intro hlt
      rw[Qq2 (k:=k) (by omega)] at hs
      cases hs
     rw[e]
     exact fold_filter ps s h
def Qe4(bs:List Int)(q:Nat):List Nat:=if q+4<=bs.length then (Qf9 q).filter fun p=>Qes bs p q else []
theorem Qxi(bs:List Int)(q:Nat):best bs q (most bs q) (Qe4 bs q)=best bs q (most bs q) (Qf9 q):=by
 unfold Qe4
 split
 ·exact fold_filter _ _ (Nat.le_refl _)
 ·have hm:most bs q<=3:=by unfold most;omega
  unfold best
  rw[Qh2 (s:=(0,3)) hm,Qh2 (s:=(0,3)) hm]
theorem Qtq(bs:List Int)(q:Nat):Qep bs q (best bs q (most bs q) (Qe4 bs q))=Qc8 bs q:=by rw[Qxi];rfl
theorem Qxz(bs:List Int)(q:Nat):Good q (most bs q) (best bs q (most bs q) (Qf9 q)):=Qlr fun _ hp=>(Qi6 hp).1
theorem Qin(bs:List Int)(q:Nat)(h:q<bs.length):1<=(Qc8 bs q).2.1∧q+(Qc8 bs q).2.1<=bs.length∧(Qc8 bs q).2.1<=258:=by
 have hg:=Qxz bs q
 have hm:most bs q<=bs.length-q∧most bs q<=258:=by unfold most;omega
 unfold Qc8 Qep
 rcases hg with ⟨h1,h2⟩ | ⟨h1,h2,h3,h4⟩
 ·rw[if_pos h1];simp;omega
 ·rw[if_neg (by omega)];simp;omega
def tks(bs:List Int):Nat->Nat->List Tok
 | 0,_=> []
 | n+1,q=>if q<bs.length then Qc8 bs q::tks bs n (q+(Qc8 bs q).2.1) else []
def Qho(bs:List Int):List Tok:=tks bs bs.length 0
theorem Qk5{bs:List Int}{q:Nat}(h:¬q<bs.length):∀n,tks bs n q= []
 | 0=>rfl
 | n+1=>by unfold tks;rw[if_neg h]
theorem Qu8{bs:List Int}:∀(n q:Nat),bs.length-q<=n->tks bs (n+1) q=tks bs n q
 | 0,q,h=>by rw[Qk5 (by omega),Qk5 (by omega)]
 | n+1,q,h=>by
   by_cases hq:q<bs.length
   ·have:=Qin bs q hq
    rw[show tks bs (n+1+1) q=if q<bs.length then Qc8 bs q::tks bs (n+1) (q+(Qc8 bs q).2.1) else [] from rfl,show tks bs (n+1) q=if q<bs.length then Qc8 bs q::tks bs n (q+(Qc8 bs q).2.1) else [] from rfl,if_pos hq,if_pos hq,Qu8 n _ (by omega)]
   ·rw[Qk5 hq,Qk5 hq]
def from_(bs:List Int)(q:Nat):List Tok:=tks bs (bs.length-q) q
theorem Qvi{bs:List Int}(q:Nat):∀d,tks bs (bs.length-q+d) q=from_ bs q
 | 0=>rfl
 | d+1=>by rw[show bs.length-q+(d+1)=bs.length-q+d+1 from by omega,Qu8 _ _ (by omega)];exact Qvi q d
theorem Qij{bs:List Int}{q:Nat}(h:q<bs.length):from_ bs q=Qc8 bs q::from_ bs (q+(Qc8 bs q).2.1):=by
 have hl:=Qin bs q h
 have e:bs.length-q=(bs.length-q-1)+1:=by omega
 unfold from_
 rw[e]
 rw[show tks bs (bs.length-q-1+1) q=if q<bs.length then Qc8 bs q::tks bs (bs.length-q-1) (q+(Qc8 bs q).2.1) else [] from rfl,if_pos h]
 congr 1
 have:=Qvi (bs:=bs) (q+(Qc8 bs q).2.1) (bs.length-q-1-(bs.length-(q+(Qc8 bs q).2.1)))
 rw[show bs.length-(q+(Qc8 bs q).2.1)+(bs.length-q-1-(bs.length-(q+(Qc8 bs q).2.1)))=bs.length-q-1 from by omega] at this
 exact this
theorem Qir{bs:List Int}{q:Nat}(h:¬q<bs.length):from_ bs q= []:=Qk5 h _
theorem Qgr(bs:List Int):Qho bs=from_ bs 0:=by unfold Qho from_;rfl
def nxt(bs:List Int)(q:Nat):Nat->Nat
 | 0=>0
 | m+1=>if Qes bs m q then m+1 else nxt bs q m
theorem Qvo(bs:List Int)(q:Nat):∀m,nxt bs q m<=m
 | 0=>Nat.le_refl _
 | m+1=>by unfold nxt;have:=Qvo bs q m;split<;>omega
theorem Qu3{bs:List Int}{q:Nat}:∀ {m},0<nxt bs q m->Qes bs (nxt bs q m-1) q=true
 | 0,h=>absurd h (by simp[nxt])
 | m+1,h=>by
   unfold nxt at h|-
   split
   ·rename_i e;simpa using e
   ·rename_i e;rw[if_neg e] at h;exact Qu3 h
def chain(bs:List Int)(q:Nat):Nat->List Nat
 | 0=> []
 | m+1=>if Qes bs m q=true∧q-m<=4096 then m::chain bs q m else chain bs q m
theorem Qrc{bs:List Int}{q:Nat}:∀ {m},m+4096<=q->chain bs q m= []
 | 0,_=>rfl
 | m+1,h=>by
   unfold chain
   rw[if_neg (by omega)]
   exact Qrc (by omega)
theorem Qrw{bs:List Int}{q:Nat}:∀ {m},chain bs q m=if 0<nxt bs q m∧q-(nxt bs q m-1)<=4096 then (nxt bs q m-1)::chain bs q (nxt bs q m-1) else []
 | 0=>by simp[chain,nxt]
 | m+1=>by
   cases hs:Qes bs m q with
   | true=>
     have e:nxt bs q (m+1)=m+1:=by unfold nxt;rw[hs];simp
     rw[e,show chain bs q (m+1)=if Qes bs m q=true∧q-m<=4096 then m::chain bs q m else chain bs q m from rfl]
     simp only[hs,true_and,Nat.add_sub_cancel]
     by_cases h:q-m<=4096
     ·rw[if_pos h,if_pos ⟨by omega,h⟩]
     ·rw[if_neg h,if_neg (fun h'=>h h'.2),Qrc (by omega)]
   | false=>
     have e:nxt bs q (m+1)=nxt bs q m:=by
      show(if Qes bs m q=true then m+1 else nxt bs q m)=_
      rw[hs];simp
     rw[e]
     have e2:chain bs q (m+1)=chain bs q m:=by
      show(if Qes bs m q=true∧q-m<=4096 then m::chain bs q m else chain bs q m)=_
      rw[hs];simp
     rw[e2]
     exact Qrw
theorem Qvu(bs:List Int)(q:Nat):∀m,m<=q->chain bs q m=(((List.range m).map fun j=>m-1-j).filter fun p=>decide (q-p<=4096)).filter fun p=>Qes bs p q
 | 0,_=>rfl
 | m+1,h=>by
   have ih:=Qvu bs q m (by omega)
   have e:(List.range (m+1)).map (fun j=>m+1-1-j)=m::(List.range m).map fun j=>m-1-j:=by
    rw[List.range_succ_eq_map,List.map_cons,List.map_map]
    congr 1
    refine List.map_congr_left fun j _=>?_
    simp only[Function.comp]
    omega
   rw[e]
   unfold chain
   by_cases hq:q-m<=4096
   ·rw[List.filter_cons_of_pos (by simpa using hq)]
    cases hs:Qes bs m q with
    | true=>rw[List.filter_cons_of_pos (by simpa using hs),if_pos ⟨rfl,hq⟩,ih]
    | false=>rw[List.filter_cons_of_neg (by simp[hs]),if_neg (by simp),ih]
   ·rw[List.filter_cons_of_neg (by simpa using hq),if_neg (fun h'=>hq h'.2),ih]
theorem Xej(q:Nat):(((List.range q).map fun j=>q-1-j).filter fun p=>decide (q-p<=4096))=Qf9 q:=by
 unfold Qf9
 by_cases h:q<=4096
 ·rw[Nat.min_eq_left h,List.filter_eq_self]
  intro p hp
  simp;omega
 ·rw[Nat.min_eq_right (by omega)]
  obtain⟨K,hK⟩:∃K:Nat,K=4096:=⟨_,rfl⟩
  rw[<-hK]
  have e:List.range q=List.range K++(List.range (q-K)).map (K + ·):=by
   rw[<-List.range_add,show K+(q-K)=q from by omega]
  rw[e,List.map_append,List.filter_append]
  have h1:(List.filter (fun p=>decide (q-p<=K)) (List.map (fun j=>q-1-j) (List.range K)))=List.map (fun j=>q-1-j) (List.range K):=by
   rw[List.filter_eq_self]
   intro p hp
   rw[List.mem_map] at hp
   obtain⟨j,hj,rfl⟩:=hp
   rw[List.mem_range] at hj
   simp;omega
  have h2:(List.filter (fun p=>decide (q-p<=K)) (List.map (fun j=>q-1-j) (List.map (fun x=>K+x) (List.range (q-K)))))= []:=by
   rw[List.filter_eq_nil_iff]
   intro p hp
   rw[List.mem_map] at hp
   obtain⟨j,hj,rfl⟩:=hp
   rw[List.mem_map] at hj
   obtain⟨i,hi,rfl⟩:=hj
   rw[List.mem_range] at hi
   simp;omega
  rw[h1,h2,List.append_nil]
theorem Qs8{bs:List Int}{q:Nat}(h:q+4<=bs.length):chain bs q q=Qe4 bs q:=by
 rw[Qvu bs q q (Nat.le_refl _),Xej]
 unfold Qe4
 rw[if_pos h]
end Lz
/-
 SHA-256 as plain mathematics over natural numbers: a step, the padding, the digest.
-/
namespace Sh.Sha
def rot1(x:Nat):Nat:=x/2+x%2*2147483648
def iter(f:Nat->Nat):Nat->Nat->Nat
 | 0,x=>x
 | n+1,x=>iter f n (f x)
theorem Ql2(f:Nat->Nat)(x:Nat):iter f 0 x=x:=rfl
theorem Qkw(f:Nat->Nat)(n x:Nat):iter f (n+1) x=iter f n (f x):=rfl
theorem Xcj(f:Nat->Nat)(B:Nat)(hf:∀x,x<B->f x<B)(n:Nat):∀x:Nat,x<B->iter f n x<B:=by
 induction n with
 | zero=>intro x h;exact h
 | succ n ih=>intro x h;exact ih (f x) (hf x h)
def mov1(x:Nat):Nat:=x/2
def rotN(n x:Nat):Nat:=iter rot1 n x
def movN(n x:Nat):Nat:=iter mov1 n x
def sg0(x:Nat):Nat:=rotN 7 x^^^rotN 18 x^^^movN 3 x
def sg1(x:Nat):Nat:=rotN 17 x^^^rotN 19 x^^^movN 10 x
def up0(x:Nat):Nat:=rotN 2 x^^^rotN 13 x^^^rotN 22 x
def up1(x:Nat):Nat:=rotN 6 x^^^rotN 11 x^^^rotN 25 x
def add32(a b:Nat):Nat:=(a+b)%4294967296
def be4(bl:List Nat)(i:Nat):Nat:=add32 (add32 (add32 (bl.getD (4*i) 0*16777216%4294967296) (bl.getD (4*i+1) 0*65536%4294967296)) (bl.getD (4*i+2) 0*256%4294967296)) (bl.getD (4*i+3) 0)
def next(bl l:List Nat):Nat:=
 if l.length<16 then be4 bl l.length
 else add32 (add32 (add32 (l.getD (l.length-16) 0) (sg0 (l.getD (l.length-15) 0))) (l.getD (l.length-7) 0)) (sg1 (l.getD (l.length-2) 0))
def sched(bl:List Nat):Nat->List Nat
 | 0=> []
 | n+1=>sched bl n++ [next bl (sched bl n)]
def kL:List Nat:= [0x428a2f98,0x71374491,0xb5c0fbcf,0xe9b5dba5,0x3956c25b,0x59f111f1,0x923f82a4,0xab1c5ed5,
 0xd807aa98,0x12835b01,0x243185be,0x550c7dc3,0x72be5d74,0x80deb1fe,0x9bdc06a7,0xc19bf174,
 0xe49b69c1,0xefbe4786,0x0fc19dc6,0x240ca1cc,0x2de92c6f,0x4a7484aa,0x5cb0a9dc,0x76f988da,
 0x983e5152,0xa831c66d,0xb00327c8,0xbf597fc7,0xc6e00bf3,0xd5a79147,0x06ca6351,0x14292967,
 0x27b70a85,0x2e1b2138,0x4d2c6dfc,0x53380d13,0x650a7354,0x766a0abb,0x81c2c92e,0x92722c85,
 0xa2bfe8a1,0xa81a664b,0xc24b8b70,0xc76c51a3,0xd192e819,0xd6990624,0xf40e3585,0x106aa070,
 0x19a4c116,0x1e376c08,0x2748774c,0x34b0bcb5,0x391c0cb3,0x4ed8aa4a,0x5b9cca4f,0x682e6ff3,
 0x748f82ee,0x78a5636f,0x84c87814,0x8cc70208,0x90befffa,0xa4506ceb,0xbef9a3f7,0xc67178f2]
structure St where
 a:Nat
 b:Nat
 c:Nat
 d:Nat
 e:Nat
 f:Nat
 g:Nat
 h:Nat
def St.list(s:St):List Nat:= [s.a,s.b,s.c,s.d,s.e,s.f,s.g,s.h]
def t1F(s:St)(k w:Nat):Nat:=add32 (add32 (add32 (add32 s.h (up1 s.e)) ((s.e&&&s.f)^^^((s.e^^^4294967295)&&&s.g))) k) w
def t2F(s:St):Nat:=add32 (up0 s.a) ((s.a&&&s.b)^^^(s.a&&&s.c)^^^(s.b&&&s.c))
def rnd(s:St)(k w:Nat):St:=⟨add32 (t1F s k w) (t2F s),s.a,s.b,s.c,add32 s.d (t1F s k w),s.e,s.f,s.g⟩
def rounds(ws:List Nat)(s:St):Nat->St
 | 0=>s
 | n+1=>rnd (rounds ws s n) (kL.getD n 0) (ws.getD n 0)
def both(s t:St):St:=⟨add32 s.a t.a,add32 s.b t.b,add32 s.c t.c,add32 s.d t.d,add32 s.e t.e,add32 s.f t.f,add32 s.g t.g,add32 s.h t.h⟩
def step(s:St)(bl:List Nat):St:=both (rounds (sched bl 64) s 64) s
def start:St:=⟨0x6a09e667,0xbb67ae85,0x3c6ef372,0xa54ff53a,0x510e527f,0x9b05688c,0x1f83d9ab,0x5be0cd19⟩
/-! The bounds -/
theorem Qck(a b:Nat):add32 a b<2^32:=Nat.mod_lt _ (by decide)
theorem Qt5(x:Nat)(h:x<2^32):rot1 x<2^32:=by unfold rot1;omega
theorem Qtx(x:Nat)(h:x<2^32):mov1 x<2^32:=by unfold mov1;omega
theorem Qbb(n x:Nat)(h:x<2^32):rotN n x<2^32:=Xcj rot1 (2^32) Qt5 n x h
theorem Qou(n x:Nat)(h:x<2^32):movN n x<2^32:=Xcj mov1 (2^32) Qtx n x h
theorem Xgd(x:Nat)(h:x<2^32):sg0 x<2^32:=by
 unfold sg0
 exact Nat.xor_lt_two_pow (Nat.xor_lt_two_pow (Qbb _ _ h) (Qbb _ _ h)) (Qou _ _ h)
theorem Xgf(x:Nat)(h:x<2^32):sg1 x<2^32:=by
 unfold sg1
 exact Nat.xor_lt_two_pow (Nat.xor_lt_two_pow (Qbb _ _ h) (Qbb _ _ h)) (Qou _ _ h)
theorem Xjg(x:Nat)(h:x<2^32):up0 x<2^32:=by
 unfold up0
 exact Nat.xor_lt_two_pow (Nat.xor_lt_two_pow (Qbb _ _ h) (Qbb _ _ h)) (Qbb _ _ h)
theorem Xjt(x:Nat)(h:x<2^32):up1 x<2^32:=by
 unfold up1
 exact Nat.xor_lt_two_pow (Nat.xor_lt_two_pow (Qbb _ _ h) (Qbb _ _ h)) (Qbb _ _ h)
theorem Qbi(bl:List Nat)(n:Nat):(sched bl n).length=n:=by
 induction n with
 | zero=>rfl
 | succ n ih=>rw[sched,List.length_append,ih];rfl
theorem next_lt(bl l:List Nat):next bl l<2^32:=by
 unfold next
 split
 ·exact Qck _ _
 ·exact Qck _ _
structure St.Ok (s:St):Prop where
 a:s.a<2^32
 b:s.b<2^32
 c:s.c<2^32
 d:s.d<2^32
 e:s.e<2^32
 f:s.f<2^32
 g:s.g<2^32
 h:s.h<2^32
theorem Xj0(s:St)(k w:Nat)(h:s.Ok):(rnd s k w).Ok:=⟨Qck _ _,h.a,h.b,h.c,Qck _ _,h.e,h.f,h.g⟩
theorem Qri(ws:List Nat)(s:St)(h:s.Ok)(n:Nat):(rounds ws s n).Ok:=by
 induction n with
 | zero=>exact h
 | succ n ih=>exact Xj0 _ _ _ ih
theorem Xit(s t:St):(both s t).Ok:=⟨Qck _ _,Qck _ _,Qck _ _,Qck _ _,Qck _ _,Qck _ _,Qck _ _,Qck _ _⟩
theorem step_ok(s:St)(bl:List Nat):(step s bl).Ok:=Xit _ _
theorem Qod:start.Ok:=⟨by decide,by decide,by decide,by decide,by decide,by decide,by decide,by decide⟩
/-! The digest -/
def Qe8(f:St->List Nat->St):Nat->List Nat->St->St
 | 0,_,s=>s
 | n+1,l,s=>Qe8 f n (l.drop 64) (f s (l.take 64))
theorem Qjr(f:St->List Nat->St)(l:List Nat)(s:St):Qe8 f 0 l s=s:=rfl
theorem Qc6(f:St->List Nat->St)(n:Nat)(l:List Nat)(s:St):Qe8 f (n+1) l s=Qe8 f n (l.drop 64) (f s (l.take 64)):=rfl
theorem Qw3(f:St->List Nat->St)(hf:∀s l,(f s l).Ok)(n:Nat):∀(l:List Nat) (s:St),s.Ok->(Qe8 f n l s).Ok:=by
 induction n with
 | zero=>intro l s h;exact h
 | succ n ih=>intro l s h;rw[Qc6];exact ih _ _ (hf _ _)
def blocks(n:Nat)(l:List Nat)(s:St):St:=Qe8 step n l s
theorem Qlq(n:Nat)(l:List Nat)(s:St)(h:s.Ok):(blocks n l s).Ok:=Qw3 step step_ok n l s h
def pad(n:Nat):List Nat:=128::List.replicate ((119-n%64)%64) 0++(List.range 8).map fun i=>(8*n)%2^64/256^(7-i)%256
def four(x:Nat):List Nat:= [x/16777216%256,x/65536%256,x/256%256,x%256]
def bytes(s:St):List Nat:=four s.a++four s.b++four s.c++four s.d++four s.e++four s.f++four s.g++four s.h
def digest(l:List Nat):List Nat:=bytes (blocks ((l++pad l.length).length/64) (l++pad l.length) start)
end Sh.Sha
/-
 SHA-256 in a form that the kernel can reckon with: each number is reckoned once.
-/
namespace Sh.Sha
def force{α:Type}(x:Nat)(f:Nat->α):α:=Nat.rec (f 0) (fun n _=>f n.succ) x
def rotQ(n x:Nat):Nat:=x/2^n+x%2^n*2^(32-n)
theorem Qzj(n x:Nat)(hn:n<32)(_hx:x<2^32):rotQ n (rot1 x)=rotQ (n+1) x:=by
 have hp:(2:Nat)^(32-n)=2*2^(31-n):=by rw[<-Nat.pow_succ',show(31-n).succ=32-n from by omega]
 have hq:(2:Nat)^31=2^n*2^(31-n):=by rw[<-Nat.pow_add,show n+(31-n)=31 from by omega]
 have hn0:(0:Nat)<2^n:=Nat.two_pow_pos n
 have e1:rot1 x=x/2+2^n*(x%2*2^(31-n)):=by
  unfold rot1
  rw[show(2147483648:Nat)=2^31 from rfl,hq,<-Nat.mul_assoc,<-Nat.mul_assoc,Nat.mul_comm (x%2) (2^n)]
 unfold rotQ
 rw[e1,Nat.add_mul_div_left _ _ hn0,Nat.add_mul_mod_self_left,Nat.div_div_eq_div_mul,<-Nat.pow_succ',hp,show 32-(n+1)=31-n from by omega]
 have e2:x%2^(n+1)=x%2+2*(x/2%2^n):=by rw[Nat.pow_succ',Nat.mod_mul]
 rw[e2,Nat.add_mul]
 have e3:x/2%2^n*(2*2^(31-n))=2*(x/2%2^n)*2^(31-n):=by rw[<-Nat.mul_assoc,Nat.mul_comm _ 2]
 rw[e3,Nat.add_assoc]
theorem Qm3(f:Nat->Nat)(Q:Nat->Nat->Nat)(B M:Nat)(h0:∀x,Q 0 x=x)(hf:∀x,x<B->f x<B)(hs:∀n x,n<M->x<B->Q n (f x)=Q (n+1) x)(n:Nat):∀x:Nat,n<=M->x<B->iter f n x=Q n x:=by
 induction n with
 | zero=>intro x _ _;rw[h0,Ql2]
 | succ n ih=>intro x hn hx;rw[Qkw,ih _ (by omega) (hf x hx),hs n x (by omega) hx]
theorem Qzq(x:Nat):rotQ 0 x=x:=by unfold rotQ;rw[Nat.pow_zero,Nat.div_one,Nat.mod_one,Nat.zero_mul,Nat.add_zero]
theorem Qfr(n x:Nat)(hn:n<=32)(hx:x<2^32):rotN n x=rotQ n x:=Qm3 rot1 rotQ (2^32) 32 Qzq Qt5 Qzj n x hn hx
theorem Xeu(n x:Nat):mov1 x/2^n=x/2^(n+1):=by unfold mov1;rw[Nat.div_div_eq_div_mul,<-Nat.pow_succ']
theorem Qjb(n x:Nat)(hn:n<=32)(hx:x<2^32):movN n x=x/2^n:=Qm3 mov1 (fun n x=>x/2^n) (2^32) 32 (fun x=>by rw[Nat.pow_zero,Nat.div_one]) Qtx (fun n x _ _=>Xeu n x) n x hn hx
def sgQ0(x:Nat):Nat:=rotQ 7 x^^^rotQ 18 x^^^x/2^3
def sgQ1(x:Nat):Nat:=rotQ 17 x^^^rotQ 19 x^^^x/2^10
def upQ0(x:Nat):Nat:=rotQ 2 x^^^rotQ 13 x^^^rotQ 22 x
def upQ1(x:Nat):Nat:=rotQ 6 x^^^rotQ 11 x^^^rotQ 25 x
theorem Qpw(x:Nat)(h:x<2^32):sg0 x=sgQ0 x:=by rw[sg0,sgQ0,Qfr _ _ (by decide) h,Qfr _ _ (by decide) h,Qjb _ _ (by decide) h]
theorem Qrp(x:Nat)(h:x<2^32):sg1 x=sgQ1 x:=by rw[sg1,sgQ1,Qfr _ _ (by decide) h,Qfr _ _ (by decide) h,Qjb _ _ (by decide) h]
def wS(bl:List Nat)(i:Nat):Nat:=next bl (sched bl i)
theorem Qeq(bl:List Nat)(n i:Nat)(h:i<n):(sched bl n).getD i 0=wS bl i:=by
 induction n with
 | zero=>omega
 | succ n ih=>
   rw[sched]
   by_cases hi:i<n
   ·rw[<-ih hi]
    simp[List.getD,List.getElem?_append_left (show i<(sched bl n).length from by rw[Qbi];exact hi)]
   ·have:i=n:=by omega
    subst this
    have hl:=Qbi bl i
    simp[List.getD,wS,hl]
theorem Qhp(bl:List Nat)(i:Nat):wS bl i<2^32:=next_lt _ _
theorem Xgp(bl:List Nat)(i:Nat)(h:i<16):wS bl i=be4 bl i:=by
 rw[wS,next,Qbi,if_pos h]
theorem Xhv(bl:List Nat)(i:Nat):wS bl (i+16)=add32 (add32 (add32 (wS bl i) (sgQ0 (wS bl (i+1)))) (wS bl (i+9))) (sgQ1 (wS bl (i+14))):=by
 rw[<-Qpw _ (Qhp _ _),<-Qrp _ (Qhp _ _)]
 rw[show wS bl (i+16)=next bl (sched bl (i+16)) from rfl,next,Qbi,if_neg (by omega)]
 rw[Qeq _ _ _ (show i+16-16<i+16 by omega),Qeq _ _ _ (show i+16-15<i+16 by omega),Qeq _ _ _ (show i+16-7<i+16 by omega),Qeq _ _ _ (show i+16-2<i+16 by omega)]
 rfl
def t1Q(e f g h k w:Nat):Nat:=add32 (add32 (add32 (add32 h (upQ1 e)) ((e&&&f)^^^((e^^^4294967295)&&&g))) k) w
def t2Q(a b c:Nat):Nat:=add32 (upQ0 a) ((a&&&b)^^^(a&&&c)^^^(b&&&c))
structure Win where
 w0:Nat
 w1:Nat
 w2:Nat
 w3:Nat
 w4:Nat
 w5:Nat
 w6:Nat
 w7:Nat
 w8:Nat
 w9:Nat
 w10:Nat
 w11:Nat
 w12:Nat
 w13:Nat
 w14:Nat
 w15:Nat
def go:List Nat->Win->St->St
 | [],_,s=>s
 | k::ks,⟨w0,w1,w2,w3,w4,w5,w6,w7,w8,w9,w10,w11,w12,w13,w14,w15⟩,⟨a,b,c,d,e,f,g,h⟩=>
   force (add32 (add32 (add32 w0 (sgQ0 w1)) w9) (sgQ1 w14)) fun wn=>
   force (t1Q e f g h k w0) fun t1=>
   force (add32 t1 (t2Q a b c)) fun a'=>
   force (add32 d t1) fun e'=>
   go ks ⟨w1,w2,w3,w4,w5,w6,w7,w8,w9,w10,w11,w12,w13,w14,w15,wn⟩ ⟨a',a,b,c,e',e,f,g⟩
end Sh.Sha
/-
 Plain facts on bits that are put into bytes.
-/
section
namespace Hf
def Qex(N n:Nat):List Int:=(List.range (n/8)).map (fun i=>((N/2^(n-8*(i+1))%256:Nat):Int))
theorem Qa9(N n:Nat):(Qex N n).length=n/8:=by simp[Qex]
theorem Qc7(N n i:Nat)(h:i<n/8):(Qex N n).getD i 0=((N/2^(n-8*(i+1))%256:Nat):Int):=by
 simp[Qex,List.getD,h]
theorem Xb2(N n j:Nat):0<=(Qex N n).getD j 0∧(Qex N n).getD j 0<=255:=by
 by_cases h:j<n/8
 ·rw[Qc7 N n j h]
  have:=Nat.mod_lt (N/2^(n-8*(j+1))) (show 0<256 by decide)
  omega
 ·have:(Qex N n)[j]?=none:=List.getElem?_eq_none (by rw[Qa9];omega)
  simp[List.getD,this]
theorem Qpf{l m:List Int}(h:l.length=m.length)(he:∀i,i<l.length->l.getD i 0=m.getD i 0):l=m:=by
 refine List.ext_getElem h (fun i h1 h2=>?_)
 have:=he i h1
 simpa [List.getD,List.getElem?_eq_getElem h1,List.getElem?_eq_getElem h2] using this
theorem Xct(N c len e:Nat)(hc:c<2^len):(N*2^len+c)/2^(e+len)=N/2^e:=by
 rw[Nat.add_comm e len,Nat.pow_add,<-Nat.div_div_eq_div_mul,Nat.mul_comm N,Nat.mul_add_div (Nat.two_pow_pos len),Nat.div_eq_of_lt hc,Nat.add_zero]
end Hf
end
/-
 Plain facts on codes, and on symbols as bits.
-/
section
namespace Hf
theorem Qxr(zs:List Int)(k:Nat)(hk:k<=15):first zs k*2^(15-k)=wsum zs k:=by
 induction k with
 | zero=>simp[first,wsum]
 | succ k ih=>
   have ih:=ih (by omega)
   rw[first,wsum,<-ih,Nat.mul_assoc,show 2*2^(15-(k+1))=2^(15-k) from by rw[show 15-k=(15-(k+1))+1 from by omega,Nat.pow_succ];omega,Nat.add_mul]
theorem Qx7(zs:List Int)(k n:Nat):wsum zs k<=wsum zs (k+n):=by
 induction n with
 | zero=>exact Nat.le_refl _
 | succ n ih=>rw[<-Nat.add_assoc,wsum];omega
theorem Qvl(zs:List Int)(l:List Nat)(h:tal zs=l)(k:Nat)(hk:k<=16):wsum zs k=((List.range k).map (fun i=>l.getD i 0*2^(15-i))).sum:=by
 induction k with
 | zero=>rfl
 | succ k ih=>
   rw[wsum,ih (by omega),List.range_succ,List.map_append,List.sum_append,<-h]
   simp only[List.map_cons,List.map_nil,List.sum_cons,List.sum_nil,Nat.add_zero,Qcu zs k (show k<16 by omega)]
theorem Xfn{zs:List Int}(h:Qal zs=true):wsum zs 16<=32768:=by
 unfold Qal okT at h
 rw[Bool.and_eq_true,Bool.or_eq_true,Bool.or_eq_true,beq_iff_eq,beq_iff_eq,beq_iff_eq] at h
 rcases h.2 with (h | h) | h
 ·omega
 ·rw[Qvl zs _ h 16 (Nat.le_refl _)];decide
 ·rw[Qvl zs _ h 16 (Nat.le_refl _)];decide
theorem Qjk{zs:List Int}(h:Qal zs=true)(l:Nat)(hl:l<=15):first zs l+cnt zs l<=2^l:=by
 have h1:(first zs l+cnt zs l)*2^(15-l)=wsum zs (l+1):=by rw[Nat.add_mul,Qxr zs l hl,wsum]
 have h2:=Qx7 zs (l+1) (16-(l+1))
 rw[show l+1+(16-(l+1))=16 from by omega] at h2
 have h3:=Xfn h
 have h4:(first zs l+cnt zs l)*2^(15-l)<=2^l*2^(15-l):=by
  rw[h1,<-Nat.pow_add,show l+(15-l)=15 from by omega];omega
 exact Nat.le_of_mul_le_mul_right h4 (Nat.two_pow_pos _)
theorem Qmg(p:Int->Bool)(zs:List Int)(s:Nat)(hs:s<zs.length)(h:p (zs.getD s 0)=true):(zs.take s).countP p<zs.countP p:=by
 have e:zs.countP p=(zs.take s).countP p+(zs.drop s).countP p:=by
  rw[<-List.countP_append,List.take_append_drop]
 have e2:zs.drop s=zs.getD s 0::zs.drop (s+1):=by
  rw[List.drop_eq_getElem_cons hs]
  simp[List.getD,List.getElem?_eq_getElem hs]
 rw[e,e2,List.countP_cons,if_pos h]
 omega
theorem Qen(zs:List Int)(s l:Nat)(hs:s<zs.length)(hz:zs.getD s 0=(l:Int))(h0:0<l):cnt (zs.take s) l<cnt zs l:=by
 unfold cnt
 rw[if_neg (by omega),if_neg (by omega)]
 exact Qmg _ zs s hs (by rw[hz];simp)
theorem Qh8{zs:List Int}(h:Qal zs=true)(s l:Nat)(hs:s<zs.length)(hz:zs.getD s 0=(l:Int))(h0:0<l)(hl:l<=15):Qbx zs s<2^l:=by
 have h1:=Qjk h l hl
 have h2:=Qen zs s l hs hz h0
 unfold Qbx
 rw[hz,Int.toNat_natCast]
 omega
def symL(zs ys:List Int)(k:Nat):Nat:=(zs.getD (ys.getD k 0).toNat 0).toNat
def has(zs:List Int)(s:Int):Bool:=decide (0<=s)&&decide (s<(zs.length:Int))&&zs.getD s.toNat 0 != 0
def padN(n:Nat):Nat:=if n%8=0 then 0 else 8-n%8
def Qbz(N n:Nat):List Int:=Qex (N*2^padN n) (n+padN n)
theorem Qga(N n j:Nat):0<=(Qbz N n).getD j 0∧(Qbz N n).getD j 0<=255:=Xb2 _ _ _
theorem Qbt(N n:Nat):(Qbz N n).length=(n+7)/8:=by
 unfold Qbz padN
 rw[Qa9]
 split<;>omega
end Hf
end
/-
 Plain facts on how codes are found in bits.
-/
section
namespace Hf
def bitV(b:List Int)(i:Nat):Nat:=(b.getD (i/8) 0).toNat/2^(7-i%8)%2
theorem Qol(b:List Int)(i:Nat):bitV b i<2:=Nat.mod_lt _ (by decide)
def vb(b:List Int)(at':Nat):Nat->Nat
 | 0=>0
 | l+1=>vb b at' l*2+bitV b (at'+l)
theorem Xg4(b:List Int)(at' l:Nat):vb b at' l<2^l:=by
 induction l with
 | zero=>simp[vb]
 | succ l ih=>
   have:=Qol b (at'+l)
   rw[vb,Nat.pow_succ];omega
def who(zs:List Int)(l c:Nat):Option Nat:=(List.range zs.length).find? (fun s=>zs.getD s 0==(l:Int)&&Qbx zs s==c)
def oneG(zs b:List Int)(at':Nat):Nat->Nat->Int×Int
 | 0,_=>(-1,0)
 | f+1,l=>if l<16∧at'+l<=8*b.length then (match who zs l (vb b at' l) with | some s=>((s:Int),(l:Int)) | none=>oneG zs b at' f (l+1)) else (-1,0)
def oneF(zs b:List Int)(at':Nat):Int×Int:=oneG zs b at' 16 1
theorem Qf1(zs:List Int)(s l:Nat)(h:zs.getD s 0=(l:Int)):Qbx zs s=first zs l+cnt (zs.take s) l:=by
 unfold Qbx;rw[h,Int.toNat_natCast]
theorem Qii(zs:List Int)(l s t:Nat)(h0:0<l)(hs:s<t)(ht:t<=zs.length)(hz:zs.getD s 0=(l:Int)):cnt (zs.take s) l<cnt (zs.take t) l:=by
 have e:(zs.take t).take s=zs.take s:=by rw[List.take_take,Nat.min_eq_left (by omega)]
 rw[<-e]
 refine Qen (zs.take t) s l (by rw[List.length_take];omega) ?_ h0
 rw[<-hz]
 simp[List.getD,List.getElem?_take_of_lt hs]
theorem code_inj(zs:List Int)(l s t:Nat)(h0:0<l)(hs:s<zs.length)(ht:t<zs.length)(h1:zs.getD s 0=(l:Int))(h2:zs.getD t 0=(l:Int))(he:Qbx zs s=Qbx zs t):s=t:=by
 rw[Qf1 zs s l h1,Qf1 zs t l h2] at he
 rcases Nat.lt_trichotomy s t with h | h | h
 ·have:=Qii zs l s t h0 h (by omega) h1;omega
 ·exact h
 ·have:=Qii zs l t s h0 h (by omega) h2;omega
theorem Qve{zs:List Int}{l c s:Nat}(h0:0<l)(hs:s<zs.length)(hz:zs.getD s 0=(l:Int))(hc:Qbx zs s=c):who zs l c=some s:=by
 unfold who
 cases hf:(List.range zs.length).find? (fun s=>zs.getD s 0==(l:Int)&&Qbx zs s==c) with
 | none=>
   rw[List.find?_eq_none] at hf
   exact absurd (by rw[hz,hc];simp) (hf s (by simpa using hs))
 | some t=>
   have h1:=List.find?_some hf
   have h2:=List.mem_of_find?_eq_some hf
   rw[Bool.and_eq_true,beq_iff_eq,beq_iff_eq] at h1
   rw[code_inj zs l t s h0 (by simpa using h2) hs h1.1 hz (by rw[h1.2,hc])]
theorem Qul{zs:List Int}{l c:Nat}(h:∀s,s<zs.length->zs.getD s 0=(l:Int)->Qbx zs s≠c):who zs l c=none:=by
 unfold who
 rw[List.find?_eq_none]
 intro s hs hb
 rw[Bool.and_eq_true,beq_iff_eq,beq_iff_eq] at hb
 exact h s (by simpa using hs) hb.1 hb.2
end Hf
end
end Go.Proofs.YtibjlbcnapoblaaGreatDoor
