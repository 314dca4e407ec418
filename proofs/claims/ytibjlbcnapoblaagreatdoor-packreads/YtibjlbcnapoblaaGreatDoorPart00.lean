/-
 Plain facts on lengths, how many there are of each, and the codes of lengths.
-/
import Derived.Laws.BitsAllLaws
namespace Go.Proofs.YtibjlbcnapoblaaGreatDoor
namespace Hf
def cnt(zs:List Int)(l:Nat):Nat:=if l=0 then 0 else zs.countP (fun z=>z==(l:Int))
def tal(zs:List Int):List Nat:=(List.range 16).map (cnt zs)
theorem cnt_zero(zs:List Int):cnt zs 0=0:=by simp[cnt]
theorem cnt_le(zs:List Int)(l:Nat):cnt zs l<=zs.length:=by
 unfold cnt;split
 ·omega
 ·exact List.countP_le_length
theorem tal_length(zs:List Int):(tal zs).length=16:=by simp[tal]
theorem tal_getD(zs:List Int)(l:Nat)(h:l<16):(tal zs).getD l 0=cnt zs l:=by
 simp[tal,List.getD,h]
theorem cnt_snoc(zs:List Int)(z:Int)(l:Nat):cnt (zs++ [z]) l=cnt zs l+(if l≠0∧z=(l:Int) then 1 else 0):=by
 unfold cnt
 by_cases h:l=0
 ·simp[h]
 ·simp only[h,if_false,List.countP_append,List.countP_singleton,ne_eq,not_false_eq_true,true_and]
  by_cases h2:z=(l:Int)
  ·simp[h2]
  ·simp[h2]
theorem tal_nil:tal []=List.replicate 16 0:=by decide
theorem list_ext_getD{l m:List Nat}(h:l.length=m.length)(he:∀i,i<l.length->l.getD i 0=m.getD i 0):l=m:=by
 refine List.ext_getElem h (fun i h1 h2=>?_)
 have:=he i h1
 simpa [List.getD,List.getElem?_eq_getElem h1,List.getElem?_eq_getElem h2] using this
theorem getD_set(l:List Nat)(i j v:Nat)(h:i<l.length):(l.set i v).getD j 0=if j=i then v else l.getD j 0:=by
 simp only[List.getD,List.getElem?_set]
 by_cases e:i=j
 ·subst e;simp[h]
 ·rw[if_neg e,if_neg (fun x=>e x.symm)]
theorem tal_snoc(zs:List Int)(l:Nat)(h0:0<l)(h:l<16):tal (zs++ [(l:Int)])=(tal zs).set l (cnt zs l+1):=by
 refine list_ext_getD (by simp[tal_length]) (fun i hi=>?_)
 rw[tal_length] at hi
 rw[tal_getD _ _ hi,getD_set _ _ _ _ (by rw[tal_length];exact h),tal_getD _ _ hi,cnt_snoc]
 by_cases e:i=l
 ·subst e;simp;omega
 ·rw[if_neg e,if_neg (by omega)];rfl
theorem tal_snoc0(zs:List Int)(z:Int)(h:z<=0):tal (zs++ [z])=tal zs:=by
 refine list_ext_getD (by simp[tal_length]) (fun i hi=>?_)
 rw[tal_length] at hi
 rw[tal_getD _ _ hi,tal_getD _ _ hi,cnt_snoc,if_neg (by omega)];rfl
def wsum(zs:List Int):Nat->Nat
 | 0=>0
 | k+1=>wsum zs k+cnt zs k*2^(15-k)
theorem wsum_le(zs:List Int)(k:Nat):wsum zs k<=k*(zs.length*32768):=by
 induction k with
 | zero=>simp[wsum]
 | succ k ih=>
   have h1:=cnt_le zs k
   have h2:2^(15-k)<=2^15:=Nat.pow_le_pow_right (by decide) (by omega)
   have h3:cnt zs k*2^(15-k)<=zs.length*32768:=Nat.mul_le_mul h1 (by simpa using h2)
   rw[wsum,Nat.add_mul];omega
def z16:List Nat:=List.replicate 16 0
theorem z16_getD(i:Nat):z16.getD i 0=0:=by
 by_cases h:i<16
 ·have:∀i,i<16->z16.getD i 0=0:=by decide
  exact this i h
 ·have:z16[i]?=none:=List.getElem?_eq_none (by simp[z16];omega)
  simp[List.getD,this]
def one16:List Nat:=0::1::List.replicate 14 0
def lenOk(zs:List Int):Bool:=decide (zs.length<=512)&&zs.all (fun z=>decide (0<=z)&&decide (z<=15))
def okT(zs:List Int):Bool:=wsum zs 16==32768||tal zs==z16||tal zs==one16
def checkB(zs:List Int):Bool:=lenOk zs&&okT zs
def checkF(zs:List Int):Int:=if checkB zs then 0 else 51
def first(zs:List Int):Nat->Nat
 | 0=>0
 | k+1=>(first zs k+cnt zs k)*2
theorem first_le(zs:List Int)(k:Nat):first zs k+2*zs.length<=zs.length*2^(k+1):=by
 induction k with
 | zero=>simp[first];omega
 | succ k ih=>
   have h1:=cnt_le zs k
   rw[first,Nat.pow_succ 2 (k+1),<-Nat.mul_assoc]
   omega
theorem first_small(zs:List Int)(k:Nat)(hk:k<16)(hl:zs.length<=520):first zs k+zs.length<=34078720:=by
 have h:=first_le zs k
 have h2:2^(k+1)<=2^16:=Nat.pow_le_pow_right (by decide) (by omega)
 have h3:zs.length*2^(k+1)<=520*65536:=Nat.mul_le_mul hl (by simpa using h2)
 omega
def fillF(zs:List Int)(k:Nat):List Nat:=(List.range 16).map (fun l=>if l<k then first zs l else 0)
theorem fillF_length(zs:List Int)(k:Nat):(fillF zs k).length=16:=by simp[fillF]
theorem fillF_getD(zs:List Int)(k l:Nat)(h:l<16):(fillF zs k).getD l 0=if l<k then first zs l else 0:=by
 simp[fillF,List.getD,h]
theorem fillF_one(zs:List Int):fillF zs 1=z16:=by
 refine list_ext_getD (by simp[fillF,z16]) (fun i hi=>?_)
 rw[fillF_length] at hi
 rw[fillF_getD _ _ _ hi]
 rw[z16_getD]
 by_cases h:i<1
 ·obtain rfl:i=0:=by omega
  simp[first]
 ·simp[h]
theorem fillF_set(zs:List Int)(k:Nat)(h0:0<k)(h:k<16):(fillF zs k).set k ((first zs (k-1)+cnt zs (k-1))*2)=fillF zs (k+1):=by
 have e:(first zs (k-1)+cnt zs (k-1))*2=first zs k:=by
  conv=>rhs;rw[show k=(k-1)+1 from by omega,first]
 rw[e]
 refine list_ext_getD (by simp[fillF]) (fun i hi=>?_)
 rw[List.length_set,fillF_length] at hi
 rw[getD_set _ _ _ _ (by rw[fillF_length];exact h),fillF_getD _ _ _ hi,fillF_getD _ _ _ hi]
 by_cases e:i=k
 ·subst e;simp
 ·rw[if_neg e]
  by_cases h2:i<k
  ·rw[if_pos h2,if_pos (by omega)]
  ·rw[if_neg h2,if_neg (by omega)]
def nextL(zs:List Int)(k:Nat):List Nat:=(List.range 16).map (fun l=>first zs l+cnt (zs.take k) l)
theorem nextL_length(zs:List Int)(k:Nat):(nextL zs k).length=16:=by simp[nextL]
theorem nextL_getD(zs:List Int)(k l:Nat)(h:l<16):(nextL zs k).getD l 0=first zs l+cnt (zs.take k) l:=by
 simp[nextL,List.getD,h]
theorem nextL_zero(zs:List Int):nextL zs 0=fillF zs 16:=by
 refine list_ext_getD (by simp[fillF,nextL]) (fun i hi=>?_)
 rw[nextL_length] at hi
 rw[nextL_getD _ _ _ hi,fillF_getD _ _ _ hi,if_pos hi]
 simp[cnt]
theorem take_snoc(zs:List Int)(k:Nat)(hk:k<zs.length):zs.take (k+1)=zs.take k++ [zs.getD k 0]:=by
 rw[List.take_succ_eq_append_getElem hk]
 simp[List.getD,List.getElem?_eq_getElem hk]
theorem nextL_set(zs:List Int)(k l:Nat)(hk:k<zs.length)(hz:zs.getD k 0=(l:Int))(h0:0<l)(h:l<16):(nextL zs k).set l (first zs l+cnt (zs.take k) l+1)=nextL zs (k+1):=by
 refine list_ext_getD (by simp[nextL]) (fun i hi=>?_)
 rw[List.length_set,nextL_length] at hi
 rw[getD_set _ _ _ _ (by rw[nextL_length];exact h),nextL_getD _ _ _ hi,nextL_getD _ _ _ hi,take_snoc zs k hk,hz,cnt_snoc]
 by_cases e:i=l
 ·subst e;rw[if_pos rfl,if_pos ⟨by omega,rfl⟩];omega
 ·rw[if_neg e,if_neg (by omega)];rfl
theorem nextL_same(zs:List Int)(k:Nat)(hk:k<zs.length)(hz:zs.getD k 0<=0):nextL zs (k+1)=nextL zs k:=by
 refine list_ext_getD (by simp[nextL]) (fun i hi=>?_)
 rw[nextL_length] at hi
 rw[nextL_getD _ _ _ hi,nextL_getD _ _ _ hi,take_snoc zs k hk,cnt_snoc,if_neg (by omega)];rfl
def codeN(zs:List Int)(s:Nat):Nat:=first zs (zs.getD s 0).toNat+cnt (zs.take s) (zs.getD s 0).toNat
def codeF(zs:List Int)(s:Nat):Int:=if 0<zs.getD s 0 then ((codeN zs s%65536:Nat):Int) else 0
def codesL(zs:List Int):List Int:=(List.range zs.length).map (codeF zs)
theorem codesL_length(zs:List Int):(codesL zs).length=zs.length:=by simp[codesL]
theorem codesL_getD(zs:List Int)(s:Nat)(h:s<zs.length):(codesL zs).getD s 0=codeF zs s:=by
 simp[codesL,List.getD,h]
theorem codeF_rng(zs:List Int)(s:Nat):0<=codeF zs s∧codeF zs s<=65535:=by
 unfold codeF;split
 ·have:=Nat.mod_lt (codeN zs s) (show 0<65536 by decide);omega
 ·omega
theorem codesL_rng(zs:List Int)(j:Nat):0<=(codesL zs).getD j 0∧(codesL zs).getD j 0<=65535:=by
 by_cases h:j<zs.length
 ·rw[codesL_getD zs j h];exact codeF_rng zs j
 ·have:(codesL zs)[j]?=none:=List.getElem?_eq_none (by rw[codesL_length];omega)
  simp[List.getD,this]
def sumR(zs:List Int):Nat:=(zs.map (fun z=>if 0<z then 2^(15-z.toNat) else 0)).sum
def someR(zs:List Int):Nat:=zs.countP (fun z=>decide (0<z))
def oneR(zs:List Int):Nat:=zs.countP (fun z=>z==1)
theorem sumR_snoc(zs:List Int)(z:Int):sumR (zs++ [z])=sumR zs+(if 0<z then 2^(15-z.toNat) else 0):=by
 simp[sumR]
theorem someR_snoc(zs:List Int)(z:Int):someR (zs++ [z])=someR zs+(if 0<z then 1 else 0):=by
 simp[someR,List.countP_append,List.countP_singleton]
theorem oneR_snoc(zs:List Int)(z:Int):oneR (zs++ [z])=oneR zs+(if z=1 then 1 else 0):=by
 simp[oneR,List.countP_append,List.countP_singleton]
theorem sumR_le(zs:List Int):sumR zs<=zs.length*32768:=by
 induction zs with
 | nil=>simp[sumR]
 | cons z l ih=>
   have h2:2^(15-z.toNat)<=2^15:=Nat.pow_le_pow_right (by decide) (by omega)
   have h2':2^(15-z.toNat)<=32768:=by simpa using h2
   simp only[sumR,List.map_cons,List.sum_cons,List.length_cons,Nat.add_mul] at ih|-
   split<;>omega
theorem wsum_snoc(zs:List Int)(z:Int)(k:Nat):wsum (zs++ [z]) k=wsum zs k+(if 0<z∧z.toNat<k then 2^(15-z.toNat) else 0):=by
 induction k with
 | zero=>simp[wsum]
 | succ k ih=>
   rw[wsum,wsum,ih,cnt_snoc]
   by_cases h:k≠0∧z=(k:Int)
   ·have h3:0<z∧z.toNat<k+1:=by omega
    have h4:¬(0<z∧z.toNat<k):=by omega
    have h5:z.toNat=k:=by omega
    rw[if_pos h,if_neg h4,if_pos h3,h5,Nat.add_mul];omega
   ·rw[if_neg h]
    by_cases h2:0<z∧z.toNat<k
    ·rw[if_pos h2,if_pos ⟨h2.1,by omega⟩,Nat.add_zero];omega
    ·rw[if_neg h2,if_neg (by omega)];rfl
theorem wsum_nil(k:Nat):wsum [] k=0:=by
 induction k with
 | zero=>rfl
 | succ k ih=>rw[wsum,ih];simp[cnt]
theorem snoc_ind{p:List Int->Prop}(h0:p [])(h1:∀l z,p l->p (l++ [z]))(zs:List Int):p zs:=by
 have h:∀n,p (zs.take n):=by
  intro n
  induction n with
  | zero=>simpa using h0
  | succ n ih=>
    by_cases hn:n<zs.length
    ·rw[take_snoc zs n hn];exact h1 _ _ ih
    ·rw[List.take_of_length_le (by omega)];rw[List.take_of_length_le (by omega)] at ih;exact ih
 simpa using h zs.length
theorem wsum_sumR(zs:List Int)(h:∀z∈zs,0<=z∧z<=15):wsum zs 16=sumR zs:=by
 revert h
 refine snoc_ind (p:=fun zs=>(∀z∈zs,0<=z∧z<=15)->wsum zs 16=sumR zs) (fun _=>by rw[wsum_nil];rfl) (fun l z ih h=>?_) zs
 have hz:=h z (by simp)
 rw[wsum_snoc,sumR_snoc,ih (fun y hy=>h y (by simp[hy]))]
 by_cases h0:0<z
 ·rw[if_pos ⟨h0,by omega⟩,if_pos h0]
 ·rw[if_neg (by omega),if_neg h0]
theorem cnt_some(zs:List Int)(l:Nat):cnt zs l<=someR zs:=by
 unfold cnt someR
 split
 ·omega
 ·refine List.countP_mono_left (fun z _ hz=>?_)
  have:z=(l:Int):=by simpa using hz
  simp;omega
theorem tal_zero_iff(zs:List Int)(h:∀z∈zs,0<=z∧z<=15):(tal zs==z16)=(someR zs==0):=by
 rw[Bool.eq_iff_iff,beq_iff_eq,beq_iff_eq]
 constructor
 ·intro e
  unfold someR
  rw[List.countP_eq_zero]
  intro z hz hpos
  have hpos':0<z:=by simpa using hpos
  have hr:=h z hz
  have hc:cnt zs z.toNat=0:=by
   rw[<-tal_getD zs z.toNat (by omega),e,z16_getD]
  unfold cnt at hc
  rw[if_neg (by omega),List.countP_eq_zero] at hc
  exact hc z hz (by simp;omega)
 ·intro e
  refine list_ext_getD (by simp[tal_length,z16]) (fun i hi=>?_)
  rw[tal_length] at hi
  rw[tal_getD zs i hi]
  have:=cnt_some zs i
  rw[z16_getD];omega
theorem one_split(zs:List Int)(h:∀z∈zs,0<=z∧z<=15):(tal zs==one16)=(someR zs==1&&oneR zs==1):=by
 have hone:cnt zs 1=oneR zs:=by unfold cnt oneR;simp
 have hsp:someR zs=oneR zs+zs.countP (fun z=>decide (1<z)):=by
  unfold someR oneR
  clear hone h
  induction zs with
  | nil=>rfl
  | cons z l ih=>
    rw[List.countP_cons,List.countP_cons,List.countP_cons,ih]
    by_cases h1:1<z
    ·simp[h1,show 0<z from by omega,show ¬z=1 from by omega];omega
    ·by_cases h2:z=1
     ·subst h2;simp;omega
     ·simp[h1,h2,show ¬0<z from by omega]
 rw[Bool.eq_iff_iff,beq_iff_eq,Bool.and_eq_true,beq_iff_eq,beq_iff_eq]
 constructor
 ·intro e
  have h1:oneR zs=1:=by rw[<-hone,<-tal_getD zs 1 (by decide),e];rfl
  have h2:zs.countP (fun z=>decide (1<z))=0:=by
   rw[List.countP_eq_zero]
   intro z hz hpos
   have hpos':1<z:=by simpa using hpos
   have hr:=h z hz
   have hc:cnt zs z.toNat=0:=by
    rw[<-tal_getD zs z.toNat (by omega),e]
    have:∀i,i<16->1<i->one16.getD i 0=0:=by decide
    exact this _ (by omega) (by omega)
   unfold cnt at hc
   rw[if_neg (by omega),List.countP_eq_zero] at hc
   exact hc z hz (by simp;omega)
  omega
 ·rintro ⟨h1,h2⟩
  have h3:zs.countP (fun z=>decide (1<z))=0:=by omega
  refine list_ext_getD (by simp[tal_length,one16]) (fun i hi=>?_)
  rw[tal_length] at hi
  rw[tal_getD zs i hi]
  by_cases e0:i=0
  ·subst e0;rw[cnt_zero];rfl
  ·by_cases e1:i=1
   ·subst e1;rw[hone,h2];rfl
   ·have:∀i,i<16->1<i->one16.getD i 0=0:=by decide
    rw[this i hi (by omega)]
    unfold cnt
    rw[if_neg e0,List.countP_eq_zero]
    intro z hz hzi
    rw[List.countP_eq_zero] at h3
    have:z=(i:Int):=by simpa using hzi
    exact h3 z hz (by simp;omega)
theorem lenOk_all{zs:List Int}(h:lenOk zs=true):zs.length<=512∧∀z∈zs,0<=z∧z<=15:=by
 unfold lenOk at h
 rw[Bool.and_eq_true,decide_eq_true_eq,List.all_eq_true] at h
 exact⟨h.1,fun z hz=>by simpa using h.2 z hz⟩
def okR(zs:List Int):Bool:=(someR zs==0||(someR zs==1&&oneR zs==1))||sumR zs==32768
theorem okR_okT{zs:List Int}(h:lenOk zs=true):okR zs=okT zs:=by
 have ha:=(lenOk_all h).2
 unfold okR okT
 rw[wsum_sumR zs ha,tal_zero_iff zs ha,one_split zs ha]
 cases (sumR zs==32768)<;>cases (someR zs==0)<;>cases (someR zs==1&&oneR zs==1)<;>rfl
end Hf
end Go.Proofs.YtibjlbcnapoblaaGreatDoor
/-
 Repetitions as lists: how many bytes are alike, the longest copy, the tokens of a row. Plain mathematics.
-/
namespace Go.Proofs.YtibjlbcnapoblaaGreatDoor.Lz
def com(bs:List Int):Nat->Nat->Nat->Nat
 | _,_,0=>0
 | p,q,k+1=>if bs.getD p 0=bs.getD q 0 then com bs (p+1) (q+1) k+1 else 0
theorem com_le(bs:List Int):∀k p q,com bs p q k<=k
 | 0,_,_=>Nat.le_refl _
 | k+1,p,q=>by
   unfold com
   have:=com_le bs k (p+1) (q+1)
   split<;>omega
theorem com_same(bs:List Int):∀k p q j,j<com bs p q k->bs.getD (p+j) 0=bs.getD (q+j) 0
 | 0,_,_,j,h=>absurd h (by simp[com])
 | k+1,p,q,j,h=>by
   unfold com at h
   split at h
   ·rename_i e
    cases j with
    | zero=>simpa using e
    | succ j=>
      have:=com_same bs k (p+1) (q+1) j (by omega)
      rw[show p+(j+1)=p+1+j from by omega,show q+(j+1)=q+1+j from by omega]
      exact this
   ·omega
theorem com_stop(bs:List Int):∀k p q,com bs p q k<k->bs.getD (p+com bs p q k) 0≠bs.getD (q+com bs p q k) 0
 | 0,_,_,h=>absurd h (by omega)
 | k+1,p,q,h=>by
   unfold com at h|-
   split at h
   ·rename_i e
    rw[if_pos e]
    have:=com_stop bs k (p+1) (q+1) (by omega)
    rw[show p+(com bs (p+1) (q+1) k+1)=p+1+com bs (p+1) (q+1) k from by omega,show q+(com bs (p+1) (q+1) k+1)=q+1+com bs (p+1) (q+1) k from by omega]
    exact this
   ·rename_i e
    rw[if_neg e]
    exact e
theorem com_eq(bs:List Int)(k p q n:Nat)(hn:n<=k)(hs:∀j,j<n->bs.getD (p+j) 0=bs.getD (q+j) 0)(he:n=k∨bs.getD (p+n) 0≠bs.getD (q+n) 0):com bs p q k=n:=by
 rcases Nat.lt_trichotomy (com bs p q k) n with h | h | h
 ·exact absurd (hs _ h) (com_stop bs k p q (by omega))
 ·exact h
 ·rcases he with rfl | he
  ·have:=com_le bs n p q;omega
  ·exact absurd (com_same bs k p q n h) he
def better(bs:List Int)(q k:Nat)(s:Nat×Nat)(p:Nat):Nat×Nat:=if s.2<com bs p q k then (q-p,com bs p q k) else s
def best(bs:List Int)(q k:Nat)(ps:List Nat):Nat×Nat:=ps.foldl (better bs q k) (0,3)
theorem best_snoc(bs:List Int)(q k:Nat)(ps:List Nat)(p:Nat):best bs q k (ps++ [p])=better bs q k (best bs q k ps) p:=by simp[best]
def most(bs:List Int)(q:Nat):Nat:=min (bs.length-q) 258
theorem better_full{bs:List Int}{q k:Nat}{s:Nat×Nat}(h:k<=s.2)(p:Nat):better bs q k s p=s:=by
 unfold better
 have:=com_le bs k p q
 rw[if_neg (by omega)]
theorem fold_full{bs:List Int}{q k:Nat}{s:Nat×Nat}(h:k<=s.2):∀ps:List Nat,ps.foldl (better bs q k) s=s
 | []=>rfl
 | p::ps=>by rw[List.foldl_cons,better_full h];exact fold_full h ps
theorem best_full{bs:List Int}{q k:Nat}{ps:List Nat}(h:k<=(best bs q k ps).2){qs:List Nat}(hp:ps <+: qs):best bs q k qs=best bs q k ps:=by
 obtain⟨r,rfl⟩:=hp
 unfold best
 rw[List.foldl_append]
 exact fold_full h r
theorem better_ge(bs:List Int)(q k:Nat)(s:Nat×Nat)(p:Nat):s.2<=(better bs q k s p).2:=by
 unfold better;split
 ·simp;omega
 ·exact Nat.le_refl _
def Good(q k:Nat)(s:Nat×Nat):Prop:=(s.1=0∧s.2=3)∨(1<=s.1∧s.1<=q∧4<=s.2∧s.2<=k)
theorem good_better{bs:List Int}{q k:Nat}{s:Nat×Nat}(h:Good q k s){p:Nat}(hp:p<q):Good q k (better bs q k s p):=by
 unfold better
 split
 ·rename_i hlt
  have:=com_le bs k p q
  refine .inr ⟨by simp;omega,by simp,?_,this⟩
  rcases h with ⟨_,h2⟩ | ⟨_,_,h2,_⟩<;>simp<;>omega
 ·exact h
theorem good_fold{bs:List Int}{q k:Nat}:∀(ps:List Nat) (s:Nat×Nat),Good q k s->(∀p∈ps,p<q)->Good q k (ps.foldl (better bs q k) s)
 | [],_,h,_=>h
 | p::ps,s,h,hp=>good_fold ps _ (good_better h (hp p (by simp))) (fun x hx=>hp x (by simp[hx]))
theorem good_best{bs:List Int}{q k:Nat}{ps:List Nat}(hp:∀p∈ps,p<q):Good q k (best bs q k ps):=good_fold ps _ (.inl ⟨rfl,rfl⟩) hp
abbrev Tok:=Nat×Nat×Int
def tokOf(bs:List Int)(q:Nat)(s:Nat×Nat):Tok:=if s.1=0 then (0,1,bs.getD q 0) else (s.1,s.2,0)
def aheadL(q:Nat):List Nat:=(List.range (min q 4096)).map fun j=>q-1-j
theorem mem_aheadL{q p:Nat}(h:p∈aheadL q):p<q∧q-p<=4096:=by
 unfold aheadL at h
 rw[List.mem_map] at h
 obtain⟨j,hj,rfl⟩:=h
 rw[List.mem_range] at hj
 omega
def longT(bs:List Int)(q:Nat):Tok:=tokOf bs q (best bs q (most bs q) (aheadL q))
def same4(bs:List Int)(p q:Nat):Bool:=bs.getD p 0==bs.getD q 0&&(bs.getD (p+1) 0==bs.getD (q+1) 0&&(bs.getD (p+2) 0==bs.getD (q+2) 0&&bs.getD (p+3) 0==bs.getD (q+3) 0))
theorem same4_of_com{bs:List Int}{k p q:Nat}(h:3<com bs p q k):same4 bs p q=true:=by
 have h0:=com_same bs k p q 0 (by omega)
 have h1:=com_same bs k p q 1 (by omega)
 have h2:=com_same bs k p q 2 (by omega)
 have h3:=com_same bs k p q 3 (by omega)
 unfold same4
 simp only[Nat.add_zero] at h0
 rw[h0,h1,h2,h3]
 simp
theorem fold_filter{bs:List Int}{q k:Nat}:∀(ps:List Nat) (s:Nat×Nat),3<=s.2->(ps.filter fun p=>same4 bs p q).foldl (better bs q k) s=ps.foldl (better bs q k) s
 | [],_,_=>rfl
 | p::ps,s,h=>by
   have hg:=better_ge bs q k s p
   cases hs:same4 bs p q with
   | true=>
     rw[List.filter_cons_of_pos (by simpa using hs),List.foldl_cons,List.foldl_cons]
     exact fold_filter ps _ (by omega)
   | false=>
     rw[List.filter_cons_of_neg (by simp[hs]),List.foldl_cons]
     have e:better bs q k s p=s:=by
      unfold better
      rw[if_neg]
      intro hlt
      rw[same4_of_com (k:=k) (by omega)] at hs
      cases hs
     rw[e]
     exact fold_filter ps s h
def alikeL(bs:List Int)(q:Nat):List Nat:=if q+4<=bs.length then (aheadL q).filter fun p=>same4 bs p q else []
theorem best_alike(bs:List Int)(q:Nat):best bs q (most bs q) (alikeL bs q)=best bs q (most bs q) (aheadL q):=by
 unfold alikeL
 split
 ·exact fold_filter _ _ (Nat.le_refl _)
 ·have hm:most bs q<=3:=by unfold most;omega
  unfold best
  rw[fold_full (s:=(0,3)) hm,fold_full (s:=(0,3)) hm]
theorem longT_alike(bs:List Int)(q:Nat):tokOf bs q (best bs q (most bs q) (alikeL bs q))=longT bs q:=by rw[best_alike];rfl
theorem longT_good(bs:List Int)(q:Nat):Good q (most bs q) (best bs q (most bs q) (aheadL q)):=good_best fun _ hp=>(mem_aheadL hp).1
theorem longT_len(bs:List Int)(q:Nat)(h:q<bs.length):1<=(longT bs q).2.1∧q+(longT bs q).2.1<=bs.length∧(longT bs q).2.1<=258:=by
 have hg:=longT_good bs q
 have hm:most bs q<=bs.length-q∧most bs q<=258:=by unfold most;omega
 unfold longT tokOf
 rcases hg with ⟨h1,h2⟩ | ⟨h1,h2,h3,h4⟩
 ·rw[if_pos h1];simp;omega
 ·rw[if_neg (by omega)];simp;omega
def tks(bs:List Int):Nat->Nat->List Tok
 | 0,_=> []
 | n+1,q=>if q<bs.length then longT bs q::tks bs n (q+(longT bs q).2.1) else []
def toksL(bs:List Int):List Tok:=tks bs bs.length 0
theorem tks_end{bs:List Int}{q:Nat}(h:¬q<bs.length):∀n,tks bs n q= []
 | 0=>rfl
 | n+1=>by unfold tks;rw[if_neg h]
theorem tks_more{bs:List Int}:∀(n q:Nat),bs.length-q<=n->tks bs (n+1) q=tks bs n q
 | 0,q,h=>by rw[tks_end (by omega),tks_end (by omega)]
 | n+1,q,h=>by
   by_cases hq:q<bs.length
   ·have:=longT_len bs q hq
    rw[show tks bs (n+1+1) q=if q<bs.length then longT bs q::tks bs (n+1) (q+(longT bs q).2.1) else [] from rfl,show tks bs (n+1) q=if q<bs.length then longT bs q::tks bs n (q+(longT bs q).2.1) else [] from rfl,if_pos hq,if_pos hq,tks_more n _ (by omega)]
   ·rw[tks_end hq,tks_end hq]
def from_(bs:List Int)(q:Nat):List Tok:=tks bs (bs.length-q) q
theorem tks_from{bs:List Int}(q:Nat):∀d,tks bs (bs.length-q+d) q=from_ bs q
 | 0=>rfl
 | d+1=>by rw[show bs.length-q+(d+1)=bs.length-q+d+1 from by omega,tks_more _ _ (by omega)];exact tks_from q d
theorem from_step{bs:List Int}{q:Nat}(h:q<bs.length):from_ bs q=longT bs q::from_ bs (q+(longT bs q).2.1):=by
 have hl:=longT_len bs q h
 have e:bs.length-q=(bs.length-q-1)+1:=by omega
 unfold from_
 rw[e]
 rw[show tks bs (bs.length-q-1+1) q=if q<bs.length then longT bs q::tks bs (bs.length-q-1) (q+(longT bs q).2.1) else [] from rfl,if_pos h]
 congr 1
 have:=tks_from (bs:=bs) (q+(longT bs q).2.1) (bs.length-q-1-(bs.length-(q+(longT bs q).2.1)))
 rw[show bs.length-(q+(longT bs q).2.1)+(bs.length-q-1-(bs.length-(q+(longT bs q).2.1)))=bs.length-q-1 from by omega] at this
 exact this
theorem from_end{bs:List Int}{q:Nat}(h:¬q<bs.length):from_ bs q= []:=tks_end h _
theorem toksL_from(bs:List Int):toksL bs=from_ bs 0:=by unfold toksL from_;rfl
def nxt(bs:List Int)(q:Nat):Nat->Nat
 | 0=>0
 | m+1=>if same4 bs m q then m+1 else nxt bs q m
theorem nxt_le(bs:List Int)(q:Nat):∀m,nxt bs q m<=m
 | 0=>Nat.le_refl _
 | m+1=>by unfold nxt;have:=nxt_le bs q m;split<;>omega
theorem nxt_same{bs:List Int}{q:Nat}:∀ {m},0<nxt bs q m->same4 bs (nxt bs q m-1) q=true
 | 0,h=>absurd h (by simp[nxt])
 | m+1,h=>by
   unfold nxt at h|-
   split
   ·rename_i e;simpa using e
   ·rename_i e;rw[if_neg e] at h;exact nxt_same h
def chain(bs:List Int)(q:Nat):Nat->List Nat
 | 0=> []
 | m+1=>if same4 bs m q=true∧q-m<=4096 then m::chain bs q m else chain bs q m
theorem chain_far{bs:List Int}{q:Nat}:∀ {m},m+4096<=q->chain bs q m= []
 | 0,_=>rfl
 | m+1,h=>by
   unfold chain
   rw[if_neg (by omega)]
   exact chain_far (by omega)
theorem chain_nxt{bs:List Int}{q:Nat}:∀ {m},chain bs q m=if 0<nxt bs q m∧q-(nxt bs q m-1)<=4096 then (nxt bs q m-1)::chain bs q (nxt bs q m-1) else []
 | 0=>by simp[chain,nxt]
 | m+1=>by
   cases hs:same4 bs m q with
   | true=>
     have e:nxt bs q (m+1)=m+1:=by unfold nxt;rw[hs];simp
     rw[e,show chain bs q (m+1)=if same4 bs m q=true∧q-m<=4096 then m::chain bs q m else chain bs q m from rfl]
     simp only[hs,true_and,Nat.add_sub_cancel]
     by_cases h:q-m<=4096
     ·rw[if_pos h,if_pos ⟨by omega,h⟩]
     ·rw[if_neg h,if_neg (fun h'=>h h'.2),chain_far (by omega)]
   | false=>
     have e:nxt bs q (m+1)=nxt bs q m:=by
      show(if same4 bs m q=true then m+1 else nxt bs q m)=_
      rw[hs];simp
     rw[e]
     have e2:chain bs q (m+1)=chain bs q m:=by
      show(if same4 bs m q=true∧q-m<=4096 then m::chain bs q m else chain bs q m)=_
      rw[hs];simp
     rw[e2]
     exact chain_nxt
theorem chain_eq(bs:List Int)(q:Nat):∀m,m<=q->chain bs q m=(((List.range m).map fun j=>m-1-j).filter fun p=>decide (q-p<=4096)).filter fun p=>same4 bs p q
 | 0,_=>rfl
 | m+1,h=>by
   have ih:=chain_eq bs q m (by omega)
   have e:(List.range (m+1)).map (fun j=>m+1-1-j)=m::(List.range m).map fun j=>m-1-j:=by
    rw[List.range_succ_eq_map,List.map_cons,List.map_map]
    congr 1
    refine List.map_congr_left fun j _=>?_
    simp only[Function.comp]
    omega
   rw[e]
   unfold chain
   by_cases hq:q-m<=4096
   ·rw[List.filter_cons_of_pos (by simpa using hq)]
    cases hs:same4 bs m q with
    | true=>rw[List.filter_cons_of_pos (by simpa using hs),if_pos ⟨rfl,hq⟩,ih]
    | false=>rw[List.filter_cons_of_neg (by simp[hs]),if_neg (by simp),ih]
   ·rw[List.filter_cons_of_neg (by simpa using hq),if_neg (fun h'=>hq h'.2),ih]
theorem ahead_eq(q:Nat):(((List.range q).map fun j=>q-1-j).filter fun p=>decide (q-p<=4096))=aheadL q:=by
 unfold aheadL
 by_cases h:q<=4096
 ·rw[Nat.min_eq_left h,List.filter_eq_self]
  intro p hp
  simp;omega
 ·rw[Nat.min_eq_right (by omega)]
  obtain⟨K,hK⟩:∃K:Nat,K=4096:=⟨_,rfl⟩
  rw[<-hK]
  have e:List.range q=List.range K++(List.range (q-K)).map (K + ·):=by
   rw[<-List.range_add,show K+(q-K)=q from by omega]
  rw[e,List.map_append,List.filter_append]
  have h1:(List.filter (fun p=>decide (q-p<=K)) (List.map (fun j=>q-1-j) (List.range K)))=List.map (fun j=>q-1-j) (List.range K):=by
   rw[List.filter_eq_self]
   intro p hp
   rw[List.mem_map] at hp
   obtain⟨j,hj,rfl⟩:=hp
   rw[List.mem_range] at hj
   simp;omega
  have h2:(List.filter (fun p=>decide (q-p<=K)) (List.map (fun j=>q-1-j) (List.map (fun x=>K+x) (List.range (q-K)))))= []:=by
   rw[List.filter_eq_nil_iff]
   intro p hp
   rw[List.mem_map] at hp
   obtain⟨j,hj,rfl⟩:=hp
   rw[List.mem_map] at hj
   obtain⟨i,hi,rfl⟩:=hj
   rw[List.mem_range] at hi
   simp;omega
  rw[h1,h2,List.append_nil]
theorem chain_alike{bs:List Int}{q:Nat}(h:q+4<=bs.length):chain bs q q=alikeL bs q:=by
 rw[chain_eq bs q q (Nat.le_refl _),ahead_eq]
 unfold alikeL
 rw[if_pos h]
end Go.Proofs.YtibjlbcnapoblaaGreatDoor.Lz
/-
 SHA-256 as plain mathematics over natural numbers: a step, the padding, the digest.
-/
namespace Go.Proofs.YtibjlbcnapoblaaGreatDoor.Sh.Sha
def rot1(x:Nat):Nat:=x/2+x%2*2147483648
def iter(f:Nat->Nat):Nat->Nat->Nat
 | 0,x=>x
 | n+1,x=>iter f n (f x)
theorem iter_zero(f:Nat->Nat)(x:Nat):iter f 0 x=x:=rfl
theorem iter_succ(f:Nat->Nat)(n x:Nat):iter f (n+1) x=iter f n (f x):=rfl
theorem iter_lt(f:Nat->Nat)(B:Nat)(hf:∀x,x<B->f x<B)(n:Nat):∀x:Nat,x<B->iter f n x<B:=by
 induction n with
 | zero=>intro x h;exact h
 | succ n ih=>intro x h;exact ih (f x) (hf x h)
def mov1(x:Nat):Nat:=x/2
def rotN(n x:Nat):Nat:=iter rot1 n x
def movN(n x:Nat):Nat:=iter mov1 n x
def sg0(x:Nat):Nat:=rotN 7 x^^^rotN 18 x^^^movN 3 x
def sg1(x:Nat):Nat:=rotN 17 x^^^rotN 19 x^^^movN 10 x
def up0(x:Nat):Nat:=rotN 2 x^^^rotN 13 x^^^rotN 22 x
def up1(x:Nat):Nat:=rotN 6 x^^^rotN 11 x^^^rotN 25 x
def add32(a b:Nat):Nat:=(a+b)%4294967296
def be4(bl:List Nat)(i:Nat):Nat:=add32 (add32 (add32 (bl.getD (4*i) 0*16777216%4294967296) (bl.getD (4*i+1) 0*65536%4294967296)) (bl.getD (4*i+2) 0*256%4294967296)) (bl.getD (4*i+3) 0)
def next(bl l:List Nat):Nat:=
 if l.length<16 then be4 bl l.length
 else add32 (add32 (add32 (l.getD (l.length-16) 0) (sg0 (l.getD (l.length-15) 0))) (l.getD (l.length-7) 0)) (sg1 (l.getD (l.length-2) 0))
def sched(bl:List Nat):Nat->List Nat
 | 0=> []
 | n+1=>sched bl n++ [next bl (sched bl n)]
def kL:List Nat:= [0x428a2f98,0x71374491,0xb5c0fbcf,0xe9b5dba5,0x3956c25b,0x59f111f1,0x923f82a4,0xab1c5ed5,
 0xd807aa98,0x12835b01,0x243185be,0x550c7dc3,0x72be5d74,0x80deb1fe,0x9bdc06a7,0xc19bf174,
 0xe49b69c1,0xefbe4786,0x0fc19dc6,0x240ca1cc,0x2de92c6f,0x4a7484aa,0x5cb0a9dc,0x76f988da,
 0x983e5152,0xa831c66d,0xb00327c8,0xbf597fc7,0xc6e00bf3,0xd5a79147,0x06ca6351,0x14292967,
 0x27b70a85,0x2e1b2138,0x4d2c6dfc,0x53380d13,0x650a7354,0x766a0abb,0x81c2c92e,0x92722c85,
 0xa2bfe8a1,0xa81a664b,0xc24b8b70,0xc76c51a3,0xd192e819,0xd6990624,0xf40e3585,0x106aa070,
 0x19a4c116,0x1e376c08,0x2748774c,0x34b0bcb5,0x391c0cb3,0x4ed8aa4a,0x5b9cca4f,0x682e6ff3,
 0x748f82ee,0x78a5636f,0x84c87814,0x8cc70208,0x90befffa,0xa4506ceb,0xbef9a3f7,0xc67178f2]
structure St where
 a:Nat
 b:Nat
 c:Nat
 d:Nat
 e:Nat
 f:Nat
 g:Nat
 h:Nat
def St.list(s:St):List Nat:= [s.a,s.b,s.c,s.d,s.e,s.f,s.g,s.h]
def t1F(s:St)(k w:Nat):Nat:=add32 (add32 (add32 (add32 s.h (up1 s.e)) ((s.e&&&s.f)^^^((s.e^^^4294967295)&&&s.g))) k) w
def t2F(s:St):Nat:=add32 (up0 s.a) ((s.a&&&s.b)^^^(s.a&&&s.c)^^^(s.b&&&s.c))
def rnd(s:St)(k w:Nat):St:=⟨add32 (t1F s k w) (t2F s),s.a,s.b,s.c,add32 s.d (t1F s k w),s.e,s.f,s.g⟩
def rounds(ws:List Nat)(s:St):Nat->St
 | 0=>s
 | n+1=>rnd (rounds ws s n) (kL.getD n 0) (ws.getD n 0)
def both(s t:St):St:=⟨add32 s.a t.a,add32 s.b t.b,add32 s.c t.c,add32 s.d t.d,add32 s.e t.e,add32 s.f t.f,add32 s.g t.g,add32 s.h t.h⟩
def step(s:St)(bl:List Nat):St:=both (rounds (sched bl 64) s 64) s
def start:St:=⟨0x6a09e667,0xbb67ae85,0x3c6ef372,0xa54ff53a,0x510e527f,0x9b05688c,0x1f83d9ab,0x5be0cd19⟩
/-! The bounds -/
theorem add32_lt(a b:Nat):add32 a b<2^32:=Nat.mod_lt _ (by decide)
theorem rot1_lt(x:Nat)(h:x<2^32):rot1 x<2^32:=by unfold rot1;omega
theorem mov1_lt(x:Nat)(h:x<2^32):mov1 x<2^32:=by unfold mov1;omega
theorem rotN_lt(n x:Nat)(h:x<2^32):rotN n x<2^32:=iter_lt rot1 (2^32) rot1_lt n x h
theorem movN_lt(n x:Nat)(h:x<2^32):movN n x<2^32:=iter_lt mov1 (2^32) mov1_lt n x h
theorem sg0_lt(x:Nat)(h:x<2^32):sg0 x<2^32:=by
 unfold sg0
 exact Nat.xor_lt_two_pow (Nat.xor_lt_two_pow (rotN_lt _ _ h) (rotN_lt _ _ h)) (movN_lt _ _ h)
theorem sg1_lt(x:Nat)(h:x<2^32):sg1 x<2^32:=by
 unfold sg1
 exact Nat.xor_lt_two_pow (Nat.xor_lt_two_pow (rotN_lt _ _ h) (rotN_lt _ _ h)) (movN_lt _ _ h)
theorem up0_lt(x:Nat)(h:x<2^32):up0 x<2^32:=by
 unfold up0
 exact Nat.xor_lt_two_pow (Nat.xor_lt_two_pow (rotN_lt _ _ h) (rotN_lt _ _ h)) (rotN_lt _ _ h)
theorem up1_lt(x:Nat)(h:x<2^32):up1 x<2^32:=by
 unfold up1
 exact Nat.xor_lt_two_pow (Nat.xor_lt_two_pow (rotN_lt _ _ h) (rotN_lt _ _ h)) (rotN_lt _ _ h)
theorem sched_length(bl:List Nat)(n:Nat):(sched bl n).length=n:=by
 induction n with
 | zero=>rfl
 | succ n ih=>rw[sched,List.length_append,ih];rfl
theorem next_lt(bl l:List Nat):next bl l<2^32:=by
 unfold next
 split
 ·exact add32_lt _ _
 ·exact add32_lt _ _
structure St.Ok (s:St):Prop where
 a:s.a<2^32
 b:s.b<2^32
 c:s.c<2^32
 d:s.d<2^32
 e:s.e<2^32
 f:s.f<2^32
 g:s.g<2^32
 h:s.h<2^32
theorem rnd_ok(s:St)(k w:Nat)(h:s.Ok):(rnd s k w).Ok:=⟨add32_lt _ _,h.a,h.b,h.c,add32_lt _ _,h.e,h.f,h.g⟩
theorem rounds_ok(ws:List Nat)(s:St)(h:s.Ok)(n:Nat):(rounds ws s n).Ok:=by
 induction n with
 | zero=>exact h
 | succ n ih=>exact rnd_ok _ _ _ ih
theorem both_ok(s t:St):(both s t).Ok:=⟨add32_lt _ _,add32_lt _ _,add32_lt _ _,add32_lt _ _,add32_lt _ _,add32_lt _ _,add32_lt _ _,add32_lt _ _⟩
theorem step_ok(s:St)(bl:List Nat):(step s bl).Ok:=both_ok _ _
theorem start_ok:start.Ok:=⟨by decide,by decide,by decide,by decide,by decide,by decide,by decide,by decide⟩
/-! The digest -/
def blocksG(f:St->List Nat->St):Nat->List Nat->St->St
 | 0,_,s=>s
 | n+1,l,s=>blocksG f n (l.drop 64) (f s (l.take 64))
theorem blocksG_zero(f:St->List Nat->St)(l:List Nat)(s:St):blocksG f 0 l s=s:=rfl
theorem blocksG_succ(f:St->List Nat->St)(n:Nat)(l:List Nat)(s:St):blocksG f (n+1) l s=blocksG f n (l.drop 64) (f s (l.take 64)):=rfl
theorem blocksG_ok(f:St->List Nat->St)(hf:∀s l,(f s l).Ok)(n:Nat):∀(l:List Nat) (s:St),s.Ok->(blocksG f n l s).Ok:=by
 induction n with
 | zero=>intro l s h;exact h
 | succ n ih=>intro l s h;rw[blocksG_succ];exact ih _ _ (hf _ _)
def blocks(n:Nat)(l:List Nat)(s:St):St:=blocksG step n l s
theorem blocks_ok(n:Nat)(l:List Nat)(s:St)(h:s.Ok):(blocks n l s).Ok:=blocksG_ok step step_ok n l s h
def pad(n:Nat):List Nat:=128::List.replicate ((119-n%64)%64) 0++(List.range 8).map fun i=>(8*n)%2^64/256^(7-i)%256
def four(x:Nat):List Nat:= [x/16777216%256,x/65536%256,x/256%256,x%256]
def bytes(s:St):List Nat:=four s.a++four s.b++four s.c++four s.d++four s.e++four s.f++four s.g++four s.h
def digest(l:List Nat):List Nat:=bytes (blocks ((l++pad l.length).length/64) (l++pad l.length) start)
end Go.Proofs.YtibjlbcnapoblaaGreatDoor.Sh.Sha
/-
 SHA-256 in a form that the kernel can reckon with: each number is reckoned once.
-/
namespace Go.Proofs.YtibjlbcnapoblaaGreatDoor.Sh.Sha
def force{α:Type}(x:Nat)(f:Nat->α):α:=Nat.rec (f 0) (fun n _=>f n.succ) x
def rotQ(n x:Nat):Nat:=x/2^n+x%2^n*2^(32-n)
theorem rotQ_succ(n x:Nat)(hn:n<32)(_hx:x<2^32):rotQ n (rot1 x)=rotQ (n+1) x:=by
 have hp:(2:Nat)^(32-n)=2*2^(31-n):=by rw[<-Nat.pow_succ',show(31-n).succ=32-n from by omega]
 have hq:(2:Nat)^31=2^n*2^(31-n):=by rw[<-Nat.pow_add,show n+(31-n)=31 from by omega]
 have hn0:(0:Nat)<2^n:=Nat.two_pow_pos n
 have e1:rot1 x=x/2+2^n*(x%2*2^(31-n)):=by
  unfold rot1
  rw[show(2147483648:Nat)=2^31 from rfl,hq,<-Nat.mul_assoc,<-Nat.mul_assoc,Nat.mul_comm (x%2) (2^n)]
 unfold rotQ
 rw[e1,Nat.add_mul_div_left _ _ hn0,Nat.add_mul_mod_self_left,Nat.div_div_eq_div_mul,<-Nat.pow_succ',hp,show 32-(n+1)=31-n from by omega]
 have e2:x%2^(n+1)=x%2+2*(x/2%2^n):=by rw[Nat.pow_succ',Nat.mod_mul]
 rw[e2,Nat.add_mul]
 have e3:x/2%2^n*(2*2^(31-n))=2*(x/2%2^n)*2^(31-n):=by rw[<-Nat.mul_assoc,Nat.mul_comm _ 2]
 rw[e3,Nat.add_assoc]
theorem iter_quick(f:Nat->Nat)(Q:Nat->Nat->Nat)(B M:Nat)(h0:∀x,Q 0 x=x)(hf:∀x,x<B->f x<B)(hs:∀n x,n<M->x<B->Q n (f x)=Q (n+1) x)(n:Nat):∀x:Nat,n<=M->x<B->iter f n x=Q n x:=by
 induction n with
 | zero=>intro x _ _;rw[h0,iter_zero]
 | succ n ih=>intro x hn hx;rw[iter_succ,ih _ (by omega) (hf x hx),hs n x (by omega) hx]
theorem rotQ_zero(x:Nat):rotQ 0 x=x:=by unfold rotQ;rw[Nat.pow_zero,Nat.div_one,Nat.mod_one,Nat.zero_mul,Nat.add_zero]
theorem rotN_quick(n x:Nat)(hn:n<=32)(hx:x<2^32):rotN n x=rotQ n x:=iter_quick rot1 rotQ (2^32) 32 rotQ_zero rot1_lt rotQ_succ n x hn hx
theorem mov_succ(n x:Nat):mov1 x/2^n=x/2^(n+1):=by unfold mov1;rw[Nat.div_div_eq_div_mul,<-Nat.pow_succ']
theorem movN_quick(n x:Nat)(hn:n<=32)(hx:x<2^32):movN n x=x/2^n:=iter_quick mov1 (fun n x=>x/2^n) (2^32) 32 (fun x=>by rw[Nat.pow_zero,Nat.div_one]) mov1_lt (fun n x _ _=>mov_succ n x) n x hn hx
def sgQ0(x:Nat):Nat:=rotQ 7 x^^^rotQ 18 x^^^x/2^3
def sgQ1(x:Nat):Nat:=rotQ 17 x^^^rotQ 19 x^^^x/2^10
def upQ0(x:Nat):Nat:=rotQ 2 x^^^rotQ 13 x^^^rotQ 22 x
def upQ1(x:Nat):Nat:=rotQ 6 x^^^rotQ 11 x^^^rotQ 25 x
theorem sg0_quick(x:Nat)(h:x<2^32):sg0 x=sgQ0 x:=by rw[sg0,sgQ0,rotN_quick _ _ (by decide) h,rotN_quick _ _ (by decide) h,movN_quick _ _ (by decide) h]
theorem sg1_quick(x:Nat)(h:x<2^32):sg1 x=sgQ1 x:=by rw[sg1,sgQ1,rotN_quick _ _ (by decide) h,rotN_quick _ _ (by decide) h,movN_quick _ _ (by decide) h]
def wS(bl:List Nat)(i:Nat):Nat:=next bl (sched bl i)
theorem sched_get(bl:List Nat)(n i:Nat)(h:i<n):(sched bl n).getD i 0=wS bl i:=by
 induction n with
 | zero=>omega
 | succ n ih=>
   rw[sched]
   by_cases hi:i<n
   ·rw[<-ih hi]
    simp[List.getD,List.getElem?_append_left (show i<(sched bl n).length from by rw[sched_length];exact hi)]
   ·have:i=n:=by omega
    subst this
    have hl:=sched_length bl i
    simp[List.getD,wS,hl]
theorem wS_lt(bl:List Nat)(i:Nat):wS bl i<2^32:=next_lt _ _
theorem wS_low(bl:List Nat)(i:Nat)(h:i<16):wS bl i=be4 bl i:=by
 rw[wS,next,sched_length,if_pos h]
theorem wS_next(bl:List Nat)(i:Nat):wS bl (i+16)=add32 (add32 (add32 (wS bl i) (sgQ0 (wS bl (i+1)))) (wS bl (i+9))) (sgQ1 (wS bl (i+14))):=by
 rw[<-sg0_quick _ (wS_lt _ _),<-sg1_quick _ (wS_lt _ _)]
 rw[show wS bl (i+16)=next bl (sched bl (i+16)) from rfl,next,sched_length,if_neg (by omega)]
 rw[sched_get _ _ _ (show i+16-16<i+16 by omega),sched_get _ _ _ (show i+16-15<i+16 by omega),sched_get _ _ _ (show i+16-7<i+16 by omega),sched_get _ _ _ (show i+16-2<i+16 by omega)]
 rfl
def t1Q(e f g h k w:Nat):Nat:=add32 (add32 (add32 (add32 h (upQ1 e)) ((e&&&f)^^^((e^^^4294967295)&&&g))) k) w
def t2Q(a b c:Nat):Nat:=add32 (upQ0 a) ((a&&&b)^^^(a&&&c)^^^(b&&&c))
structure Win where
 w0:Nat
 w1:Nat
 w2:Nat
 w3:Nat
 w4:Nat
 w5:Nat
 w6:Nat
 w7:Nat
 w8:Nat
 w9:Nat
 w10:Nat
 w11:Nat
 w12:Nat
 w13:Nat
 w14:Nat
 w15:Nat
def go:List Nat->Win->St->St
 | [],_,s=>s
 | k::ks,⟨w0,w1,w2,w3,w4,w5,w6,w7,w8,w9,w10,w11,w12,w13,w14,w15⟩,⟨a,b,c,d,e,f,g,h⟩=>
   force (add32 (add32 (add32 w0 (sgQ0 w1)) w9) (sgQ1 w14)) fun wn=>
   force (t1Q e f g h k w0) fun t1=>
   force (add32 t1 (t2Q a b c)) fun a'=>
   force (add32 d t1) fun e'=>
   go ks ⟨w1,w2,w3,w4,w5,w6,w7,w8,w9,w10,w11,w12,w13,w14,w15,wn⟩ ⟨a',a,b,c,e',e,f,g⟩
end Go.Proofs.YtibjlbcnapoblaaGreatDoor.Sh.Sha
/-
 Plain facts on bits that are put into bytes.
-/
namespace Go.Proofs.YtibjlbcnapoblaaGreatDoor
namespace Hf
def fullB(N n:Nat):List Int:=(List.range (n/8)).map (fun i=>((N/2^(n-8*(i+1))%256:Nat):Int))
theorem fullB_length(N n:Nat):(fullB N n).length=n/8:=by simp[fullB]
theorem fullB_getD(N n i:Nat)(h:i<n/8):(fullB N n).getD i 0=((N/2^(n-8*(i+1))%256:Nat):Int):=by
 simp[fullB,List.getD,h]
theorem fullB_rng(N n j:Nat):0<=(fullB N n).getD j 0∧(fullB N n).getD j 0<=255:=by
 by_cases h:j<n/8
 ·rw[fullB_getD N n j h]
  have:=Nat.mod_lt (N/2^(n-8*(j+1))) (show 0<256 by decide)
  omega
 ·have:(fullB N n)[j]?=none:=List.getElem?_eq_none (by rw[fullB_length];omega)
  simp[List.getD,this]
theorem il_ext{l m:List Int}(h:l.length=m.length)(he:∀i,i<l.length->l.getD i 0=m.getD i 0):l=m:=by
 refine List.ext_getElem h (fun i h1 h2=>?_)
 have:=he i h1
 simpa [List.getD,List.getElem?_eq_getElem h1,List.getElem?_eq_getElem h2] using this
theorem div_up(N c len e:Nat)(hc:c<2^len):(N*2^len+c)/2^(e+len)=N/2^e:=by
 rw[Nat.add_comm e len,Nat.pow_add,<-Nat.div_div_eq_div_mul,Nat.mul_comm N,Nat.mul_add_div (Nat.two_pow_pos len),Nat.div_eq_of_lt hc,Nat.add_zero]
end Hf
end Go.Proofs.YtibjlbcnapoblaaGreatDoor
/-
 Plain facts on codes, and on symbols as bits.
-/
namespace Go.Proofs.YtibjlbcnapoblaaGreatDoor
namespace Hf
theorem first_wsum(zs:List Int)(k:Nat)(hk:k<=15):first zs k*2^(15-k)=wsum zs k:=by
 induction k with
 | zero=>simp[first,wsum]
 | succ k ih=>
   have ih:=ih (by omega)
   rw[first,wsum,<-ih,Nat.mul_assoc,show 2*2^(15-(k+1))=2^(15-k) from by rw[show 15-k=(15-(k+1))+1 from by omega,Nat.pow_succ];omega,Nat.add_mul]
theorem wsum_mono(zs:List Int)(k n:Nat):wsum zs k<=wsum zs (k+n):=by
 induction n with
 | zero=>exact Nat.le_refl _
 | succ n ih=>rw[<-Nat.add_assoc,wsum];omega
theorem wsum_tal(zs:List Int)(l:List Nat)(h:tal zs=l)(k:Nat)(hk:k<=16):wsum zs k=((List.range k).map (fun i=>l.getD i 0*2^(15-i))).sum:=by
 induction k with
 | zero=>rfl
 | succ k ih=>
   rw[wsum,ih (by omega),List.range_succ,List.map_append,List.sum_append,<-h]
   simp only[List.map_cons,List.map_nil,List.sum_cons,List.sum_nil,Nat.add_zero,tal_getD zs k (show k<16 by omega)]
theorem wsum_top{zs:List Int}(h:checkB zs=true):wsum zs 16<=32768:=by
 unfold checkB okT at h
 rw[Bool.and_eq_true,Bool.or_eq_true,Bool.or_eq_true,beq_iff_eq,beq_iff_eq,beq_iff_eq] at h
 rcases h.2 with (h | h) | h
 ·omega
 ·rw[wsum_tal zs _ h 16 (Nat.le_refl _)];decide
 ·rw[wsum_tal zs _ h 16 (Nat.le_refl _)];decide
theorem first_cnt_le{zs:List Int}(h:checkB zs=true)(l:Nat)(hl:l<=15):first zs l+cnt zs l<=2^l:=by
 have h1:(first zs l+cnt zs l)*2^(15-l)=wsum zs (l+1):=by rw[Nat.add_mul,first_wsum zs l hl,wsum]
 have h2:=wsum_mono zs (l+1) (16-(l+1))
 rw[show l+1+(16-(l+1))=16 from by omega] at h2
 have h3:=wsum_top h
 have h4:(first zs l+cnt zs l)*2^(15-l)<=2^l*2^(15-l):=by
  rw[h1,<-Nat.pow_add,show l+(15-l)=15 from by omega];omega
 exact Nat.le_of_mul_le_mul_right h4 (Nat.two_pow_pos _)
theorem countP_take_lt(p:Int->Bool)(zs:List Int)(s:Nat)(hs:s<zs.length)(h:p (zs.getD s 0)=true):(zs.take s).countP p<zs.countP p:=by
 have e:zs.countP p=(zs.take s).countP p+(zs.drop s).countP p:=by
  rw[<-List.countP_append,List.take_append_drop]
 have e2:zs.drop s=zs.getD s 0::zs.drop (s+1):=by
  rw[List.drop_eq_getElem_cons hs]
  simp[List.getD,List.getElem?_eq_getElem hs]
 rw[e,e2,List.countP_cons,if_pos h]
 omega
theorem cnt_take_lt(zs:List Int)(s l:Nat)(hs:s<zs.length)(hz:zs.getD s 0=(l:Int))(h0:0<l):cnt (zs.take s) l<cnt zs l:=by
 unfold cnt
 rw[if_neg (by omega),if_neg (by omega)]
 exact countP_take_lt _ zs s hs (by rw[hz];simp)
theorem codeN_lt{zs:List Int}(h:checkB zs=true)(s l:Nat)(hs:s<zs.length)(hz:zs.getD s 0=(l:Int))(h0:0<l)(hl:l<=15):codeN zs s<2^l:=by
 have h1:=first_cnt_le h l hl
 have h2:=cnt_take_lt zs s l hs hz h0
 unfold codeN
 rw[hz,Int.toNat_natCast]
 omega
def symL(zs ys:List Int)(k:Nat):Nat:=(zs.getD (ys.getD k 0).toNat 0).toNat
def has(zs:List Int)(s:Int):Bool:=decide (0<=s)&&decide (s<(zs.length:Int))&&zs.getD s.toNat 0 != 0
def padN(n:Nat):Nat:=if n%8=0 then 0 else 8-n%8
def packN(N n:Nat):List Int:=fullB (N*2^padN n) (n+padN n)
theorem packN_rng(N n j:Nat):0<=(packN N n).getD j 0∧(packN N n).getD j 0<=255:=fullB_rng _ _ _
theorem packN_length(N n:Nat):(packN N n).length=(n+7)/8:=by
 unfold packN padN
 rw[fullB_length]
 split<;>omega
end Hf
end Go.Proofs.YtibjlbcnapoblaaGreatDoor
/-
 Plain facts on how codes are found in bits.
-/
namespace Go.Proofs.YtibjlbcnapoblaaGreatDoor
namespace Hf
def bitV(b:List Int)(i:Nat):Nat:=(b.getD (i/8) 0).toNat/2^(7-i%8)%2
theorem bitV_lt(b:List Int)(i:Nat):bitV b i<2:=Nat.mod_lt _ (by decide)
def vb(b:List Int)(at':Nat):Nat->Nat
 | 0=>0
 | l+1=>vb b at' l*2+bitV b (at'+l)
theorem vb_lt(b:List Int)(at' l:Nat):vb b at' l<2^l:=by
 induction l with
 | zero=>simp[vb]
 | succ l ih=>
   have:=bitV_lt b (at'+l)
   rw[vb,Nat.pow_succ];omega
def who(zs:List Int)(l c:Nat):Option Nat:=(List.range zs.length).find? (fun s=>zs.getD s 0==(l:Int)&&codeN zs s==c)
def oneG(zs b:List Int)(at':Nat):Nat->Nat->Int×Int
 | 0,_=>(-1,0)
 | f+1,l=>if l<16∧at'+l<=8*b.length then (match who zs l (vb b at' l) with | some s=>((s:Int),(l:Int)) | none=>oneG zs b at' f (l+1)) else (-1,0)
def oneF(zs b:List Int)(at':Nat):Int×Int:=oneG zs b at' 16 1
theorem codeN_eq(zs:List Int)(s l:Nat)(h:zs.getD s 0=(l:Int)):codeN zs s=first zs l+cnt (zs.take s) l:=by
 unfold codeN;rw[h,Int.toNat_natCast]
theorem cnt_take_mono(zs:List Int)(l s t:Nat)(h0:0<l)(hs:s<t)(ht:t<=zs.length)(hz:zs.getD s 0=(l:Int)):cnt (zs.take s) l<cnt (zs.take t) l:=by
 have e:(zs.take t).take s=zs.take s:=by rw[List.take_take,Nat.min_eq_left (by omega)]
 rw[<-e]
 refine cnt_take_lt (zs.take t) s l (by rw[List.length_take];omega) ?_ h0
 rw[<-hz]
 simp[List.getD,List.getElem?_take_of_lt hs]
theorem code_inj(zs:List Int)(l s t:Nat)(h0:0<l)(hs:s<zs.length)(ht:t<zs.length)(h1:zs.getD s 0=(l:Int))(h2:zs.getD t 0=(l:Int))(he:codeN zs s=codeN zs t):s=t:=by
 rw[codeN_eq zs s l h1,codeN_eq zs t l h2] at he
 rcases Nat.lt_trichotomy s t with h | h | h
 ·have:=cnt_take_mono zs l s t h0 h (by omega) h1;omega
 ·exact h
 ·have:=cnt_take_mono zs l t s h0 h (by omega) h2;omega
theorem who_some{zs:List Int}{l c s:Nat}(h0:0<l)(hs:s<zs.length)(hz:zs.getD s 0=(l:Int))(hc:codeN zs s=c):who zs l c=some s:=by
 unfold who
 cases hf:(List.range zs.length).find? (fun s=>zs.getD s 0==(l:Int)&&codeN zs s==c) with
 | none=>
   rw[List.find?_eq_none] at hf
   exact absurd (by rw[hz,hc];simp) (hf s (by simpa using hs))
 | some t=>
   have h1:=List.find?_some hf
   have h2:=List.mem_of_find?_eq_some hf
   rw[Bool.and_eq_true,beq_iff_eq,beq_iff_eq] at h1
   rw[code_inj zs l t s h0 (by simpa using h2) hs h1.1 hz (by rw[h1.2,hc])]
theorem who_none{zs:List Int}{l c:Nat}(h:∀s,s<zs.length->zs.getD s 0=(l:Int)->codeN zs s≠c):who zs l c=none:=by
 unfold who
 rw[List.find?_eq_none]
 intro s hs hb
 rw[Bool.and_eq_true,beq_iff_eq,beq_iff_eq] at hb
 exact h s (by simpa using hs) hb.1 hb.2
end Hf
end Go.Proofs.YtibjlbcnapoblaaGreatDoor
