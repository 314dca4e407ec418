/-
 Repetitions as lists: how many bytes are alike, the longest copy, the tokens of a row. Plain mathematics.
-/
import Derived.Laws.BitsAllLaws
namespace Go.Proofs.YtelnefngkdfcoaaGreat.Lz
def com(bs:List Int):Nat->Nat->Nat->Nat
 | _,_,0=>0
 | p,q,k+1=>if bs.getD p 0=bs.getD q 0 then com bs (p+1) (q+1) k+1 else 0
theorem com_le(bs:List Int):∀k p q,com bs p q k<=k
 | 0,_,_=>Nat.le_refl _
 | k+1,p,q=>by
   unfold com
   have:=com_le bs k (p+1) (q+1)
   split<;>omega
theorem com_same(bs:List Int):∀k p q j,j<com bs p q k->bs.getD (p+j) 0=bs.getD (q+j) 0
 | 0,_,_,j,h=>absurd h (by simp[com])
 | k+1,p,q,j,h=>by
   unfold com at h
   split at h
   ·rename_i e
    cases j with
    | zero=>simpa using e
    | succ j=>
      have:=com_same bs k (p+1) (q+1) j (by omega)
      rw[show p+(j+1)=p+1+j from by omega,show q+(j+1)=q+1+j from by omega]
      exact this
   ·omega
theorem com_stop(bs:List Int):∀k p q,com bs p q k<k->bs.getD (p+com bs p q k) 0≠bs.getD (q+com bs p q k) 0
 | 0,_,_,h=>absurd h (by omega)
 | k+1,p,q,h=>by
   unfold com at h|-
   split at h
   ·rename_i e
    rw[if_pos e]
    have:=com_stop bs k (p+1) (q+1) (by omega)
    rw[show p+(com bs (p+1) (q+1) k+1)=p+1+com bs (p+1) (q+1) k from by omega,show q+(com bs (p+1) (q+1) k+1)=q+1+com bs (p+1) (q+1) k from by omega]
    exact this
   ·rename_i e
    rw[if_neg e]
    exact e
theorem com_eq(bs:List Int)(k p q n:Nat)(hn:n<=k)(hs:∀j,j<n->bs.getD (p+j) 0=bs.getD (q+j) 0)(he:n=k∨bs.getD (p+n) 0≠bs.getD (q+n) 0):com bs p q k=n:=by
 rcases Nat.lt_trichotomy (com bs p q k) n with h | h | h
 ·exact absurd (hs _ h) (com_stop bs k p q (by omega))
 ·exact h
 ·rcases he with rfl | he
  ·have:=com_le bs n p q;omega
  ·exact absurd (com_same bs k p q n h) he
def better(bs:List Int)(q k:Nat)(s:Nat×Nat)(p:Nat):Nat×Nat:=if s.2<com bs p q k then (q-p,com bs p q k) else s
def best(bs:List Int)(q k:Nat)(ps:List Nat):Nat×Nat:=ps.foldl (better bs q k) (0,3)
theorem best_snoc(bs:List Int)(q k:Nat)(ps:List Nat)(p:Nat):best bs q k (ps++ [p])=better bs q k (best bs q k ps) p:=by simp[best]
def most(bs:List Int)(q:Nat):Nat:=min (bs.length-q) 258
theorem better_full{bs:List Int}{q k:Nat}{s:Nat×Nat}(h:k<=s.2)(p:Nat):better bs q k s p=s:=by
 unfold better
 have:=com_le bs k p q
 rw[if_neg (by omega)]
theorem fold_full{bs:List Int}{q k:Nat}{s:Nat×Nat}(h:k<=s.2):∀ps:List Nat,ps.foldl (better bs q k) s=s
 | []=>rfl
 | p::ps=>by rw[List.foldl_cons,better_full h];exact fold_full h ps
theorem best_full{bs:List Int}{q k:Nat}{ps:List Nat}(h:k<=(best bs q k ps).2){qs:List Nat}(hp:ps <+: qs):best bs q k qs=best bs q k ps:=by
 obtain⟨r,rfl⟩:=hp
 unfold best
 rw[List.foldl_append]
 exact fold_full h r
theorem better_ge(bs:List Int)(q k:Nat)(s:Nat×Nat)(p:Nat):s.2<=(better bs q k s p).2:=by
 unfold better;split
 ·simp;omega
 ·exact Nat.le_refl _
def Good(q k:Nat)(s:Nat×Nat):Prop:=(s.1=0∧s.2=3)∨(1<=s.1∧s.1<=q∧4<=s.2∧s.2<=k)
theorem good_better{bs:List Int}{q k:Nat}{s:Nat×Nat}(h:Good q k s){p:Nat}(hp:p<q):Good q k (better bs q k s p):=by
 unfold better
 split
 ·rename_i hlt
  have:=com_le bs k p q
  refine .inr ⟨by simp;omega,by simp,?_,this⟩
  rcases h with ⟨_,h2⟩ | ⟨_,_,h2,_⟩<;>simp<;>omega
 ·exact h
theorem good_fold{bs:List Int}{q k:Nat}:∀(ps:List Nat) (s:Nat×Nat),Good q k s->(∀p∈ps,p<q)->Good q k (ps.foldl (better bs q k) s)
 | [],_,h,_=>h
 | p::ps,s,h,hp=>good_fold ps _ (good_better h (hp p (by simp))) (fun x hx=>hp x (by simp[hx]))
theorem good_best{bs:List Int}{q k:Nat}{ps:List Nat}(hp:∀p∈ps,p<q):Good q k (best bs q k ps):=good_fold ps _ (.inl ⟨rfl,rfl⟩) hp
abbrev Tok:=Nat×Nat×Int
def tokOf(bs:List Int)(q:Nat)(s:Nat×Nat):Tok:=if s.1=0 then (0,1,bs.getD q 0) else (s.1,s.2,0)
def aheadL(q:Nat):List Nat:=(List.range (min q 4096)).map fun j=>q-1-j
theorem mem_aheadL{q p:Nat}(h:p∈aheadL q):p<q∧q-p<=4096:=by
 unfold aheadL at h
 rw[List.mem_map] at h
 obtain⟨j,hj,rfl⟩:=h
 rw[List.mem_range] at hj
 omega
def longT(bs:List Int)(q:Nat):Tok:=tokOf bs q (best bs q (most bs q) (aheadL q))
def same4(bs:List Int)(p q:Nat):Bool:=bs.getD p 0==bs.getD q 0&&(bs.getD (p+1) 0==bs.getD (q+1) 0&&(bs.getD (p+2) 0==bs.getD (q+2) 0&&bs.getD (p+3) 0==bs.getD (q+3) 0))
theorem same4_of_com{bs:List Int}{k p q:Nat}(h:3<com bs p q k):same4 bs p q=true:=by
 have h0:=com_same bs k p q 0 (by omega)
 have h1:=com_same bs k p q 1 (by omega)
 have h2:=com_same bs k p q 2 (by omega)
 have h3:=com_same bs k p q 3 (by omega)
 unfold same4
 simp only[Nat.add_zero] at h0
 rw[h0,h1,h2,h3]
 simp
theorem fold_filter{bs:List Int}{q k:Nat}:∀(ps:List Nat) (s:Nat×Nat),3<=s.2->(ps.filter fun p=>same4 bs p q).foldl (better bs q k) s=ps.foldl (better bs q k) s
 | [],_,_=>rfl
 | p::ps,s,h=>by
   have hg:=better_ge bs q k s p
   cases hs:same4 bs p q with
   | true=>
     rw[List.filter_cons_of_pos (by simpa using hs),List.foldl_cons,List.foldl_cons]
     exact fold_filter ps _ (by omega)
   | false=>
     rw[List.filter_cons_of_neg (by simp[hs]),List.foldl_cons]
     have e:better bs q k s p=s:=by
      unfold better
      rw[if_neg]
      intro hlt
      rw[same4_of_com (k:=k) (by omega)] at hs
      cases hs
     rw[e]
     exact fold_filter ps s h
def alikeL(bs:List Int)(q:Nat):List Nat:=if q+4<=bs.length then (aheadL q).filter fun p=>same4 bs p q else []
theorem best_alike(bs:List Int)(q:Nat):best bs q (most bs q) (alikeL bs q)=best bs q (most bs q) (aheadL q):=by
 unfold alikeL
 split
 ·exact fold_filter _ _ (Nat.le_refl _)
 ·have hm:most bs q<=3:=by unfold most;omega
  unfold best
  rw[fold_full (s:=(0,3)) hm,fold_full (s:=(0,3)) hm]
theorem longT_alike(bs:List Int)(q:Nat):tokOf bs q (best bs q (most bs q) (alikeL bs q))=longT bs q:=by rw[best_alike];rfl
theorem longT_good(bs:List Int)(q:Nat):Good q (most bs q) (best bs q (most bs q) (aheadL q)):=good_best fun _ hp=>(mem_aheadL hp).1
theorem longT_len(bs:List Int)(q:Nat)(h:q<bs.length):1<=(longT bs q).2.1∧q+(longT bs q).2.1<=bs.length∧(longT bs q).2.1<=258:=by
 have hg:=longT_good bs q
 have hm:most bs q<=bs.length-q∧most bs q<=258:=by unfold most;omega
 unfold longT tokOf
 rcases hg with ⟨h1,h2⟩ | ⟨h1,h2,h3,h4⟩
 ·rw[if_pos h1];simp;omega
 ·rw[if_neg (by omega)];simp;omega
def tks(bs:List Int):Nat->Nat->List Tok
 | 0,_=> []
 | n+1,q=>if q<bs.length then longT bs q::tks bs n (q+(longT bs q).2.1) else []
def toksL(bs:List Int):List Tok:=tks bs bs.length 0
theorem tks_end{bs:List Int}{q:Nat}(h:¬q<bs.length):∀n,tks bs n q= []
 | 0=>rfl
 | n+1=>by unfold tks;rw[if_neg h]
theorem tks_more{bs:List Int}:∀(n q:Nat),bs.length-q<=n->tks bs (n+1) q=tks bs n q
 | 0,q,h=>by rw[tks_end (by omega),tks_end (by omega)]
 | n+1,q,h=>by
   by_cases hq:q<bs.length
   ·have:=longT_len bs q hq
    rw[show tks bs (n+1+1) q=if q<bs.length then longT bs q::tks bs (n+1) (q+(longT bs q).2.1) else [] from rfl,show tks bs (n+1) q=if q<bs.length then longT bs q::tks bs n (q+(longT bs q).2.1) else [] from rfl,if_pos hq,if_pos hq,tks_more n _ (by omega)]
   ·rw[tks_end hq,tks_end hq]
def from_(bs:List Int)(q:Nat):List Tok:=tks bs (bs.length-q) q
theorem tks_from{bs:List Int}(q:Nat):∀d,tks bs (bs.length-q+d) q=from_ bs q
 | 0=>rfl
 | d+1=>by rw[show bs.length-q+(d+1)=bs.length-q+d+1 from by omega,tks_more _ _ (by omega)];exact tks_from q d
theorem from_step{bs:List Int}{q:Nat}(h:q<bs.length):from_ bs q=longT bs q::from_ bs (q+(longT bs q).2.1):=by
 have hl:=longT_len bs q h
 have e:bs.length-q=(bs.length-q-1)+1:=by omega
 unfold from_
 rw[e]
 rw[show tks bs (bs.length-q-1+1) q=if q<bs.length then longT bs q::tks bs (bs.length-q-1) (q+(longT bs q).2.1) else [] from rfl,if_pos h]
 congr 1
 have:=tks_from (bs:=bs) (q+(longT bs q).2.1) (bs.length-q-1-(bs.length-(q+(longT bs q).2.1)))
 rw[show bs.length-(q+(longT bs q).2.1)+(bs.length-q-1-(bs.length-(q+(longT bs q).2.1)))=bs.length-q-1 from by omega] at this
 exact this
theorem from_end{bs:List Int}{q:Nat}(h:¬q<bs.length):from_ bs q= []:=tks_end h _
theorem toksL_from(bs:List Int):toksL bs=from_ bs 0:=by unfold toksL from_;rfl
def nxt(bs:List Int)(q:Nat):Nat->Nat
 | 0=>0
 | m+1=>if same4 bs m q then m+1 else nxt bs q m
theorem nxt_le(bs:List Int)(q:Nat):∀m,nxt bs q m<=m
 | 0=>Nat.le_refl _
 | m+1=>by unfold nxt;have:=nxt_le bs q m;split<;>omega
theorem nxt_same{bs:List Int}{q:Nat}:∀ {m},0<nxt bs q m->same4 bs (nxt bs q m-1) q=true
 | 0,h=>absurd h (by simp[nxt])
 | m+1,h=>by
   unfold nxt at h|-
   split
   ·rename_i e;simpa using e
   ·rename_i e;rw[if_neg e] at h;exact nxt_same h
def chain(bs:List Int)(q:Nat):Nat->List Nat
 | 0=> []
 | m+1=>if same4 bs m q=true∧q-m<=4096 then m::chain bs q m else chain bs q m
theorem chain_far{bs:List Int}{q:Nat}:∀ {m},m+4096<=q->chain bs q m= []
 | 0,_=>rfl
 | m+1,h=>by
   unfold chain
   rw[if_neg (by omega)]
   exact chain_far (by omega)
theorem chain_nxt{bs:List Int}{q:Nat}:∀ {m},chain bs q m=if 0<nxt bs q m∧q-(nxt bs q m-1)<=4096 then (nxt bs q m-1)::chain bs q (nxt bs q m-1) else []
 | 0=>by simp[chain,nxt]
 | m+1=>by
   cases hs:same4 bs m q with
   | true=>
     have e:nxt bs q (m+1)=m+1:=by unfold nxt;rw[hs];simp
     rw[e,show chain bs q (m+1)=if same4 bs m q=true∧q-m<=4096 then m::chain bs q m else chain bs q m from rfl]
     simp only[hs,true_and,Nat.add_sub_cancel]
     by_cases h:q-m<=4096
     ·rw[if_pos h,if_pos ⟨by omega,h⟩]
     ·rw[if_neg h,if_neg (fun h'=>h h'.2),chain_far (by omega)]
   | false=>
     have e:nxt bs q (m+1)=nxt bs q m:=by
      show(if same4 bs m q=true then m+1 else nxt bs q m)=_
      rw[hs];simp
     rw[e]
     have e2:chain bs q (m+1)=chain bs q m:=by
      show(if same4 bs m q=true∧q-m<=4096 then m::chain bs q m else chain bs q m)=_
      rw[hs];simp
     rw[e2]
     exact chain_nxt
theorem chain_eq(bs:List Int)(q:Nat):∀m,m<=q->chain bs q m=(((List.range m).map fun j=>m-1-j).filter fun p=>decide (q-p<=4096)).filter fun p=>same4 bs p q
 | 0,_=>rfl
 | m+1,h=>by
   have ih:=chain_eq bs q m (by omega)
   have e:(List.range (m+1)).map (fun j=>m+1-1-j)=m::(List.range m).map fun j=>m-1-j:=by
    rw[List.range_succ_eq_map,List.map_cons,List.map_map]
    congr 1
    refine List.map_congr_left fun j _=>?_
    simp only[Function.comp]
    omega
   rw[e]
   unfold chain
   by_cases hq:q-m<=4096
   ·rw[List.filter_cons_of_pos (by simpa using hq)]
    cases hs:same4 bs m q with
    | true=>rw[List.filter_cons_of_pos (by simpa using hs),if_pos ⟨rfl,hq⟩,ih]
    | false=>rw[List.filter_cons_of_neg (by simp[hs]),if_neg (by simp),ih]
   ·rw[List.filter_cons_of_neg (by simpa using hq),if_neg (fun h'=>hq h'.2),ih]
theorem ahead_eq(q:Nat):(((List.range q).map fun j=>q-1-j).filter fun p=>decide (q-p<=4096))=aheadL q:=by
 unfold aheadL
 by_cases h:q<=4096
 ·rw[Nat.min_eq_left h,List.filter_eq_self]
  intro p hp
  simp;omega
 ·rw[Nat.min_eq_right (by omega)]
  obtain⟨K,hK⟩:∃K:Nat,K=4096:=⟨_,rfl⟩
  rw[<-hK]
  have e:List.range q=List.range K++(List.range (q-K)).map (K + ·):=by
   rw[<-List.range_add,show K+(q-K)=q from by omega]
  rw[e,List.map_append,List.filter_append]
  have h1:(List.filter (fun p=>decide (q-p<=K)) (List.map (fun j=>q-1-j) (List.range K)))=List.map (fun j=>q-1-j) (List.range K):=by
   rw[List.filter_eq_self]
   intro p hp
   rw[List.mem_map] at hp
   obtain⟨j,hj,rfl⟩:=hp
   rw[List.mem_range] at hj
   simp;omega
  have h2:(List.filter (fun p=>decide (q-p<=K)) (List.map (fun j=>q-1-j) (List.map (fun x=>K+x) (List.range (q-K)))))= []:=by
   rw[List.filter_eq_nil_iff]
   intro p hp
   rw[List.mem_map] at hp
   obtain⟨j,hj,rfl⟩:=hp
   rw[List.mem_map] at hj
   obtain⟨i,hi,rfl⟩:=hj
   rw[List.mem_range] at hi
   simp;omega
  rw[h1,h2,List.append_nil]
theorem chain_alike{bs:List Int}{q:Nat}(h:q+4<=bs.length):chain bs q q=alikeL bs q:=by
 rw[chain_eq bs q q (Nat.le_refl _),ahead_eq]
 unfold alikeL
 rw[if_pos h]
end Go.Proofs.YtelnefngkdfcoaaGreat.Lz
/-
 Plain facts on lengths, how many there are of each, and the codes of lengths.
-/
namespace Go.Proofs.YtelnefngkdfcoaaGreat
namespace Hf
def cnt(zs:List Int)(l:Nat):Nat:=if l=0 then 0 else zs.countP (fun z=>z==(l:Int))
def tal(zs:List Int):List Nat:=(List.range 16).map (cnt zs)
theorem cnt_zero(zs:List Int):cnt zs 0=0:=by simp[cnt]
theorem cnt_le(zs:List Int)(l:Nat):cnt zs l<=zs.length:=by
 unfold cnt;split
 ·omega
 ·exact List.countP_le_length
theorem tal_length(zs:List Int):(tal zs).length=16:=by simp[tal]
theorem tal_getD(zs:List Int)(l:Nat)(h:l<16):(tal zs).getD l 0=cnt zs l:=by
 simp[tal,List.getD,h]
theorem cnt_snoc(zs:List Int)(z:Int)(l:Nat):cnt (zs++ [z]) l=cnt zs l+(if l≠0∧z=(l:Int) then 1 else 0):=by
 unfold cnt
 by_cases h:l=0
 ·simp[h]
 ·simp only[h,if_false,List.countP_append,List.countP_singleton,ne_eq,not_false_eq_true,true_and]
  by_cases h2:z=(l:Int)
  ·simp[h2]
  ·simp[h2]
theorem tal_nil:tal []=List.replicate 16 0:=by decide
theorem list_ext_getD{l m:List Nat}(h:l.length=m.length)(he:∀i,i<l.length->l.getD i 0=m.getD i 0):l=m:=by
 refine List.ext_getElem h (fun i h1 h2=>?_)
 have:=he i h1
 simpa [List.getD,List.getElem?_eq_getElem h1,List.getElem?_eq_getElem h2] using this
theorem getD_set(l:List Nat)(i j v:Nat)(h:i<l.length):(l.set i v).getD j 0=if j=i then v else l.getD j 0:=by
 simp only[List.getD,List.getElem?_set]
 by_cases e:i=j
 ·subst e;simp[h]
 ·rw[if_neg e,if_neg (fun x=>e x.symm)]
theorem tal_snoc(zs:List Int)(l:Nat)(h0:0<l)(h:l<16):tal (zs++ [(l:Int)])=(tal zs).set l (cnt zs l+1):=by
 refine list_ext_getD (by simp[tal_length]) (fun i hi=>?_)
 rw[tal_length] at hi
 rw[tal_getD _ _ hi,getD_set _ _ _ _ (by rw[tal_length];exact h),tal_getD _ _ hi,cnt_snoc]
 by_cases e:i=l
 ·subst e;simp;omega
 ·rw[if_neg e,if_neg (by omega)];rfl
theorem tal_snoc0(zs:List Int)(z:Int)(h:z<=0):tal (zs++ [z])=tal zs:=by
 refine list_ext_getD (by simp[tal_length]) (fun i hi=>?_)
 rw[tal_length] at hi
 rw[tal_getD _ _ hi,tal_getD _ _ hi,cnt_snoc,if_neg (by omega)];rfl
def wsum(zs:List Int):Nat->Nat
 | 0=>0
 | k+1=>wsum zs k+cnt zs k*2^(15-k)
theorem wsum_le(zs:List Int)(k:Nat):wsum zs k<=k*(zs.length*32768):=by
 induction k with
 | zero=>simp[wsum]
 | succ k ih=>
   have h1:=cnt_le zs k
   have h2:2^(15-k)<=2^15:=Nat.pow_le_pow_right (by decide) (by omega)
   have h3:cnt zs k*2^(15-k)<=zs.length*32768:=Nat.mul_le_mul h1 (by simpa using h2)
   rw[wsum,Nat.add_mul];omega
def z16:List Nat:=List.replicate 16 0
theorem z16_getD(i:Nat):z16.getD i 0=0:=by
 by_cases h:i<16
 ·have:∀i,i<16->z16.getD i 0=0:=by decide
  exact this i h
 ·have:z16[i]?=none:=List.getElem?_eq_none (by simp[z16];omega)
  simp[List.getD,this]
def one16:List Nat:=0::1::List.replicate 14 0
def lenOk(zs:List Int):Bool:=decide (zs.length<=512)&&zs.all (fun z=>decide (0<=z)&&decide (z<=15))
def okT(zs:List Int):Bool:=wsum zs 16==32768||tal zs==z16||tal zs==one16
def checkB(zs:List Int):Bool:=lenOk zs&&okT zs
def checkF(zs:List Int):Int:=if checkB zs then 0 else 51
def first(zs:List Int):Nat->Nat
 | 0=>0
 | k+1=>(first zs k+cnt zs k)*2
theorem first_le(zs:List Int)(k:Nat):first zs k+2*zs.length<=zs.length*2^(k+1):=by
 induction k with
 | zero=>simp[first];omega
 | succ k ih=>
   have h1:=cnt_le zs k
   rw[first,Nat.pow_succ 2 (k+1),<-Nat.mul_assoc]
   omega
theorem first_small(zs:List Int)(k:Nat)(hk:k<16)(hl:zs.length<=520):first zs k+zs.length<=34078720:=by
 have h:=first_le zs k
 have h2:2^(k+1)<=2^16:=Nat.pow_le_pow_right (by decide) (by omega)
 have h3:zs.length*2^(k+1)<=520*65536:=Nat.mul_le_mul hl (by simpa using h2)
 omega
def fillF(zs:List Int)(k:Nat):List Nat:=(List.range 16).map (fun l=>if l<k then first zs l else 0)
theorem fillF_length(zs:List Int)(k:Nat):(fillF zs k).length=16:=by simp[fillF]
theorem fillF_getD(zs:List Int)(k l:Nat)(h:l<16):(fillF zs k).getD l 0=if l<k then first zs l else 0:=by
 simp[fillF,List.getD,h]
theorem fillF_one(zs:List Int):fillF zs 1=z16:=by
 refine list_ext_getD (by simp[fillF,z16]) (fun i hi=>?_)
 rw[fillF_length] at hi
 rw[fillF_getD _ _ _ hi]
 rw[z16_getD]
 by_cases h:i<1
 ·obtain rfl:i=0:=by omega
  simp[first]
 ·simp[h]
theorem fillF_set(zs:List Int)(k:Nat)(h0:0<k)(h:k<16):(fillF zs k).set k ((first zs (k-1)+cnt zs (k-1))*2)=fillF zs (k+1):=by
 have e:(first zs (k-1)+cnt zs (k-1))*2=first zs k:=by
  conv=>rhs;rw[show k=(k-1)+1 from by omega,first]
 rw[e]
 refine list_ext_getD (by simp[fillF]) (fun i hi=>?_)
 rw[List.length_set,fillF_length] at hi
 rw[getD_set _ _ _ _ (by rw[fillF_length];exact h),fillF_getD _ _ _ hi,fillF_getD _ _ _ hi]
 by_cases e:i=k
 ·subst e;simp
 ·rw[if_neg e]
  by_cases h2:i<k
  ·rw[if_pos h2,if_pos (by omega)]
  ·rw[if_neg h2,if_neg (by omega)]
def nextL(zs:List Int)(k:Nat):List Nat:=(List.range 16).map (fun l=>first zs l+cnt (zs.take k) l)
theorem nextL_length(zs:List Int)(k:Nat):(nextL zs k).length=16:=by simp[nextL]
theorem nextL_getD(zs:List Int)(k l:Nat)(h:l<16):(nextL zs k).getD l 0=first zs l+cnt (zs.take k) l:=by
 simp[nextL,List.getD,h]
theorem nextL_zero(zs:List Int):nextL zs 0=fillF zs 16:=by
 refine list_ext_getD (by simp[fillF,nextL]) (fun i hi=>?_)
 rw[nextL_length] at hi
 rw[nextL_getD _ _ _ hi,fillF_getD _ _ _ hi,if_pos hi]
 simp[cnt]
theorem take_snoc(zs:List Int)(k:Nat)(hk:k<zs.length):zs.take (k+1)=zs.take k++ [zs.getD k 0]:=by
 rw[List.take_succ_eq_append_getElem hk]
 simp[List.getD,List.getElem?_eq_getElem hk]
theorem nextL_set(zs:List Int)(k l:Nat)(hk:k<zs.length)(hz:zs.getD k 0=(l:Int))(h0:0<l)(h:l<16):(nextL zs k).set l (first zs l+cnt (zs.take k) l+1)=nextL zs (k+1):=by
 refine list_ext_getD (by simp[nextL]) (fun i hi=>?_)
 rw[List.length_set,nextL_length] at hi
 rw[getD_set _ _ _ _ (by rw[nextL_length];exact h),nextL_getD _ _ _ hi,nextL_getD _ _ _ hi,take_snoc zs k hk,hz,cnt_snoc]
 by_cases e:i=l
 ·subst e;rw[if_pos rfl,if_pos ⟨by omega,rfl⟩];omega
 ·rw[if_neg e,if_neg (by omega)];rfl
theorem nextL_same(zs:List Int)(k:Nat)(hk:k<zs.length)(hz:zs.getD k 0<=0):nextL zs (k+1)=nextL zs k:=by
 refine list_ext_getD (by simp[nextL]) (fun i hi=>?_)
 rw[nextL_length] at hi
 rw[nextL_getD _ _ _ hi,nextL_getD _ _ _ hi,take_snoc zs k hk,cnt_snoc,if_neg (by omega)];rfl
def codeN(zs:List Int)(s:Nat):Nat:=first zs (zs.getD s 0).toNat+cnt (zs.take s) (zs.getD s 0).toNat
def codeF(zs:List Int)(s:Nat):Int:=if 0<zs.getD s 0 then ((codeN zs s%65536:Nat):Int) else 0
def codesL(zs:List Int):List Int:=(List.range zs.length).map (codeF zs)
theorem codesL_length(zs:List Int):(codesL zs).length=zs.length:=by simp[codesL]
theorem codesL_getD(zs:List Int)(s:Nat)(h:s<zs.length):(codesL zs).getD s 0=codeF zs s:=by
 simp[codesL,List.getD,h]
theorem codeF_rng(zs:List Int)(s:Nat):0<=codeF zs s∧codeF zs s<=65535:=by
 unfold codeF;split
 ·have:=Nat.mod_lt (codeN zs s) (show 0<65536 by decide);omega
 ·omega
theorem codesL_rng(zs:List Int)(j:Nat):0<=(codesL zs).getD j 0∧(codesL zs).getD j 0<=65535:=by
 by_cases h:j<zs.length
 ·rw[codesL_getD zs j h];exact codeF_rng zs j
 ·have:(codesL zs)[j]?=none:=List.getElem?_eq_none (by rw[codesL_length];omega)
  simp[List.getD,this]
def sumR(zs:List Int):Nat:=(zs.map (fun z=>if 0<z then 2^(15-z.toNat) else 0)).sum
def someR(zs:List Int):Nat:=zs.countP (fun z=>decide (0<z))
def oneR(zs:List Int):Nat:=zs.countP (fun z=>z==1)
theorem sumR_snoc(zs:List Int)(z:Int):sumR (zs++ [z])=sumR zs+(if 0<z then 2^(15-z.toNat) else 0):=by
 simp[sumR]
theorem someR_snoc(zs:List Int)(z:Int):someR (zs++ [z])=someR zs+(if 0<z then 1 else 0):=by
 simp[someR,List.countP_append,List.countP_singleton]
theorem oneR_snoc(zs:List Int)(z:Int):oneR (zs++ [z])=oneR zs+(if z=1 then 1 else 0):=by
 simp[oneR,List.countP_append,List.countP_singleton]
theorem sumR_le(zs:List Int):sumR zs<=zs.length*32768:=by
 induction zs with
 | nil=>simp[sumR]
 | cons z l ih=>
   have h2:2^(15-z.toNat)<=2^15:=Nat.pow_le_pow_right (by decide) (by omega)
   have h2':2^(15-z.toNat)<=32768:=by simpa using h2
   simp only[sumR,List.map_cons,List.sum_cons,List.length_cons,Nat.add_mul] at ih|-
   split<;>omega
theorem wsum_snoc(zs:List Int)(z:Int)(k:Nat):wsum (zs++ [z]) k=wsum zs k+(if 0<z∧z.toNat<k then 2^(15-z.toNat) else 0):=by
 induction k with
 | zero=>simp[wsum]
 | succ k ih=>
   rw[wsum,wsum,ih,cnt_snoc]
   by_cases h:k≠0∧z=(k:Int)
   ·have h3:0<z∧z.toNat<k+1:=by omega
    have h4:¬(0<z∧z.toNat<k):=by omega
    have h5:z.toNat=k:=by omega
    rw[if_pos h,if_neg h4,if_pos h3,h5,Nat.add_mul];omega
   ·rw[if_neg h]
    by_cases h2:0<z∧z.toNat<k
    ·rw[if_pos h2,if_pos ⟨h2.1,by omega⟩,Nat.add_zero];omega
    ·rw[if_neg h2,if_neg (by omega)];rfl
theorem wsum_nil(k:Nat):wsum [] k=0:=by
 induction k with
 | zero=>rfl
 | succ k ih=>rw[wsum,ih];simp[cnt]
theorem snoc_ind{p:List Int->Prop}(h0:p [])(h1:∀l z,p l->p (l++ [z]))(zs:List Int):p zs:=by
 have h:∀n,p (zs.take n):=by
  intro n
  induction n with
  | zero=>simpa using h0
  | succ n ih=>
    by_cases hn:n<zs.length
    ·rw[take_snoc zs n hn];exact h1 _ _ ih
    ·rw[List.take_of_length_le (by omega)];rw[List.take_of_length_le (by omega)] at ih;exact ih
 simpa using h zs.length
theorem wsum_sumR(zs:List Int)(h:∀z∈zs,0<=z∧z<=15):wsum zs 16=sumR zs:=by
 revert h
 refine snoc_ind (p:=fun zs=>(∀z∈zs,0<=z∧z<=15)->wsum zs 16=sumR zs) (fun _=>by rw[wsum_nil];rfl) (fun l z ih h=>?_) zs
 have hz:=h z (by simp)
 rw[wsum_snoc,sumR_snoc,ih (fun y hy=>h y (by simp[hy]))]
 by_cases h0:0<z
 ·rw[if_pos ⟨h0,by omega⟩,if_pos h0]
 ·rw[if_neg (by omega),if_neg h0]
theorem cnt_some(zs:List Int)(l:Nat):cnt zs l<=someR zs:=by
 unfold cnt someR
 split
 ·omega
 ·refine List.countP_mono_left (fun z _ hz=>?_)
  have:z=(l:Int):=by simpa using hz
  simp;omega
theorem tal_zero_iff(zs:List Int)(h:∀z∈zs,0<=z∧z<=15):(tal zs==z16)=(someR zs==0):=by
 rw[Bool.eq_iff_iff,beq_iff_eq,beq_iff_eq]
 constructor
 ·intro e
  unfold someR
  rw[List.countP_eq_zero]
  intro z hz hpos
  have hpos':0<z:=by simpa using hpos
  have hr:=h z hz
  have hc:cnt zs z.toNat=0:=by
   rw[<-tal_getD zs z.toNat (by omega),e,z16_getD]
  unfold cnt at hc
  rw[if_neg (by omega),List.countP_eq_zero] at hc
  exact hc z hz (by simp;omega)
 ·intro e
  refine list_ext_getD (by simp[tal_length,z16]) (fun i hi=>?_)
  rw[tal_length] at hi
  rw[tal_getD zs i hi]
  have:=cnt_some zs i
  rw[z16_getD];omega
theorem one_split(zs:List Int)(h:∀z∈zs,0<=z∧z<=15):(tal zs==one16)=(someR zs==1&&oneR zs==1):=by
 have hone:cnt zs 1=oneR zs:=by unfold cnt oneR;simp
 have hsp:someR zs=oneR zs+zs.countP (fun z=>decide (1<z)):=by
  unfold someR oneR
  clear hone h
  induction zs with
  | nil=>rfl
  | cons z l ih=>
    rw[List.countP_cons,List.countP_cons,List.countP_cons,ih]
    by_cases h1:1<z
    ·simp[h1,show 0<z from by omega,show ¬z=1 from by omega];omega
    ·by_cases h2:z=1
     ·subst h2;simp;omega
     ·simp[h1,h2,show ¬0<z from by omega]
 rw[Bool.eq_iff_iff,beq_iff_eq,Bool.and_eq_true,beq_iff_eq,beq_iff_eq]
 constructor
 ·intro e
  have h1:oneR zs=1:=by rw[<-hone,<-tal_getD zs 1 (by decide),e];rfl
  have h2:zs.countP (fun z=>decide (1<z))=0:=by
   rw[List.countP_eq_zero]
   intro z hz hpos
   have hpos':1<z:=by simpa using hpos
   have hr:=h z hz
   have hc:cnt zs z.toNat=0:=by
    rw[<-tal_getD zs z.toNat (by omega),e]
    have:∀i,i<16->1<i->one16.getD i 0=0:=by decide
    exact this _ (by omega) (by omega)
   unfold cnt at hc
   rw[if_neg (by omega),List.countP_eq_zero] at hc
   exact hc z hz (by simp;omega)
  omega
 ·rintro ⟨h1,h2⟩
  have h3:zs.countP (fun z=>decide (1<z))=0:=by omega
  refine list_ext_getD (by simp[tal_length,one16]) (fun i hi=>?_)
  rw[tal_length] at hi
  rw[tal_getD zs i hi]
  by_cases e0:i=0
  ·subst e0;rw[cnt_zero];rfl
  ·by_cases e1:i=1
   ·subst e1;rw[hone,h2];rfl
   ·have:∀i,i<16->1<i->one16.getD i 0=0:=by decide
    rw[this i hi (by omega)]
    unfold cnt
    rw[if_neg e0,List.countP_eq_zero]
    intro z hz hzi
    rw[List.countP_eq_zero] at h3
    have:z=(i:Int):=by simpa using hzi
    exact h3 z hz (by simp;omega)
theorem lenOk_all{zs:List Int}(h:lenOk zs=true):zs.length<=512∧∀z∈zs,0<=z∧z<=15:=by
 unfold lenOk at h
 rw[Bool.and_eq_true,decide_eq_true_eq,List.all_eq_true] at h
 exact⟨h.1,fun z hz=>by simpa using h.2 z hz⟩
def okR(zs:List Int):Bool:=(someR zs==0||(someR zs==1&&oneR zs==1))||sumR zs==32768
theorem okR_okT{zs:List Int}(h:lenOk zs=true):okR zs=okT zs:=by
 have ha:=(lenOk_all h).2
 unfold okR okT
 rw[wsum_sumR zs ha,tal_zero_iff zs ha,one_split zs ha]
 cases (sumR zs==32768)<;>cases (someR zs==0)<;>cases (someR zs==1&&oneR zs==1)<;>rfl
end Hf
end Go.Proofs.YtelnefngkdfcoaaGreat
/-
 Plain facts on bits that are put into bytes.
-/
namespace Go.Proofs.YtelnefngkdfcoaaGreat
namespace Hf
def fullB(N n:Nat):List Int:=(List.range (n/8)).map (fun i=>((N/2^(n-8*(i+1))%256:Nat):Int))
theorem fullB_length(N n:Nat):(fullB N n).length=n/8:=by simp[fullB]
theorem fullB_getD(N n i:Nat)(h:i<n/8):(fullB N n).getD i 0=((N/2^(n-8*(i+1))%256:Nat):Int):=by
 simp[fullB,List.getD,h]
theorem fullB_rng(N n j:Nat):0<=(fullB N n).getD j 0∧(fullB N n).getD j 0<=255:=by
 by_cases h:j<n/8
 ·rw[fullB_getD N n j h]
  have:=Nat.mod_lt (N/2^(n-8*(j+1))) (show 0<256 by decide)
  omega
 ·have:(fullB N n)[j]?=none:=List.getElem?_eq_none (by rw[fullB_length];omega)
  simp[List.getD,this]
theorem il_ext{l m:List Int}(h:l.length=m.length)(he:∀i,i<l.length->l.getD i 0=m.getD i 0):l=m:=by
 refine List.ext_getElem h (fun i h1 h2=>?_)
 have:=he i h1
 simpa [List.getD,List.getElem?_eq_getElem h1,List.getElem?_eq_getElem h2] using this
theorem div_up(N c len e:Nat)(hc:c<2^len):(N*2^len+c)/2^(e+len)=N/2^e:=by
 rw[Nat.add_comm e len,Nat.pow_add,<-Nat.div_div_eq_div_mul,Nat.mul_comm N,Nat.mul_add_div (Nat.two_pow_pos len),Nat.div_eq_of_lt hc,Nat.add_zero]
end Hf
end Go.Proofs.YtelnefngkdfcoaaGreat
/-
 Plain facts on codes, and on symbols as bits.
-/
namespace Go.Proofs.YtelnefngkdfcoaaGreat
namespace Hf
theorem first_wsum(zs:List Int)(k:Nat)(hk:k<=15):first zs k*2^(15-k)=wsum zs k:=by
 induction k with
 | zero=>simp[first,wsum]
 | succ k ih=>
   have ih:=ih (by omega)
   rw[first,wsum,<-ih,Nat.mul_assoc,show 2*2^(15-(k+1))=2^(15-k) from by rw[show 15-k=(15-(k+1))+1 from by omega,Nat.pow_succ];omega,Nat.add_mul]
theorem wsum_mono(zs:List Int)(k n:Nat):wsum zs k<=wsum zs (k+n):=by
 induction n with
 | zero=>exact Nat.le_refl _
 | succ n ih=>rw[<-Nat.add_assoc,wsum];omega
theorem wsum_tal(zs:List Int)(l:List Nat)(h:tal zs=l)(k:Nat)(hk:k<=16):wsum zs k=((List.range k).map (fun i=>l.getD i 0*2^(15-i))).sum:=by
 induction k with
 | zero=>rfl
 | succ k ih=>
   rw[wsum,ih (by omega),List.range_succ,List.map_append,List.sum_append,<-h]
   simp only[List.map_cons,List.map_nil,List.sum_cons,List.sum_nil,Nat.add_zero,tal_getD zs k (show k<16 by omega)]
theorem wsum_top{zs:List Int}(h:checkB zs=true):wsum zs 16<=32768:=by
 unfold checkB okT at h
 rw[Bool.and_eq_true,Bool.or_eq_true,Bool.or_eq_true,beq_iff_eq,beq_iff_eq,beq_iff_eq] at h
 rcases h.2 with (h | h) | h
 ·omega
 ·rw[wsum_tal zs _ h 16 (Nat.le_refl _)];decide
 ·rw[wsum_tal zs _ h 16 (Nat.le_refl _)];decide
theorem first_cnt_le{zs:List Int}(h:checkB zs=true)(l:Nat)(hl:l<=15):first zs l+cnt zs l<=2^l:=by
 have h1:(first zs l+cnt zs l)*2^(15-l)=wsum zs (l+1):=by rw[Nat.add_mul,first_wsum zs l hl,wsum]
 have h2:=wsum_mono zs (l+1) (16-(l+1))
 rw[show l+1+(16-(l+1))=16 from by omega] at h2
 have h3:=wsum_top h
 have h4:(first zs l+cnt zs l)*2^(15-l)<=2^l*2^(15-l):=by
  rw[h1,<-Nat.pow_add,show l+(15-l)=15 from by omega];omega
 exact Nat.le_of_mul_le_mul_right h4 (Nat.two_pow_pos _)
theorem countP_take_lt(p:Int->Bool)(zs:List Int)(s:Nat)(hs:s<zs.length)(h:p (zs.getD s 0)=true):(zs.take s).countP p<zs.countP p:=by
 have e:zs.countP p=(zs.take s).countP p+(zs.drop s).countP p:=by
  rw[<-List.countP_append,List.take_append_drop]
 have e2:zs.drop s=zs.getD s 0::zs.drop (s+1):=by
  rw[List.drop_eq_getElem_cons hs]
  simp[List.getD,List.getElem?_eq_getElem hs]
 rw[e,e2,List.countP_cons,if_pos h]
 omega
theorem cnt_take_lt(zs:List Int)(s l:Nat)(hs:s<zs.length)(hz:zs.getD s 0=(l:Int))(h0:0<l):cnt (zs.take s) l<cnt zs l:=by
 unfold cnt
 rw[if_neg (by omega),if_neg (by omega)]
 exact countP_take_lt _ zs s hs (by rw[hz];simp)
theorem codeN_lt{zs:List Int}(h:checkB zs=true)(s l:Nat)(hs:s<zs.length)(hz:zs.getD s 0=(l:Int))(h0:0<l)(hl:l<=15):codeN zs s<2^l:=by
 have h1:=first_cnt_le h l hl
 have h2:=cnt_take_lt zs s l hs hz h0
 unfold codeN
 rw[hz,Int.toNat_natCast]
 omega
def symL(zs ys:List Int)(k:Nat):Nat:=(zs.getD (ys.getD k 0).toNat 0).toNat
def has(zs:List Int)(s:Int):Bool:=decide (0<=s)&&decide (s<(zs.length:Int))&&zs.getD s.toNat 0 != 0
def padN(n:Nat):Nat:=if n%8=0 then 0 else 8-n%8
def packN(N n:Nat):List Int:=fullB (N*2^padN n) (n+padN n)
theorem packN_rng(N n j:Nat):0<=(packN N n).getD j 0∧(packN N n).getD j 0<=255:=fullB_rng _ _ _
theorem packN_length(N n:Nat):(packN N n).length=(n+7)/8:=by
 unfold packN padN
 rw[fullB_length]
 split<;>omega
end Hf
end Go.Proofs.YtelnefngkdfcoaaGreat
/-
 Plain facts on how codes are found in bits.
-/
namespace Go.Proofs.YtelnefngkdfcoaaGreat
namespace Hf
def bitV(b:List Int)(i:Nat):Nat:=(b.getD (i/8) 0).toNat/2^(7-i%8)%2
theorem bitV_lt(b:List Int)(i:Nat):bitV b i<2:=Nat.mod_lt _ (by decide)
def vb(b:List Int)(at':Nat):Nat->Nat
 | 0=>0
 | l+1=>vb b at' l*2+bitV b (at'+l)
theorem vb_lt(b:List Int)(at' l:Nat):vb b at' l<2^l:=by
 induction l with
 | zero=>simp[vb]
 | succ l ih=>
   have:=bitV_lt b (at'+l)
   rw[vb,Nat.pow_succ];omega
def who(zs:List Int)(l c:Nat):Option Nat:=(List.range zs.length).find? (fun s=>zs.getD s 0==(l:Int)&&codeN zs s==c)
def oneG(zs b:List Int)(at':Nat):Nat->Nat->Int×Int
 | 0,_=>(-1,0)
 | f+1,l=>if l<16∧at'+l<=8*b.length then (match who zs l (vb b at' l) with | some s=>((s:Int),(l:Int)) | none=>oneG zs b at' f (l+1)) else (-1,0)
def oneF(zs b:List Int)(at':Nat):Int×Int:=oneG zs b at' 16 1
theorem codeN_eq(zs:List Int)(s l:Nat)(h:zs.getD s 0=(l:Int)):codeN zs s=first zs l+cnt (zs.take s) l:=by
 unfold codeN;rw[h,Int.toNat_natCast]
theorem cnt_take_mono(zs:List Int)(l s t:Nat)(h0:0<l)(hs:s<t)(ht:t<=zs.length)(hz:zs.getD s 0=(l:Int)):cnt (zs.take s) l<cnt (zs.take t) l:=by
 have e:(zs.take t).take s=zs.take s:=by rw[List.take_take,Nat.min_eq_left (by omega)]
 rw[<-e]
 refine cnt_take_lt (zs.take t) s l (by rw[List.length_take];omega) ?_ h0
 rw[<-hz]
 simp[List.getD,List.getElem?_take_of_lt hs]
theorem code_inj(zs:List Int)(l s t:Nat)(h0:0<l)(hs:s<zs.length)(ht:t<zs.length)(h1:zs.getD s 0=(l:Int))(h2:zs.getD t 0=(l:Int))(he:codeN zs s=codeN zs t):s=t:=by
 rw[codeN_eq zs s l h1,codeN_eq zs t l h2] at he
 rcases Nat.lt_trichotomy s t with h | h | h
 ·have:=cnt_take_mono zs l s t h0 h (by omega) h1;omega
 ·exact h
 ·have:=cnt_take_mono zs l t s h0 h (by omega) h2;omega
theorem who_some{zs:List Int}{l c s:Nat}(h0:0<l)(hs:s<zs.length)(hz:zs.getD s 0=(l:Int))(hc:codeN zs s=c):who zs l c=some s:=by
 unfold who
 cases hf:(List.range zs.length).find? (fun s=>zs.getD s 0==(l:Int)&&codeN zs s==c) with
 | none=>
   rw[List.find?_eq_none] at hf
   exact absurd (by rw[hz,hc];simp) (hf s (by simpa using hs))
 | some t=>
   have h1:=List.find?_some hf
   have h2:=List.mem_of_find?_eq_some hf
   rw[Bool.and_eq_true,beq_iff_eq,beq_iff_eq] at h1
   rw[code_inj zs l t s h0 (by simpa using h2) hs h1.1 hz (by rw[h1.2,hc])]
theorem who_none{zs:List Int}{l c:Nat}(h:∀s,s<zs.length->zs.getD s 0=(l:Int)->codeN zs s≠c):who zs l c=none:=by
 unfold who
 rw[List.find?_eq_none]
 intro s hs hb
 rw[Bool.and_eq_true,beq_iff_eq,beq_iff_eq] at hb
 exact h s (by simpa using hs) hb.1 hb.2
end Hf
end Go.Proofs.YtelnefngkdfcoaaGreat
/-
 Plain facts on the tree of a code, as codec grows it.
-/
namespace Go.Proofs.YtelnefngkdfcoaaGreat
namespace Hf
theorem first_up(zs:List Int)(l d:Nat):(first zs l+cnt zs l)*2^(d+1)<=first zs (l+d+1):=by
 induction d with
 | zero=>rw[first];simp
 | succ d ih=>
   rw[Nat.pow_succ,<-Nat.mul_assoc,show l+(d+1)+1=(l+d+1)+1 from by omega,first]
   exact Nat.mul_le_mul_right 2 (Nat.le_trans ih (Nat.le_add_right _ _))
theorem apartN{zs:List Int}(s t l m:Nat)(hs:s<zs.length)(ht:t<zs.length)(hst:s≠t)(h1:zs.getD s 0=(l:Int))(h2:zs.getD t 0=(m:Int))(h0:0<l)(hlm:l<=m)(e:codeN zs s=codeN zs t/2^(m-l)):False:=by
 by_cases hlm2:l=m
 ·subst hlm2
  rw[Nat.sub_self,Nat.pow_zero,Nat.div_one] at e
  exact hst (code_inj zs l s t h0 hs ht h1 h2 e)
 ·have d1:=codeN_eq zs s l h1
  have d2:=cnt_take_lt zs s l hs h1 h0
  have d3:=codeN_eq zs t m h2
  have d4:=first_up zs l (m-l-1)
  rw[show m-l-1+1=m-l from by omega,show l+(m-l-1)+1=m from by omega] at d4
  have d6:first zs l+cnt zs l<=codeN zs t/2^(m-l):=by
   rw[Nat.le_div_iff_mul_le (Nat.two_pow_pos _)]
   omega
  omega
abbrev Tr:=List (Int×Int)
def ent(T:Tr)(i b:Nat):Int:=if b=0 then (T.getD i (0,0)).1 else (T.getD i (0,0)).2
def setE(T:Tr)(i b:Nat)(x:Int):Tr:=T.set i (if b=0 then (x,(T.getD i (0,0)).2) else ((T.getD i (0,0)).1,x))
def growF(s:Nat)(c:Nat):Nat->Nat->Tr->Tr
 | 0,at_,T=>setE T at_ (c%2) (-(s:Int)-1)
 | m+1,at_,T=>if ent T at_ (c/2^(m+1)%2)=0 then growF s c m T.length (setE T at_ (c/2^(m+1)%2) (T.length:Int)++ [(0,0)]) else growF s c m (ent T at_ (c/2^(m+1)%2)).toNat T
theorem setE_length(T:Tr)(i b:Nat)(x:Int):(setE T i b x).length=T.length:=by simp[setE]
theorem ent_setE(T:Tr)(i b:Nat)(x:Int)(hi:i<T.length)(j d:Nat)(hb:b<2)(hd:d<2):ent (setE T i b x) j d=if j=i∧d=b then x else ent T j d:=by
 unfold ent setE
 by_cases e:j=i
 ·subst e
  have h1:(T.set j (if b=0 then (x,(T.getD j (0,0)).2) else ((T.getD j (0,0)).1,x))).getD j (0,0)=(if b=0 then (x,(T.getD j (0,0)).2) else ((T.getD j (0,0)).1,x)):=by simp[List.getD,hi]
  rw[h1]
  by_cases eb:b=0
  ·subst eb
   by_cases ed:d=0
   ·subst ed;simp
   ·simp[ed]
  ·by_cases ed:d=0
   ·subst ed
    have:¬0=b:=fun q=>eb q.symm
    simp[eb,this]
   ·have:d=b:=by omega
    subst this
    simp[ed]
 ·have h1:(T.set i (if b=0 then (x,(T.getD i (0,0)).2) else ((T.getD i (0,0)).1,x))).getD j (0,0)=T.getD j (0,0):=by
   simp only[List.getD,List.getElem?_set]
   rw[if_neg (fun q=>e q.symm)]
  rw[h1]
  simp[e]
theorem ent_app(T:Tr)(j d:Nat):ent (T++ [(0,0)]) j d=ent T j d:=by
 unfold ent
 by_cases h:j<T.length
 ·simp[List.getD,List.getElem?_append_left h]
 ·have h1:T.getD j (0,0)=(0,0):=by simp[List.getD,List.getElem?_eq_none (show T.length<=j by omega)]
  have h2:(T++ [((0:Int),(0:Int))]).getD j (0,0)=(0,0):=by
   by_cases e:j=T.length
   ·subst e;simp[List.getD]
   ·simp[List.getD,List.getElem?_eq_none (show(T++ [((0:Int),(0:Int))]).length<=j by simp;omega)]
  rw[h1,h2]
structure Tv (T:Tr) (P:List (Nat×Nat)) (S:Nat×Nat->Prop):Prop where
 len:P.length=T.length
 root:P.getD 0 (0,0)=(0,0)
 pos:0<T.length
 up:∀i b,i<T.length->b<2->0<ent T i b->(ent T i b).toNat<T.length∧P.getD (ent T i b).toNat (0,0)=((P.getD i (0,0)).1+1,2*(P.getD i (0,0)).2+b)
 leaf:∀i b,i<T.length->b<2->ent T i b<0->S ((P.getD i (0,0)).1+1,2*(P.getD i (0,0)).2+b)
theorem Tv.mono{T:Tr}{P:List (Nat×Nat)}{S S':Nat×Nat->Prop}(h:Tv T P S)(hs:∀x,S x->S' x):Tv T P S':=⟨h.len,h.root,h.pos,h.up,fun i b h1 h2 h3=>hs _ (h.leaf i b h1 h2 h3)⟩
theorem half(c m:Nat):c/2^m=2*(c/2^(m+1))+c/2^m%2:=by
 rw[Nat.pow_succ,<-Nat.div_div_eq_div_mul];omega
theorem Tv.node{T:Tr}{P:List (Nat×Nat)}{S:Nat×Nat->Prop}(h:Tv T P S)(i b:Nat)(hi:i<T.length)(hb:b<2):Tv (setE T i b (T.length:Int)++ [(0,0)]) (P++ [((P.getD i (0,0)).1+1,2*(P.getD i (0,0)).2+b)]) S:=by
 have hl:=h.len
 have hP:∀j,j<T.length->(P++ [((P.getD i (0,0)).1+1,2*(P.getD i (0,0)).2+b)]).getD j (0,0)=P.getD j (0,0):=fun j hj=>by simp[List.getD,List.getElem?_append_left (show j<P.length by omega)]
 have hPn:(P++ [((P.getD i (0,0)).1+1,2*(P.getD i (0,0)).2+b)]).getD T.length (0,0)=((P.getD i (0,0)).1+1,2*(P.getD i (0,0)).2+b):=by rw[<-hl];simp[List.getD]
 have hz:∀d,ent T T.length d=0:=fun d=>by
  unfold ent
  have:T.getD T.length (0,0)=(0,0):=by simp[List.getD]
  rw[this];split<;>rfl
 refine⟨by simp[setE_length,hl],by rw[hP 0 h.pos];exact h.root,by simp,fun j d hj hd hx=>?_,fun j d hj hd hx=>?_⟩
 ·rw[ent_app,ent_setE T i b _ hi j d hb hd] at hx|-
  rw[List.length_append,setE_length,List.length_singleton] at hj|-
  by_cases e:j=i∧d=b
  ·obtain⟨rfl,rfl⟩:=e
   rw[if_pos ⟨rfl,rfl⟩,Int.toNat_natCast]
   exact⟨by omega,by rw[hPn,hP j hi]⟩
  ·rw[if_neg e] at hx|-
   by_cases c:j<T.length
   ·have h1:=h.up j d c hd hx
    refine⟨by omega,?_⟩
    rw[hP _ h1.1,hP j c];exact h1.2
   ·have:j=T.length:=by omega
    rw[this,hz] at hx
    omega
 ·rw[ent_app,ent_setE T i b _ hi j d hb hd] at hx
  rw[List.length_append,setE_length,List.length_singleton] at hj
  by_cases e:j=i∧d=b
  ·rw[if_pos e] at hx;omega
  ·rw[if_neg e] at hx
   by_cases c:j<T.length
   ·rw[hP j c];exact h.leaf j d c hd hx
   ·have:j=T.length:=by omega
    rw[this,hz] at hx
    omega
theorem Tv.put{T:Tr}{P:List (Nat×Nat)}{S:Nat×Nat->Prop}(h:Tv T P S)(i b s:Nat)(hi:i<T.length)(hb:b<2)(hS:S ((P.getD i (0,0)).1+1,2*(P.getD i (0,0)).2+b)):Tv (setE T i b (-(s:Int)-1)) P S:=by
 refine⟨by rw[setE_length];exact h.len,h.root,by rw[setE_length];exact h.pos,fun j d hj hd hx=>?_,fun j d hj hd hx=>?_⟩
 ·rw[setE_length] at hj|-
  rw[ent_setE T i b _ hi j d hb hd] at hx|-
  by_cases e:j=i∧d=b
  ·rw[if_pos e] at hx;omega
  ·rw[if_neg e] at hx|-;exact h.up j d hj hd hx
 ·rw[setE_length] at hj
  rw[ent_setE T i b _ hi j d hb hd] at hx
  by_cases e:j=i∧d=b
  ·obtain⟨rfl,rfl⟩:=e;exact hS
  ·rw[if_neg e] at hx;exact h.leaf j d hj hd hx
theorem Tv.grow{S:Nat×Nat->Prop}(s c:Nat):∀(m at_ d:Nat) (T:Tr) (P:List (Nat×Nat)),Tv T P S->at_<T.length->P.getD at_ (0,0)=(d,c/2^(m+1))->(∀l p,S (l,p)->l<d+m+1->c/2^(d+m+1-l)≠p)->S (d+m+1,c) ->
 ∃P',Tv (growF s c m at_ T) P' S∧(growF s c m at_ T).length<=T.length+m:=by
 intro m
 induction m with
 | zero=>
   intro at_ d T P h hat hP hap hS
   refine⟨P,?_,?_⟩
   ·rw[growF]
    refine h.put at_ (c%2) s hat (Nat.mod_lt _ (by decide)) ?_
    rw[hP]
    have h3:=half c 0
    rw[Nat.pow_zero,Nat.div_one] at h3
    dsimp only
    rw[<-h3]
    exact hS
   ·rw[growF,setE_length];exact Nat.le_refl _
 | succ m ih=>
   intro at_ d T P h hat hP hap hS
   have hb:c/2^(m+1)%2<2:=Nat.mod_lt _ (by decide)
   have h3:=half c (m+1)
   rw[growF]
   by_cases he:ent T at_ (c/2^(m+1)%2)=0
   ·rw[if_pos he]
    obtain⟨P',h1,h2⟩:=ih T.length (d+1) _ _ (h.node at_ (c/2^(m+1)%2) hat hb) (by simp[setE_length]) (by
     rw[<-h.len,hP]
     simp only[List.getD,List.getElem?_concat_length,Option.getD_some,Prod.mk.injEq]
     exact⟨trivial,by omega⟩) (by rw[show d+1+m+1=d+(m+1)+1 from by omega];exact hap) (by rw[show d+1+m+1=d+(m+1)+1 from by omega];exact hS)
    refine⟨P',h1,?_⟩
    rw[List.length_append,setE_length,List.length_singleton] at h2
    omega
   ·rw[if_neg he]
    have hpos:0<ent T at_ (c/2^(m+1)%2):=by
     rcases Int.lt_trichotomy (ent T at_ (c/2^(m+1)%2)) 0 with q | q | q
     ·exfalso
      have h1:=h.leaf at_ _ hat hb q
      rw[hP] at h1
      refine hap _ _ h1 (by dsimp only;omega) ?_
      dsimp only
      rw[show d+(m+1)+1-(d+1)=m+1 from by omega]
      omega
     ·exact absurd q he
     ·exact q
    have hup:=h.up at_ _ hat hb hpos
    obtain⟨P',h1,h2⟩:=ih _ (d+1) _ _ h hup.1 (by
     rw[hup.2,hP]
     simp only[Prod.mk.injEq]
     exact⟨trivial,by omega⟩) (by rw[show d+1+m+1=d+(m+1)+1 from by omega];exact hap) (by rw[show d+1+m+1=d+(m+1)+1 from by omega];exact hS)
    exact⟨P',h1,by omega⟩
def treeG(zs:List Int):Nat->Tr
 | 0=> [(0,0)]
 | k+1=>if 0<zs.getD k 0 then growF k (codeN zs k) ((zs.getD k 0).toNat-1) 0 (treeG zs k) else treeG zs k
def coS(zs:List Int)(k:Nat)(x:Nat×Nat):Prop:=∃s,s<k∧0<zs.getD s 0∧x=((zs.getD s 0).toNat,codeN zs s)
theorem coS_apart{zs:List Int}(k n:Nat)(hk:k<zs.length)(hz:zs.getD k 0=(n:Int)):∀l p,coS zs (k+1) (l,p)->l<n->codeN zs k/2^(n-l)≠p:=by
 rintro l p ⟨s,hs,h0,e⟩ hl heq
 simp only[Prod.mk.injEq] at e
 obtain⟨rfl,rfl⟩:=e
 have hne:s≠k:=by
  rintro rfl
  rw[hz] at hl
  omega
 exact apartN s k (zs.getD s 0).toNat n (by omega) hk hne (by omega) hz (by omega) (by omega) heq.symm
theorem treeG_tv{zs:List Int}(hc:checkB zs=true):∀k,k<=zs.length->∃P,Tv (treeG zs k) P (coS zs k)∧(treeG zs k).length<=1+15*k:=by
 have hok:lenOk zs=true:=by unfold checkB at hc;rw[Bool.and_eq_true] at hc;exact hc.1
 intro k
 induction k with
 | zero=>
   intro _
   refine⟨[(0,0)],⟨rfl,rfl,by simp[treeG],fun i b hi hb hx=>?_,fun i b hi hb hx=>?_⟩,by simp[treeG]⟩
   ·have:i=0:=by simpa [treeG] using hi
    subst this
    simp[treeG,ent] at hx
   ·have:i=0:=by simpa [treeG] using hi
    subst this
    simp[treeG,ent] at hx
 | succ k ih=>
   intro hk
   obtain⟨P,h1,h2⟩:=ih (by omega)
   have h1':Tv (treeG zs k) P (coS zs (k+1)):=h1.mono (fun x ⟨s,hs,hx⟩=>⟨s,by omega,hx⟩)
   rw[treeG]
   by_cases h0:0<zs.getD k 0
   ·rw[if_pos h0]
    have hr:=(lenOk_all hok).2 _ (show zs.getD k 0∈zs from by simp[List.getD,List.getElem?_eq_getElem (show k<zs.length by omega)])
    obtain⟨n,hn⟩:∃n:Nat,zs.getD k 0=((n+1:Nat):Int):=⟨(zs.getD k 0).toNat-1,by omega⟩
    have hlt:=codeN_lt hc k (n+1) (by omega) hn (by omega) (by omega)
    have hap:=coS_apart (zs:=zs) k (n+1) (by omega) hn
    obtain⟨P',h3,h4⟩:=Tv.grow (S:=coS zs (k+1)) k (codeN zs k) n 0 0 (treeG zs k) P h1' h1.pos (by rw[h1.root,Nat.div_eq_of_lt hlt]) (by rw[Nat.zero_add];exact hap) ⟨k,by omega,h0,by rw[hn];simp⟩
    rw[hn,Int.toNat_natCast,Nat.add_sub_cancel]
    exact⟨P',h3,by omega⟩
   ·rw[if_neg h0]
    exact⟨P,h1',by omega⟩
end Hf
end Go.Proofs.YtelnefngkdfcoaaGreat
