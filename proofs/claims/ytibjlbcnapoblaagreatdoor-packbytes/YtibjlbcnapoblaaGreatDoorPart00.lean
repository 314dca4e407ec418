/- Contracts and facts. -/
import Derived.Laws.BitsAllLaws
namespace Go.Proofs.YtibjlbcnapoblaaGreatDoor
set_option maxRecDepth 100000
set_option maxHeartbeats 6400000
section
namespace Hf
def cnt(zs:List Int)(l:Nat):Nat:=if l=0 then 0 else zs.countP (fun z=>z==(l:Int))
def tal(zs:List Int):List Nat:=(List.range 16).map (cnt zs)
theorem Xev(zs:List Int):cnt zs 0=0:=by simp[cnt]
theorem Qle(zs:List Int)(l:Nat):cnt zs l<=zs.length:=by
 unfold cnt;split
 ·omega
 ·exact List.countP_le_length
theorem Qba(zs:List Int):(tal zs).length=16:=by simp[tal]
theorem Qcv(zs:List Int)(l:Nat)(h:l<16):(tal zs).getD l 0=cnt zs l:=by
 simp[tal,List.getD,h]
theorem Qhg(zs:List Int)(z:Int)(l:Nat):cnt (zs++ [z]) l=cnt zs l+(if l≠0∧z=(l:Int) then 1 else 0):=by
 unfold cnt
 by_cases h:l=0
 ·simp[h]
 ·simp only[h,if_false,List.countP_append,List.countP_singleton,ne_eq,not_false_eq_true,true_and]
  by_cases h2:z=(l:Int)
  ·simp[h2]
  ·simp[h2]
theorem Xja:tal []=List.replicate 16 0:=by decide
theorem Qbg{l m:List Nat}(h:l.length=m.length)(he:∀i,i<l.length->l.getD i 0=m.getD i 0):l=m:=by
 refine List.ext_getElem h (fun i h1 h2=>?_)
 have:=he i h1
 simpa [List.getD,List.getElem?_eq_getElem h1,List.getElem?_eq_getElem h2] using this
theorem Qol(l:List Nat)(i j v:Nat)(h:i<l.length):(l.set i v).getD j 0=if j=i then v else l.getD j 0:=by
 simp only[List.getD,List.getElem?_set]
 by_cases e:i=j
 ·subst e;simp[h]
 ·rw[if_neg e,if_neg (fun x=>e x.symm)]
theorem Xey(zs:List Int)(l:Nat)(h0:0<l)(h:l<16):tal (zs++ [(l:Int)])=(tal zs).set l (cnt zs l+1):=by
 refine Qbg (by simp[Qba]) (fun i hi=>?_)
 rw[Qba] at hi
 rw[Qcv _ _ hi,Qol _ _ _ _ (by rw[Qba];exact h),Qcv _ _ hi,Qhg]
 by_cases e:i=l
 ·subst e;simp;omega
 ·rw[if_neg e,if_neg (by omega)];rfl
theorem Xcl(zs:List Int)(z:Int)(h:z<=0):tal (zs++ [z])=tal zs:=by
 refine Qbg (by simp[Qba]) (fun i hi=>?_)
 rw[Qba] at hi
 rw[Qcv _ _ hi,Qcv _ _ hi,Qhg,if_neg (by omega)];rfl
def Qgj(zs:List Int):Nat->Nat
 | 0=>0
 | k+1=>Qgj zs k+cnt zs k*2^(15-k)
theorem Xi2(zs:List Int)(k:Nat):Qgj zs k<=k*(zs.length*32768):=by
 induction k with
 | zero=>simp[Qgj]
 | succ k ih=>
   have h1:=Qle zs k
   have h2:2^(15-k)<=2^15:=Nat.pow_le_pow_right (by decide) (by omega)
   have h3:cnt zs k*2^(15-k)<=zs.length*32768:=Nat.mul_le_mul h1 (by simpa using h2)
   rw[Qgj,Nat.add_mul];omega
def z16:List Nat:=List.replicate 16 0
theorem Qof(i:Nat):z16.getD i 0=0:=by
 by_cases h:i<16
 ·have:∀i,i<16->z16.getD i 0=0:=by decide
  exact this i h
 ·have:z16[i]?=none:=List.getElem?_eq_none (by simp[z16];omega)
  simp[List.getD,this]
def Qms:List Nat:=0::1::List.replicate 14 0
def Qhl(zs:List Int):Bool:=decide (zs.length<=512)&&zs.all (fun z=>decide (0<=z)&&decide (z<=15))
def okT(zs:List Int):Bool:=Qgj zs 16==32768||tal zs==z16||tal zs==Qms
def Qaq(zs:List Int):Bool:=Qhl zs&&okT zs
def Qco(zs:List Int):Int:=if Qaq zs then 0 else 51
def first(zs:List Int):Nat->Nat
 | 0=>0
 | k+1=>(first zs k+cnt zs k)*2
theorem Xgm(zs:List Int)(k:Nat):first zs k+2*zs.length<=zs.length*2^(k+1):=by
 induction k with
 | zero=>simp[first];omega
 | succ k ih=>
   have h1:=Qle zs k
   rw[first,Nat.pow_succ 2 (k+1),<-Nat.mul_assoc]
   omega
theorem Qhz(zs:List Int)(k:Nat)(hk:k<16)(hl:zs.length<=520):first zs k+zs.length<=34078720:=by
 have h:=Xgm zs k
 have h2:2^(k+1)<=2^16:=Nat.pow_le_pow_right (by decide) (by omega)
 have h3:zs.length*2^(k+1)<=520*65536:=Nat.mul_le_mul hl (by simpa using h2)
 omega
def Qdm(zs:List Int)(k:Nat):List Nat:=(List.range 16).map (fun l=>if l<k then first zs l else 0)
theorem Qdb(zs:List Int)(k:Nat):(Qdm zs k).length=16:=by simp[Qdm]
theorem Qfp(zs:List Int)(k l:Nat)(h:l<16):(Qdm zs k).getD l 0=if l<k then first zs l else 0:=by
 simp[Qdm,List.getD,h]
theorem Xal(zs:List Int):Qdm zs 1=z16:=by
 refine Qbg (by simp[Qdm,z16]) (fun i hi=>?_)
 rw[Qdb] at hi
 rw[Qfp _ _ _ hi]
 rw[Qof]
 by_cases h:i<1
 ·obtain rfl:i=0:=by omega
  simp[first]
 ·simp[h]
theorem Qy3(zs:List Int)(k:Nat)(h0:0<k)(h:k<16):(Qdm zs k).set k ((first zs (k-1)+cnt zs (k-1))*2)=Qdm zs (k+1):=by
 have e:(first zs (k-1)+cnt zs (k-1))*2=first zs k:=by
  conv=>rhs;rw[show k=(k-1)+1 from by omega,first]
 rw[e]
 refine Qbg (by simp[Qdm]) (fun i hi=>?_)
 rw[List.length_set,Qdb] at hi
 rw[Qol _ _ _ _ (by rw[Qdb];exact h),Qfp _ _ _ hi,Qfp _ _ _ hi]
 by_cases e:i=k
 ·subst e;simp
 ·rw[if_neg e]
  by_cases h2:i<k
  ·rw[if_pos h2,if_pos (by omega)]
  ·rw[if_neg h2,if_neg (by omega)]
def Qh6(zs:List Int)(k:Nat):List Nat:=(List.range 16).map (fun l=>first zs l+cnt (zs.take k) l)
theorem Qd6(zs:List Int)(k:Nat):(Qh6 zs k).length=16:=by simp[Qh6]
theorem Qdl(zs:List Int)(k l:Nat)(h:l<16):(Qh6 zs k).getD l 0=first zs l+cnt (zs.take k) l:=by
 simp[Qh6,List.getD,h]
theorem Qxt(zs:List Int):Qh6 zs 0=Qdm zs 16:=by
 refine Qbg (by simp[Qdm,Qh6]) (fun i hi=>?_)
 rw[Qd6] at hi
 rw[Qdl _ _ _ hi,Qfp _ _ _ hi,if_pos hi]
 simp[cnt]
theorem Qbq(zs:List Int)(k:Nat)(hk:k<zs.length):zs.take (k+1)=zs.take k++ [zs.getD k 0]:=by
 rw[List.take_succ_eq_append_getElem hk]
 simp[List.getD,List.getElem?_eq_getElem hk]
theorem Xcc(zs:List Int)(k l:Nat)(hk:k<zs.length)(hz:zs.getD k 0=(l:Int))(h0:0<l)(h:l<16):(Qh6 zs k).set l (first zs l+cnt (zs.take k) l+1)=Qh6 zs (k+1):=by
 refine Qbg (by simp[Qh6]) (fun i hi=>?_)
 rw[List.length_set,Qd6] at hi
 rw[Qol _ _ _ _ (by rw[Qd6];exact h),Qdl _ _ _ hi,Qdl _ _ _ hi,Qbq zs k hk,hz,Qhg]
 by_cases e:i=l
 ·subst e;rw[if_pos rfl,if_pos ⟨by omega,rfl⟩];omega
 ·rw[if_neg e,if_neg (by omega)];rfl
theorem Qw0(zs:List Int)(k:Nat)(hk:k<zs.length)(hz:zs.getD k 0<=0):Qh6 zs (k+1)=Qh6 zs k:=by
 refine Qbg (by simp[Qh6]) (fun i hi=>?_)
 rw[Qd6] at hi
 rw[Qdl _ _ _ hi,Qdl _ _ _ hi,Qbq zs k hk,Qhg,if_neg (by omega)];rfl
def Qds(zs:List Int)(s:Nat):Nat:=first zs (zs.getD s 0).toNat+cnt (zs.take s) (zs.getD s 0).toNat
def codeF(zs:List Int)(s:Nat):Int:=if 0<zs.getD s 0 then ((Qds zs s%65536:Nat):Int) else 0
def Qam(zs:List Int):List Int:=(List.range zs.length).map (codeF zs)
theorem Qax(zs:List Int):(Qam zs).length=zs.length:=by simp[Qam]
theorem Qer(zs:List Int)(s:Nat)(h:s<zs.length):(Qam zs).getD s 0=codeF zs s:=by
 simp[Qam,List.getD,h]
theorem Xb8(zs:List Int)(s:Nat):0<=codeF zs s∧codeF zs s<=65535:=by
 unfold codeF;split
 ·have:=Nat.mod_lt (Qds zs s) (show 0<65536 by decide);omega
 ·omega
theorem Qdk(zs:List Int)(j:Nat):0<=(Qam zs).getD j 0∧(Qam zs).getD j 0<=65535:=by
 by_cases h:j<zs.length
 ·rw[Qer zs j h];exact Xb8 zs j
 ·have:(Qam zs)[j]?=none:=List.getElem?_eq_none (by rw[Qax];omega)
  simp[List.getD,this]
def Qjp(zs:List Int):Nat:=(zs.map (fun z=>if 0<z then 2^(15-z.toNat) else 0)).sum
def Qdg(zs:List Int):Nat:=zs.countP (fun z=>decide (0<z))
def Qmz(zs:List Int):Nat:=zs.countP (fun z=>z==1)
theorem Qrg(zs:List Int)(z:Int):Qjp (zs++ [z])=Qjp zs+(if 0<z then 2^(15-z.toNat) else 0):=by
 simp[Qjp]
theorem Qxk(zs:List Int)(z:Int):Qdg (zs++ [z])=Qdg zs+(if 0<z then 1 else 0):=by
 simp[Qdg,List.countP_append,List.countP_singleton]
theorem Xb6(zs:List Int)(z:Int):Qmz (zs++ [z])=Qmz zs+(if z=1 then 1 else 0):=by
 simp[Qmz,List.countP_append,List.countP_singleton]
theorem Xh1(zs:List Int):Qjp zs<=zs.length*32768:=by
 induction zs with
 | nil=>simp[Qjp]
 | cons z l ih=>
   have h2:2^(15-z.toNat)<=2^15:=Nat.pow_le_pow_right (by decide) (by omega)
   have h2':2^(15-z.toNat)<=32768:=by simpa using h2
   simp only[Qjp,List.map_cons,List.sum_cons,List.length_cons,Nat.add_mul] at ih|-
   split<;>omega
theorem Qzs(zs:List Int)(z:Int)(k:Nat):Qgj (zs++ [z]) k=Qgj zs k+(if 0<z∧z.toNat<k then 2^(15-z.toNat) else 0):=by
 induction k with
 | zero=>simp[Qgj]
 | succ k ih=>
   rw[Qgj,Qgj,ih,Qhg]
   by_cases h:k≠0∧z=(k:Int)
   ·have h3:0<z∧z.toNat<k+1:=by omega
    have h4:¬(0<z∧z.toNat<k):=by omega
    have h5:z.toNat=k:=by omega
    rw[if_pos h,if_neg h4,if_pos h3,h5,Nat.add_mul];omega
   ·rw[if_neg h]
    by_cases h2:0<z∧z.toNat<k
    ·rw[if_pos h2,if_pos ⟨h2.1,by omega⟩,Nat.add_zero];omega
    ·rw[if_neg h2,if_neg (by omega)];rfl
theorem Xe9(k:Nat):Qgj [] k=0:=by
 induction k with
 | zero=>rfl
 | succ k ih=>rw[Qgj,ih];simp[cnt]
theorem Xf6{p:List Int->Prop}(h0:p [])(h1:∀l z,p l->p (l++ [z]))(zs:List Int):p zs:=by
 have h:∀n,p (zs.take n):=by
  intro n
  induction n with
  | zero=>simpa using h0
  | succ n ih=>
    by_cases hn:n<zs.length
    ·rw[Qbq zs n hn];exact h1 _ _ ih
    ·rw[List.take_of_length_le (by omega)];rw[List.take_of_length_le (by omega)] at ih;exact ih
 simpa using h zs.length
theorem Qqe(zs:List Int)(h:∀z∈zs,0<=z∧z<=15):Qgj zs 16=Qjp zs:=by
 revert h
 refine Xf6 (p:=fun zs=>(∀z∈zs,0<=z∧z<=15)->Qgj zs 16=Qjp zs) (fun _=>by rw[Xe9];rfl) (fun l z ih h=>?_) zs
 have hz:=h z (by simp)
 rw[Qzs,Qrg,ih (fun y hy=>h y (by simp[hy]))]
 by_cases h0:0<z
 ·rw[if_pos ⟨h0,by omega⟩,if_pos h0]
 ·rw[if_neg (by omega),if_neg h0]
theorem Xf4(zs:List Int)(l:Nat):cnt zs l<=Qdg zs:=by
 unfold cnt Qdg
 split
 ·omega
 ·refine List.countP_mono_left (fun z _ hz=>?_)
  have:z=(l:Int):=by simpa using hz
  simp;omega
theorem Qj0(zs:List Int)(h:∀z∈zs,0<=z∧z<=15):(tal zs==z16)=(Qdg zs==0):=by
 rw[Bool.eq_iff_iff,beq_iff_eq,beq_iff_eq]
 constructor
 ·intro e
  unfold Qdg
  rw[List.countP_eq_zero]
  intro z hz hpos
  have hpos':0<z:=by simpa using hpos
  have hr:=h z hz
  have hc:cnt zs z.toNat=0:=by
   rw[<-Qcv zs z.toNat (by omega),e,Qof]
  unfold cnt at hc
  rw[if_neg (by omega),List.countP_eq_zero] at hc
  exact hc z hz (by simp;omega)
 ·intro e
  refine Qbg (by simp[Qba,z16]) (fun i hi=>?_)
  rw[Qba] at hi
  rw[Qcv zs i hi]
  have:=Xf4 zs i
  rw[Qof];omega
theorem Qrr(zs:List Int)(h:∀z∈zs,0<=z∧z<=15):(tal zs==Qms)=(Qdg zs==1&&Qmz zs==1):=by
 have hone:cnt zs 1=Qmz zs:=by unfold cnt Qmz;simp
 have hsp:Qdg zs=Qmz zs+zs.countP (fun z=>decide (1<z)):=by
  unfold Qdg Qmz
  clear hone h
  induction zs with
  | nil=>rfl
  | cons z l ih=>
    rw[List.countP_cons,List.countP_cons,List.countP_cons,ih]
    by_cases h1:1<z
    ·simp[h1,show 0<z from by omega,show ¬z=1 from by omega];omega
    ·by_cases h2:z=1
     ·subst h2;simp;omega
     ·simp[h1,h2,show ¬0<z from by omega]
 rw[Bool.eq_iff_iff,beq_iff_eq,Bool.and_eq_true,beq_iff_eq,beq_iff_eq]
 constructor
 ·intro e
  have h1:Qmz zs=1:=by rw[<-hone,<-Qcv zs 1 (by decide),e];rfl
  have h2:zs.countP (fun z=>decide (1<z))=0:=by
   rw[List.countP_eq_zero]
   intro z hz hpos
   have hpos':1<z:=by simpa using hpos
   have hr:=h z hz
   have hc:cnt zs z.toNat=0:=by
    rw[<-Qcv zs z.toNat (by omega),e]
    have:∀i,i<16->1<i->Qms.getD i 0=0:=by decide
    exact this _ (by omega) (by omega)
   unfold cnt at hc
   rw[if_neg (by omega),List.countP_eq_zero] at hc
   exact hc z hz (by simp;omega)
  omega
 ·rintro ⟨h1,h2⟩
  have h3:zs.countP (fun z=>decide (1<z))=0:=by omega
  refine Qbg (by simp[Qba,Qms]) (fun i hi=>?_)
  rw[Qba] at hi
  rw[Qcv zs i hi]
  by_cases e0:i=0
  ·subst e0;rw[Xev];rfl
  ·by_cases e1:i=1
   ·subst e1;rw[hone,h2];rfl
   ·have:∀i,i<16->1<i->Qms.getD i 0=0:=by decide
    rw[this i hi (by omega)]
    unfold cnt
    rw[if_neg e0,List.countP_eq_zero]
    intro z hz hzi
    rw[List.countP_eq_zero] at h3
    have:z=(i:Int):=by simpa using hzi
    exact h3 z hz (by simp;omega)
theorem Qb0{zs:List Int}(h:Qhl zs=true):zs.length<=512∧∀z∈zs,0<=z∧z<=15:=by
 unfold Qhl at h
 rw[Bool.and_eq_true,decide_eq_true_eq,List.all_eq_true] at h
 exact⟨h.1,fun z hz=>by simpa using h.2 z hz⟩
def okR(zs:List Int):Bool:=(Qdg zs==0||(Qdg zs==1&&Qmz zs==1))||Qjp zs==32768
theorem Xjd{zs:List Int}(h:Qhl zs=true):okR zs=okT zs:=by
 have ha:=(Qb0 h).2
 unfold okR okT
 rw[Qqe zs ha,Qj0 zs ha,Qrr zs ha]
 cases (Qjp zs==32768)<;>cases (Qdg zs==0)<;>cases (Qdg zs==1&&Qmz zs==1)<;>rfl
end Hf
end
namespace Lz
def com(bs:List Int):Nat->Nat->Nat->Nat
 | _,_,0=>0
 | p,q,k+1=>if bs.getD p 0=bs.getD q 0 then com bs (p+1) (q+1) k+1 else 0
theorem Qjs(bs:List Int):∀k p q,com bs p q k<=k
 | 0,_,_=>Nat.le_refl _
 | k+1,p,q=>by
   unfold com
   have:=Qjs bs k (p+1) (q+1)
   split<;>omega
theorem Qeh(bs:List Int):∀k p q j,j<com bs p q k->bs.getD (p+j) 0=bs.getD (q+j) 0
 | 0,_,_,j,h=>absurd h (by simp[com])
 | k+1,p,q,j,h=>by
   unfold com at h
   split at h
   ·rename_i e
    cases j with
    | zero=>simpa using e
    | succ j=>
      have:=Qeh bs k (p+1) (q+1) j (by omega)
      rw[show p+(j+1)=p+1+j from by omega,show q+(j+1)=q+1+j from by omega]
      exact this
   ·omega
theorem Qoc(bs:List Int):∀k p q,com bs p q k<k->bs.getD (p+com bs p q k) 0≠bs.getD (q+com bs p q k) 0
 | 0,_,_,h=>absurd h (by omega)
 | k+1,p,q,h=>by
   unfold com at h|-
   split at h
   ·rename_i e
    rw[if_pos e]
    have:=Qoc bs k (p+1) (q+1) (by omega)
    rw[show p+(com bs (p+1) (q+1) k+1)=p+1+com bs (p+1) (q+1) k from by omega,show q+(com bs (p+1) (q+1) k+1)=q+1+com bs (p+1) (q+1) k from by omega]
    exact this
   ·rename_i e
    rw[if_neg e]
    exact e
theorem Qq7(bs:List Int)(k p q n:Nat)(hn:n<=k)(hs:∀j,j<n->bs.getD (p+j) 0=bs.getD (q+j) 0)(he:n=k∨bs.getD (p+n) 0≠bs.getD (q+n) 0):com bs p q k=n:=by
 rcases Nat.lt_trichotomy (com bs p q k) n with h | h | h
 ·exact absurd (hs _ h) (Qoc bs k p q (by omega))
 ·exact h
 ·rcases he with rfl | he
  ·have:=Qjs bs n p q;omega
  ·exact absurd (Qeh bs k p q n h) he
def better(bs:List Int)(q k:Nat)(s:Nat×Nat)(p:Nat):Nat×Nat:=if s.2<com bs p q k then (q-p,com bs p q k) else s
def best(bs:List Int)(q k:Nat)(ps:List Nat):Nat×Nat:=ps.foldl (better bs q k) (0,3)
theorem Qml(bs:List Int)(q k:Nat)(ps:List Nat)(p:Nat):best bs q k (ps++ [p])=better bs q k (best bs q k ps) p:=by simp[best]
def most(bs:List Int)(q:Nat):Nat:=min (bs.length-q) 258
theorem Qh0{bs:List Int}{q k:Nat}{s:Nat×Nat}(h:k<=s.2)(p:Nat):better bs q k s p=s:=by
 unfold better
 have:=Qjs bs k p q
 rw[if_neg (by omega)]
theorem Qis{bs:List Int}{q k:Nat}{s:Nat×Nat}(h:k<=s.2):∀ps:List Nat,ps.foldl (better bs q k) s=s
 | []=>rfl
 | p::ps=>by rw[List.foldl_cons,Qh0 h];exact Qis h ps
theorem Qkr{bs:List Int}{q k:Nat}{ps:List Nat}(h:k<=(best bs q k ps).2){qs:List Nat}(hp:ps <+: qs):best bs q k qs=best bs q k ps:=by
 obtain⟨r,rfl⟩:=hp
 unfold best
 rw[List.foldl_append]
 exact Qis h r
theorem Qrv(bs:List Int)(q k:Nat)(s:Nat×Nat)(p:Nat):s.2<=(better bs q k s p).2:=by
 unfold better;split
 ·simp;omega
 ·exact Nat.le_refl _
def Good(q k:Nat)(s:Nat×Nat):Prop:=(s.1=0∧s.2=3)∨(1<=s.1∧s.1<=q∧4<=s.2∧s.2<=k)
theorem Qtn{bs:List Int}{q k:Nat}{s:Nat×Nat}(h:Good q k s){p:Nat}(hp:p<q):Good q k (better bs q k s p):=by
 unfold better
 split
 ·rename_i hlt
  have:=Qjs bs k p q
  refine .inr ⟨by simp;omega,by simp,?_,this⟩
  rcases h with ⟨_,h2⟩ | ⟨_,_,h2,_⟩<;>simp<;>omega
 ·exact h
theorem Qr3{bs:List Int}{q k:Nat}:∀(ps:List Nat) (s:Nat×Nat),Good q k s->(∀p∈ps,p<q)->Good q k (ps.foldl (better bs q k) s)
 | [],_,h,_=>h
 | p::ps,s,h,hp=>Qr3 ps _ (Qtn h (hp p (by simp))) (fun x hx=>hp x (by simp[hx]))
theorem Qip{bs:List Int}{q k:Nat}{ps:List Nat}(hp:∀p∈ps,p<q):Good q k (best bs q k ps):=Qr3 ps _ (.inl ⟨rfl,rfl⟩) hp
abbrev Tok:=Nat×Nat×Int
def Qcu(bs:List Int)(q:Nat)(s:Nat×Nat):Tok:=if s.1=0 then (0,1,bs.getD q 0) else (s.1,s.2,0)
def Qbv(q:Nat):List Nat:=(List.range (min q 4096)).map fun j=>q-1-j
theorem Qha{q p:Nat}(h:p∈Qbv q):p<q∧q-p<=4096:=by
 unfold Qbv at h
 rw[List.mem_map] at h
 obtain⟨j,hj,rfl⟩:=h
 rw[List.mem_range] at hj
 omega
def Qb7(bs:List Int)(q:Nat):Tok:=Qcu bs q (best bs q (most bs q) (Qbv q))
def Qeu(bs:List Int)(p q:Nat):Bool:=bs.getD p 0==bs.getD q 0&&(bs.getD (p+1) 0==bs.getD (q+1) 0&&(bs.getD (p+2) 0==bs.getD (q+2) 0&&bs.getD (p+3) 0==bs.getD (q+3) 0))
theorem Qpy{bs:List Int}{k p q:Nat}(h:3<com bs p q k):Qeu bs p q=true:=by
 have h0:=Qeh bs k p q 0 (by omega)
 have h1:=Qeh bs k p q 1 (by omega)
 have h2:=Qeh bs k p q 2 (by omega)
 have h3:=Qeh bs k p q 3 (by omega)
 unfold Qeu
 simp only[Nat.add_zero] at h0
 rw[h0,h1,h2,h3]
 simp
theorem fold_filter{bs:List Int}{q k:Nat}:∀(ps:List Nat) (s:Nat×Nat),3<=s.2->(ps.filter fun p=>Qeu bs p q).foldl (better bs q k) s=ps.foldl (better bs q k) s
 | [],_,_=>rfl
 | p::ps,s,h=>by
   have hg:=Qrv bs q k s p
   cases hs:Qeu bs p q with
   | true=>
     rw[List.filter_cons_of_pos (by simpa using hs),List.foldl_cons,List.foldl_cons]
     exact fold_filter ps _ (by omega)
   | false=>
     rw[List.filter_cons_of_neg (by simp[hs]),List.foldl_cons]
     have e:better bs q k s p=s:=by
      unfold better
      rw[if_neg]
      intro hlt
      rw[Qpy (k:=k) (by omega)] at hs
      cases hs
     rw[e]
     exact fold_filter ps s h
def Qe3(bs:List Int)(q:Nat):List Nat:=if q+4<=bs.length then (Qbv q).filter fun p=>Qeu bs p q else []
theorem Qww(bs:List Int)(q:Nat):best bs q (most bs q) (Qe3 bs q)=best bs q (most bs q) (Qbv q):=by
 unfold Qe3
 split
 ·exact fold_filter _ _ (Nat.le_refl _)
 ·have hm:most bs q<=3:=by unfold most;omega
  unfold best
  rw[Qis (s:=(0,3)) hm,Qis (s:=(0,3)) hm]
theorem Qui(bs:List Int)(q:Nat):Qcu bs q (best bs q (most bs q) (Qe3 bs q))=Qb7 bs q:=by rw[Qww];rfl
theorem Qw5(bs:List Int)(q:Nat):Good q (most bs q) (best bs q (most bs q) (Qbv q)):=Qip fun _ hp=>(Qha hp).1
theorem Qfw(bs:List Int)(q:Nat)(h:q<bs.length):1<=(Qb7 bs q).2.1∧q+(Qb7 bs q).2.1<=bs.length∧(Qb7 bs q).2.1<=258:=by
 have hg:=Qw5 bs q
 have hm:most bs q<=bs.length-q∧most bs q<=258:=by unfold most;omega
 unfold Qb7 Qcu
 rcases hg with ⟨h1,h2⟩ | ⟨h1,h2,h3,h4⟩
 ·rw[if_pos h1];simp;omega
 ·rw[if_neg (by omega)];simp;omega
def tks(bs:List Int):Nat->Nat->List Tok
 | 0,_=> []
 | n+1,q=>if q<bs.length then Qb7 bs q::tks bs n (q+(Qb7 bs q).2.1) else []
def Qgh(bs:List Int):List Tok:=tks bs bs.length 0
theorem Qk9{bs:List Int}{q:Nat}(h:¬q<bs.length):∀n,tks bs n q= []
 | 0=>rfl
 | n+1=>by unfold tks;rw[if_neg h]
theorem Qvr{bs:List Int}:∀(n q:Nat),bs.length-q<=n->tks bs (n+1) q=tks bs n q
 | 0,q,h=>by rw[Qk9 (by omega),Qk9 (by omega)]
 | n+1,q,h=>by
   by_cases hq:q<bs.length
   ·have:=Qfw bs q hq
    rw[show tks bs (n+1+1) q=if q<bs.length then Qb7 bs q::tks bs (n+1) (q+(Qb7 bs q).2.1) else [] from rfl,show tks bs (n+1) q=if q<bs.length then Qb7 bs q::tks bs n (q+(Qb7 bs q).2.1) else [] from rfl,if_pos hq,if_pos hq,Qvr n _ (by omega)]
   ·rw[Qk9 hq,Qk9 hq]
def from_(bs:List Int)(q:Nat):List Tok:=tks bs (bs.length-q) q
theorem Qu5{bs:List Int}(q:Nat):∀d,tks bs (bs.length-q+d) q=from_ bs q
 | 0=>rfl
 | d+1=>by rw[show bs.length-q+(d+1)=bs.length-q+d+1 from by omega,Qvr _ _ (by omega)];exact Qu5 q d
theorem Qfi{bs:List Int}{q:Nat}(h:q<bs.length):from_ bs q=Qb7 bs q::from_ bs (q+(Qb7 bs q).2.1):=by
 have hl:=Qfw bs q h
 have e:bs.length-q=(bs.length-q-1)+1:=by omega
 unfold from_
 rw[e]
 rw[show tks bs (bs.length-q-1+1) q=if q<bs.length then Qb7 bs q::tks bs (bs.length-q-1) (q+(Qb7 bs q).2.1) else [] from rfl,if_pos h]
 congr 1
 have:=Qu5 (bs:=bs) (q+(Qb7 bs q).2.1) (bs.length-q-1-(bs.length-(q+(Qb7 bs q).2.1)))
 rw[show bs.length-(q+(Qb7 bs q).2.1)+(bs.length-q-1-(bs.length-(q+(Qb7 bs q).2.1)))=bs.length-q-1 from by omega] at this
 exact this
theorem Qe5{bs:List Int}{q:Nat}(h:¬q<bs.length):from_ bs q= []:=Qk9 h _
theorem Qvz{bs:List Int}:∀(n q:Nat),bs.length-q<=n->(from_ bs q).length<=bs.length-q
 | 0,q,h=>by rw[Qe5 (by omega)];simp
 | n+1,q,h=>by
   by_cases hq:q<bs.length
   ·have:=Qfw bs q hq
    rw[Qfi hq]
    have h2:=Qvz (bs:=bs) n (q+(Qb7 bs q).2.1) (by omega)
    simp only[List.length_cons]
    omega
   ·rw[Qe5 hq];simp
theorem Qej(bs:List Int):Qgh bs=from_ bs 0:=by unfold Qgh from_;rfl
def nxt(bs:List Int)(q:Nat):Nat->Nat
 | 0=>0
 | m+1=>if Qeu bs m q then m+1 else nxt bs q m
theorem Qvp(bs:List Int)(q:Nat):∀m,nxt bs q m<=m
 | 0=>Nat.le_refl _
 | m+1=>by unfold nxt;have:=Qvp bs q m;split<;>omega
theorem Qv0{bs:List Int}{q:Nat}:∀ {m},0<nxt bs q m->Qeu bs (nxt bs q m-1) q=true
 | 0,h=>absurd h (by simp[nxt])
 | m+1,h=>by
   unfold nxt at h|-
   split
   ·rename_i e;simpa using e
   ·rename_i e;rw[if_neg e] at h;exact Qv0 h
def chain(bs:List Int)(q:Nat):Nat->List Nat
 | 0=> []
 | m+1=>if Qeu bs m q=true∧q-m<=4096 then m::chain bs q m else chain bs q m
theorem Qpw{bs:List Int}{q:Nat}:∀ {m},m+4096<=q->chain bs q m= []
 | 0,_=>rfl
 | m+1,h=>by
   unfold chain
   rw[if_neg (by omega)]
   exact Qpw (by omega)
theorem Qro{bs:List Int}{q:Nat}:∀ {m},chain bs q m=if 0<nxt bs q m∧q-(nxt bs q m-1)<=4096 then (nxt bs q m-1)::chain bs q (nxt bs q m-1) else []
 | 0=>by simp[chain,nxt]
 | m+1=>by
   cases hs:Qeu bs m q with
   | true=>
     have e:nxt bs q (m+1)=m+1:=by unfold nxt;rw[hs];simp
     rw[e,show chain bs q (m+1)=if Qeu bs m q=true∧q-m<=4096 then m::chain bs q m else chain bs q m from rfl]
     simp only[hs,true_and,Nat.add_sub_cancel]
     by_cases h:q-m<=4096
     ·rw[if_pos h,if_pos ⟨by omega,h⟩]
     ·rw[if_neg h,if_neg (fun h'=>h h'.2),Qpw (by omega)]
   | false=>
     have e:nxt bs q (m+1)=nxt bs q m:=by
      show(if Qeu bs m q=true then m+1 else nxt bs q m)=_
      rw[hs];simp
     rw[e]
     have e2:chain bs q (m+1)=chain bs q m:=by
      show(if Qeu bs m q=true∧q-m<=4096 then m::chain bs q m else chain bs q m)=_
      rw[hs];simp
     rw[e2]
     exact Qro
theorem Qwc(bs:List Int)(q:Nat):∀m,m<=q->chain bs q m=(((List.range m).map fun j=>m-1-j).filter fun p=>decide (q-p<=4096)).filter fun p=>Qeu bs p q
 | 0,_=>rfl
 | m+1,h=>by
   have ih:=Qwc bs q m (by omega)
   have e:(List.range (m+1)).map (fun j=>m+1-1-j)=m::(List.range m).map fun j=>m-1-j:=by
    rw[List.range_succ_eq_map,List.map_cons,List.map_map]
    congr 1
    refine List.map_congr_left fun j _=>?_
    simp only[Function.comp]
    omega
   rw[e]
   unfold chain
   by_cases hq:q-m<=4096
   ·rw[List.filter_cons_of_pos (by simpa using hq)]
    cases hs:Qeu bs m q with
    | true=>rw[List.filter_cons_of_pos (by simpa using hs),if_pos ⟨rfl,hq⟩,ih]
    | false=>rw[List.filter_cons_of_neg (by simp[hs]),if_neg (by simp),ih]
   ·rw[List.filter_cons_of_neg (by simpa using hq),if_neg (fun h'=>hq h'.2),ih]
theorem Xfu(q:Nat):(((List.range q).map fun j=>q-1-j).filter fun p=>decide (q-p<=4096))=Qbv q:=by
 unfold Qbv
 by_cases h:q<=4096
 ·rw[Nat.min_eq_left h,List.filter_eq_self]
  intro p hp
  simp;omega
 ·rw[Nat.min_eq_right (by omega)]
  obtain⟨K,hK⟩:∃K:Nat,K=4096:=⟨_,rfl⟩
  rw[<-hK]
  have e:List.range q=List.range K++(List.range (q-K)).map (K + ·):=by
   rw[<-List.range_add,show K+(q-K)=q from by omega]
  rw[e,List.map_append,List.filter_append]
  have h1:(List.filter (fun p=>decide (q-p<=K)) (List.map (fun j=>q-1-j) (List.range K)))=List.map (fun j=>q-1-j) (List.range K):=by
   rw[List.filter_eq_self]
   intro p hp
   rw[List.mem_map] at hp
   obtain⟨j,hj,rfl⟩:=hp
   rw[List.mem_range] at hj
   simp;omega
  have h2:(List.filter (fun p=>decide (q-p<=K)) (List.map (fun j=>q-1-j) (List.map (fun x=>K+x) (List.range (q-K)))))= []:=by
   rw[List.filter_eq_nil_iff]
   intro p hp
   rw[List.mem_map] at hp
   obtain⟨j,hj,rfl⟩:=hp
   rw[List.mem_map] at hj
   obtain⟨i,hi,rfl⟩:=hj
   rw[List.mem_range] at hi
   simp;omega
  rw[h1,h2,List.append_nil]
theorem Qtm{bs:List Int}{q:Nat}(h:q+4<=bs.length):chain bs q q=Qe3 bs q:=by
 rw[Qwc bs q q (Nat.le_refl _),Xfu]
 unfold Qe3
 rw[if_pos h]
end Lz
namespace Sh.Sha
def Qyp(x:Nat):Nat:=x/2+x%2*2147483648
def iter(f:Nat->Nat):Nat->Nat->Nat
 | 0,x=>x
 | n+1,x=>iter f n (f x)
theorem Qmm(f:Nat->Nat)(x:Nat):iter f 0 x=x:=rfl
theorem Qlm(f:Nat->Nat)(n x:Nat):iter f (n+1) x=iter f n (f x):=rfl
theorem Qzk(f:Nat->Nat)(B:Nat)(hf:∀x,x<B->f x<B)(n:Nat):∀x:Nat,x<B->iter f n x<B:=by
 induction n with
 | zero=>intro x h;exact h
 | succ n ih=>intro x h;exact ih (f x) (hf x h)
def Qy7(x:Nat):Nat:=x/2
def Qhb(n x:Nat):Nat:=iter Qyp n x
def Qpv(n x:Nat):Nat:=iter Qy7 n x
def sg0(x:Nat):Nat:=Qhb 7 x^^^Qhb 18 x^^^Qpv 3 x
def sg1(x:Nat):Nat:=Qhb 17 x^^^Qhb 19 x^^^Qpv 10 x
def up0(x:Nat):Nat:=Qhb 2 x^^^Qhb 13 x^^^Qhb 22 x
def up1(x:Nat):Nat:=Qhb 6 x^^^Qhb 11 x^^^Qhb 25 x
def add32(a b:Nat):Nat:=(a+b)%4294967296
def be4(bl:List Nat)(i:Nat):Nat:=add32 (add32 (add32 (bl.getD (4*i) 0*16777216%4294967296) (bl.getD (4*i+1) 0*65536%4294967296)) (bl.getD (4*i+2) 0*256%4294967296)) (bl.getD (4*i+3) 0)
def next(bl l:List Nat):Nat:=
 if l.length<16 then be4 bl l.length
 else add32 (add32 (add32 (l.getD (l.length-16) 0) (sg0 (l.getD (l.length-15) 0))) (l.getD (l.length-7) 0)) (sg1 (l.getD (l.length-2) 0))
def sched(bl:List Nat):Nat->List Nat
 | 0=> []
 | n+1=>sched bl n++ [next bl (sched bl n)]
def kL:List Nat:= [0x428a2f98,0x71374491,0xb5c0fbcf,0xe9b5dba5,0x3956c25b,0x59f111f1,0x923f82a4,0xab1c5ed5,
 0xd807aa98,0x12835b01,0x243185be,0x550c7dc3,0x72be5d74,0x80deb1fe,0x9bdc06a7,0xc19bf174,
 0xe49b69c1,0xefbe4786,0x0fc19dc6,0x240ca1cc,0x2de92c6f,0x4a7484aa,0x5cb0a9dc,0x76f988da,
 0x983e5152,0xa831c66d,0xb00327c8,0xbf597fc7,0xc6e00bf3,0xd5a79147,0x06ca6351,0x14292967,
 0x27b70a85,0x2e1b2138,0x4d2c6dfc,0x53380d13,0x650a7354,0x766a0abb,0x81c2c92e,0x92722c85,
 0xa2bfe8a1,0xa81a664b,0xc24b8b70,0xc76c51a3,0xd192e819,0xd6990624,0xf40e3585,0x106aa070,
 0x19a4c116,0x1e376c08,0x2748774c,0x34b0bcb5,0x391c0cb3,0x4ed8aa4a,0x5b9cca4f,0x682e6ff3,
 0x748f82ee,0x78a5636f,0x84c87814,0x8cc70208,0x90befffa,0xa4506ceb,0xbef9a3f7,0xc67178f2]
structure St where
 a:Nat
 b:Nat
 c:Nat
 d:Nat
 e:Nat
 f:Nat
 g:Nat
 h:Nat
def St.list(s:St):List Nat:= [s.a,s.b,s.c,s.d,s.e,s.f,s.g,s.h]
def t1F(s:St)(k w:Nat):Nat:=add32 (add32 (add32 (add32 s.h (up1 s.e)) ((s.e&&&s.f)^^^((s.e^^^4294967295)&&&s.g))) k) w
def t2F(s:St):Nat:=add32 (up0 s.a) ((s.a&&&s.b)^^^(s.a&&&s.c)^^^(s.b&&&s.c))
def rnd(s:St)(k w:Nat):St:=⟨add32 (t1F s k w) (t2F s),s.a,s.b,s.c,add32 s.d (t1F s k w),s.e,s.f,s.g⟩
def rounds(ws:List Nat)(s:St):Nat->St
 | 0=>s
 | n+1=>rnd (rounds ws s n) (kL.getD n 0) (ws.getD n 0)
def both(s t:St):St:=⟨add32 s.a t.a,add32 s.b t.b,add32 s.c t.c,add32 s.d t.d,add32 s.e t.e,add32 s.f t.f,add32 s.g t.g,add32 s.h t.h⟩
def step(s:St)(bl:List Nat):St:=both (rounds (sched bl 64) s 64) s
def start:St:=⟨0x6a09e667,0xbb67ae85,0x3c6ef372,0xa54ff53a,0x510e527f,0x9b05688c,0x1f83d9ab,0x5be0cd19⟩
/-! The bounds -/
theorem Qcn(a b:Nat):add32 a b<2^32:=Nat.mod_lt _ (by decide)
theorem Qsx(x:Nat)(h:x<2^32):Qyp x<2^32:=by unfold Qyp;omega
theorem Quj(x:Nat)(h:x<2^32):Qy7 x<2^32:=by unfold Qy7;omega
theorem Qbd(n x:Nat)(h:x<2^32):Qhb n x<2^32:=Qzk Qyp (2^32) Qsx n x h
theorem Qo0(n x:Nat)(h:x<2^32):Qpv n x<2^32:=Qzk Qy7 (2^32) Quj n x h
theorem Xhc(x:Nat)(h:x<2^32):sg0 x<2^32:=by
 unfold sg0
 exact Nat.xor_lt_two_pow (Nat.xor_lt_two_pow (Qbd _ _ h) (Qbd _ _ h)) (Qo0 _ _ h)
theorem Xhd(x:Nat)(h:x<2^32):sg1 x<2^32:=by
 unfold sg1
 exact Nat.xor_lt_two_pow (Nat.xor_lt_two_pow (Qbd _ _ h) (Qbd _ _ h)) (Qo0 _ _ h)
theorem Xj9(x:Nat)(h:x<2^32):up0 x<2^32:=by
 unfold up0
 exact Nat.xor_lt_two_pow (Nat.xor_lt_two_pow (Qbd _ _ h) (Qbd _ _ h)) (Qbd _ _ h)
theorem Xkc(x:Nat)(h:x<2^32):up1 x<2^32:=by
 unfold up1
 exact Nat.xor_lt_two_pow (Nat.xor_lt_two_pow (Qbd _ _ h) (Qbd _ _ h)) (Qbd _ _ h)
theorem Qbm(bl:List Nat)(n:Nat):(sched bl n).length=n:=by
 induction n with
 | zero=>rfl
 | succ n ih=>rw[sched,List.length_append,ih];rfl
theorem next_lt(bl l:List Nat):next bl l<2^32:=by
 unfold next
 split
 ·exact Qcn _ _
 ·exact Qcn _ _
structure St.Ok (s:St):Prop where
 a:s.a<2^32
 b:s.b<2^32
 c:s.c<2^32
 d:s.d<2^32
 e:s.e<2^32
 f:s.f<2^32
 g:s.g<2^32
 h:s.h<2^32
theorem Xkj(s:St)(k w:Nat)(h:s.Ok):(rnd s k w).Ok:=⟨Qcn _ _,h.a,h.b,h.c,Qcn _ _,h.e,h.f,h.g⟩
theorem Qq2(ws:List Nat)(s:St)(h:s.Ok)(n:Nat):(rounds ws s n).Ok:=by
 induction n with
 | zero=>exact h
 | succ n ih=>exact Xkj _ _ _ ih
theorem Xiw(s t:St):(both s t).Ok:=⟨Qcn _ _,Qcn _ _,Qcn _ _,Qcn _ _,Qcn _ _,Qcn _ _,Qcn _ _,Qcn _ _⟩
theorem step_ok(s:St)(bl:List Nat):(step s bl).Ok:=Xiw _ _
theorem Qpn:start.Ok:=⟨by decide,by decide,by decide,by decide,by decide,by decide,by decide,by decide⟩
/-! The digest -/
def Qfa(f:St->List Nat->St):Nat->List Nat->St->St
 | 0,_,s=>s
 | n+1,l,s=>Qfa f n (l.drop 64) (f s (l.take 64))
theorem Qjz(f:St->List Nat->St)(l:List Nat)(s:St):Qfa f 0 l s=s:=rfl
theorem Qda(f:St->List Nat->St)(n:Nat)(l:List Nat)(s:St):Qfa f (n+1) l s=Qfa f n (l.drop 64) (f s (l.take 64)):=rfl
theorem Qwx(f:St->List Nat->St)(hf:∀s l,(f s l).Ok)(n:Nat):∀(l:List Nat) (s:St),s.Ok->(Qfa f n l s).Ok:=by
 induction n with
 | zero=>intro l s h;exact h
 | succ n ih=>intro l s h;rw[Qda];exact ih _ _ (hf _ _)
def blocks(n:Nat)(l:List Nat)(s:St):St:=Qfa step n l s
theorem Qlv(n:Nat)(l:List Nat)(s:St)(h:s.Ok):(blocks n l s).Ok:=Qwx step step_ok n l s h
def pad(n:Nat):List Nat:=128::List.replicate ((119-n%64)%64) 0++(List.range 8).map fun i=>(8*n)%2^64/256^(7-i)%256
def four(x:Nat):List Nat:= [x/16777216%256,x/65536%256,x/256%256,x%256]
def bytes(s:St):List Nat:=four s.a++four s.b++four s.c++four s.d++four s.e++four s.f++four s.g++four s.h
def digest(l:List Nat):List Nat:=bytes (blocks ((l++pad l.length).length/64) (l++pad l.length) start)
end Sh.Sha
namespace Sh.Sha
def force{α:Type}(x:Nat)(f:Nat->α):α:=Nat.rec (f 0) (fun n _=>f n.succ) x
def Qpu(n x:Nat):Nat:=x/2^n+x%2^n*2^(32-n)
theorem Xcw(n x:Nat)(hn:n<32)(_hx:x<2^32):Qpu n (Qyp x)=Qpu (n+1) x:=by
 have hp:(2:Nat)^(32-n)=2*2^(31-n):=by rw[<-Nat.pow_succ',show(31-n).succ=32-n from by omega]
 have hq:(2:Nat)^31=2^n*2^(31-n):=by rw[<-Nat.pow_add,show n+(31-n)=31 from by omega]
 have hn0:(0:Nat)<2^n:=Nat.two_pow_pos n
 have e1:Qyp x=x/2+2^n*(x%2*2^(31-n)):=by
  unfold Qyp
  rw[show(2147483648:Nat)=2^31 from rfl,hq,<-Nat.mul_assoc,<-Nat.mul_assoc,Nat.mul_comm (x%2) (2^n)]
 unfold Qpu
 rw[e1,Nat.add_mul_div_left _ _ hn0,Nat.add_mul_mod_self_left,Nat.div_div_eq_div_mul,<-Nat.pow_succ',hp,show 32-(n+1)=31-n from by omega]
 have e2:x%2^(n+1)=x%2+2*(x/2%2^n):=by rw[Nat.pow_succ',Nat.mod_mul]
 rw[e2,Nat.add_mul]
 have e3:x/2%2^n*(2*2^(31-n))=2*(x/2%2^n)*2^(31-n):=by rw[<-Nat.mul_assoc,Nat.mul_comm _ 2]
 rw[e3,Nat.add_assoc]
theorem Qnp(f:Nat->Nat)(Q:Nat->Nat->Nat)(B M:Nat)(h0:∀x,Q 0 x=x)(hf:∀x,x<B->f x<B)(hs:∀n x,n<M->x<B->Q n (f x)=Q (n+1) x)(n:Nat):∀x:Nat,n<=M->x<B->iter f n x=Q n x:=by
 induction n with
 | zero=>intro x _ _;rw[h0,Qmm]
 | succ n ih=>intro x hn hx;rw[Qlm,ih _ (by omega) (hf x hx),hs n x (by omega) hx]
theorem Qyu(x:Nat):Qpu 0 x=x:=by unfold Qpu;rw[Nat.pow_zero,Nat.div_one,Nat.mod_one,Nat.zero_mul,Nat.add_zero]
theorem Qfn(n x:Nat)(hn:n<=32)(hx:x<2^32):Qhb n x=Qpu n x:=Qnp Qyp Qpu (2^32) 32 Qyu Qsx Xcw n x hn hx
theorem Xeh(n x:Nat):Qy7 x/2^n=x/2^(n+1):=by unfold Qy7;rw[Nat.div_div_eq_div_mul,<-Nat.pow_succ']
theorem Qi8(n x:Nat)(hn:n<=32)(hx:x<2^32):Qpv n x=x/2^n:=Qnp Qy7 (fun n x=>x/2^n) (2^32) 32 (fun x=>by rw[Nat.pow_zero,Nat.div_one]) Quj (fun n x _ _=>Xeh n x) n x hn hx
def Xlk(x:Nat):Nat:=Qpu 7 x^^^Qpu 18 x^^^x/2^3
def Xlh(x:Nat):Nat:=Qpu 17 x^^^Qpu 19 x^^^x/2^10
def Xl2(x:Nat):Nat:=Qpu 2 x^^^Qpu 13 x^^^Qpu 22 x
def Xl4(x:Nat):Nat:=Qpu 6 x^^^Qpu 11 x^^^Qpu 25 x
theorem Qsd(x:Nat)(h:x<2^32):sg0 x=Xlk x:=by rw[sg0,Xlk,Qfn _ _ (by decide) h,Qfn _ _ (by decide) h,Qi8 _ _ (by decide) h]
theorem Qp3(x:Nat)(h:x<2^32):sg1 x=Xlh x:=by rw[sg1,Xlh,Qfn _ _ (by decide) h,Qfn _ _ (by decide) h,Qi8 _ _ (by decide) h]
def wS(bl:List Nat)(i:Nat):Nat:=next bl (sched bl i)
theorem Qet(bl:List Nat)(n i:Nat)(h:i<n):(sched bl n).getD i 0=wS bl i:=by
 induction n with
 | zero=>omega
 | succ n ih=>
   rw[sched]
   by_cases hi:i<n
   ·rw[<-ih hi]
    simp[List.getD,List.getElem?_append_left (show i<(sched bl n).length from by rw[Qbm];exact hi)]
   ·have:i=n:=by omega
    subst this
    have hl:=Qbm bl i
    simp[List.getD,wS,hl]
theorem Qh2(bl:List Nat)(i:Nat):wS bl i<2^32:=next_lt _ _
theorem Xg8(bl:List Nat)(i:Nat)(h:i<16):wS bl i=be4 bl i:=by
 rw[wS,next,Qbm,if_pos h]
theorem Xhw(bl:List Nat)(i:Nat):wS bl (i+16)=add32 (add32 (add32 (wS bl i) (Xlk (wS bl (i+1)))) (wS bl (i+9))) (Xlh (wS bl (i+14))):=by
 rw[<-Qsd _ (Qh2 _ _),<-Qp3 _ (Qh2 _ _)]
 rw[show wS bl (i+16)=next bl (sched bl (i+16)) from rfl,next,Qbm,if_neg (by omega)]
 rw[Qet _ _ _ (show i+16-16<i+16 by omega),Qet _ _ _ (show i+16-15<i+16 by omega),Qet _ _ _ (show i+16-7<i+16 by omega),Qet _ _ _ (show i+16-2<i+16 by omega)]
 rfl
def t1Q(e f g h k w:Nat):Nat:=add32 (add32 (add32 (add32 h (Xl4 e)) ((e&&&f)^^^((e^^^4294967295)&&&g))) k) w
def t2Q(a b c:Nat):Nat:=add32 (Xl2 a) ((a&&&b)^^^(a&&&c)^^^(b&&&c))
structure Win where
 w0:Nat
 w1:Nat
 w2:Nat
 w3:Nat
 w4:Nat
 w5:Nat
 w6:Nat
 w7:Nat
 w8:Nat
 w9:Nat
 w10:Nat
 w11:Nat
 w12:Nat
 w13:Nat
 w14:Nat
 w15:Nat
def go:List Nat->Win->St->St
 | [],_,s=>s
 | k::ks,⟨w0,w1,w2,w3,w4,w5,w6,w7,w8,w9,w10,w11,w12,w13,w14,w15⟩,⟨a,b,c,d,e,f,g,h⟩=>
   force (add32 (add32 (add32 w0 (Xlk w1)) w9) (Xlh w14)) fun wn=>
   force (t1Q e f g h k w0) fun t1=>
   force (add32 t1 (t2Q a b c)) fun a'=>
   force (add32 d t1) fun e'=>
   go ks ⟨w1,w2,w3,w4,w5,w6,w7,w8,w9,w10,w11,w12,w13,w14,w15,wn⟩ ⟨a',a,b,c,e',e,f,g⟩
end Sh.Sha
section
namespace Hf
def Qex(N n:Nat):List Int:=(List.range (n/8)).map (fun i=>((N/2^(n-8*(i+1))%256:Nat):Int))
theorem Qbc(N n:Nat):(Qex N n).length=n/8:=by simp[Qex]
theorem Qc8(N n i:Nat)(h:i<n/8):(Qex N n).getD i 0=((N/2^(n-8*(i+1))%256:Nat):Int):=by
 simp[Qex,List.getD,h]
theorem Xa0(N n j:Nat):0<=(Qex N n).getD j 0∧(Qex N n).getD j 0<=255:=by
 by_cases h:j<n/8
 ·rw[Qc8 N n j h]
  have:=Nat.mod_lt (N/2^(n-8*(j+1))) (show 0<256 by decide)
  omega
 ·have:(Qex N n)[j]?=none:=List.getElem?_eq_none (by rw[Qbc];omega)
  simp[List.getD,this]
theorem Qvy{l m:List Int}(h:l.length=m.length)(he:∀i,i<l.length->l.getD i 0=m.getD i 0):l=m:=by
 refine List.ext_getElem h (fun i h1 h2=>?_)
 have:=he i h1
 simpa [List.getD,List.getElem?_eq_getElem h1,List.getElem?_eq_getElem h2] using this
theorem Xbe(N c len e:Nat)(hc:c<2^len):(N*2^len+c)/2^(e+len)=N/2^e:=by
 rw[Nat.add_comm e len,Nat.pow_add,<-Nat.div_div_eq_div_mul,Nat.mul_comm N,Nat.mul_add_div (Nat.two_pow_pos len),Nat.div_eq_of_lt hc,Nat.add_zero]
end Hf
end
section
namespace Hf
theorem Qx3(zs:List Int)(k:Nat)(hk:k<=15):first zs k*2^(15-k)=Qgj zs k:=by
 induction k with
 | zero=>simp[first,Qgj]
 | succ k ih=>
   have ih:=ih (by omega)
   rw[first,Qgj,<-ih,Nat.mul_assoc,show 2*2^(15-(k+1))=2^(15-k) from by rw[show 15-k=(15-(k+1))+1 from by omega,Nat.pow_succ];omega,Nat.add_mul]
theorem Qzc(zs:List Int)(k n:Nat):Qgj zs k<=Qgj zs (k+n):=by
 induction n with
 | zero=>exact Nat.le_refl _
 | succ n ih=>rw[<-Nat.add_assoc,Qgj];omega
theorem Qwd(zs:List Int)(l:List Nat)(h:tal zs=l)(k:Nat)(hk:k<=16):Qgj zs k=((List.range k).map (fun i=>l.getD i 0*2^(15-i))).sum:=by
 induction k with
 | zero=>rfl
 | succ k ih=>
   rw[Qgj,ih (by omega),List.range_succ,List.map_append,List.sum_append,<-h]
   simp only[List.map_cons,List.map_nil,List.sum_cons,List.sum_nil,Nat.add_zero,Qcv zs k (show k<16 by omega)]
theorem Xf1{zs:List Int}(h:Qaq zs=true):Qgj zs 16<=32768:=by
 unfold Qaq okT at h
 rw[Bool.and_eq_true,Bool.or_eq_true,Bool.or_eq_true,beq_iff_eq,beq_iff_eq,beq_iff_eq] at h
 rcases h.2 with (h | h) | h
 ·omega
 ·rw[Qwd zs _ h 16 (Nat.le_refl _)];decide
 ·rw[Qwd zs _ h 16 (Nat.le_refl _)];decide
theorem Qqu{zs:List Int}(h:Qaq zs=true)(l:Nat)(hl:l<=15):first zs l+cnt zs l<=2^l:=by
 have h1:(first zs l+cnt zs l)*2^(15-l)=Qgj zs (l+1):=by rw[Nat.add_mul,Qx3 zs l hl,Qgj]
 have h2:=Qzc zs (l+1) (16-(l+1))
 rw[show l+1+(16-(l+1))=16 from by omega] at h2
 have h3:=Xf1 h
 have h4:(first zs l+cnt zs l)*2^(15-l)<=2^l*2^(15-l):=by
  rw[h1,<-Nat.pow_add,show l+(15-l)=15 from by omega];omega
 exact Nat.le_of_mul_le_mul_right h4 (Nat.two_pow_pos _)
theorem Qm1(p:Int->Bool)(zs:List Int)(s:Nat)(hs:s<zs.length)(h:p (zs.getD s 0)=true):(zs.take s).countP p<zs.countP p:=by
 have e:zs.countP p=(zs.take s).countP p+(zs.drop s).countP p:=by
  rw[<-List.countP_append,List.take_append_drop]
 have e2:zs.drop s=zs.getD s 0::zs.drop (s+1):=by
  rw[List.drop_eq_getElem_cons hs]
  simp[List.getD,List.getElem?_eq_getElem hs]
 rw[e,e2,List.countP_cons,if_pos h]
 omega
theorem Qhw(zs:List Int)(s l:Nat)(hs:s<zs.length)(hz:zs.getD s 0=(l:Int))(h0:0<l):cnt (zs.take s) l<cnt zs l:=by
 unfold cnt
 rw[if_neg (by omega),if_neg (by omega)]
 exact Qm1 _ zs s hs (by rw[hz];simp)
theorem Qko{zs:List Int}(h:Qaq zs=true)(s l:Nat)(hs:s<zs.length)(hz:zs.getD s 0=(l:Int))(h0:0<l)(hl:l<=15):Qds zs s<2^l:=by
 have h1:=Qqu h l hl
 have h2:=Qhw zs s l hs hz h0
 unfold Qds
 rw[hz,Int.toNat_natCast]
 omega
def has(zs:List Int)(s:Int):Bool:=decide (0<=s)&&decide (s<(zs.length:Int))&&zs.getD s.toNat 0 != 0
def Xfm(n:Nat):Nat:=if n%8=0 then 0 else 8-n%8
def Qbu(N n:Nat):List Int:=Qex (N*2^Xfm n) (n+Xfm n)
theorem Qgp(N n j:Nat):0<=(Qbu N n).getD j 0∧(Qbu N n).getD j 0<=255:=Xa0 _ _ _
theorem Qbh(N n:Nat):(Qbu N n).length=(n+7)/8:=by
 unfold Qbu Xfm
 rw[Qbc]
 split<;>omega
end Hf
end
section
namespace Hf
theorem Qka(zs:List Int)(s l:Nat)(h:zs.getD s 0=(l:Int)):Qds zs s=first zs l+cnt (zs.take s) l:=by
 unfold Qds;rw[h,Int.toNat_natCast]
theorem Qiq(zs:List Int)(l s t:Nat)(h0:0<l)(hs:s<t)(ht:t<=zs.length)(hz:zs.getD s 0=(l:Int)):cnt (zs.take s) l<cnt (zs.take t) l:=by
 have e:(zs.take t).take s=zs.take s:=by rw[List.take_take,Nat.min_eq_left (by omega)]
 rw[<-e]
 refine Qhw (zs.take t) s l (by rw[List.length_take];omega) ?_ h0
 rw[<-hz]
 simp[List.getD,List.getElem?_take_of_lt hs]
theorem code_inj(zs:List Int)(l s t:Nat)(h0:0<l)(hs:s<zs.length)(ht:t<zs.length)(h1:zs.getD s 0=(l:Int))(h2:zs.getD t 0=(l:Int))(he:Qds zs s=Qds zs t):s=t:=by
 rw[Qka zs s l h1,Qka zs t l h2] at he
 rcases Nat.lt_trichotomy s t with h | h | h
 ·have:=Qiq zs l s t h0 h (by omega) h1;omega
 ·exact h
 ·have:=Qiq zs l t s h0 h (by omega) h2;omega
end Hf
end
end Go.Proofs.YtibjlbcnapoblaaGreatDoor
