/-
  What the laws CheckPrefix and CheckForks share. Records made to follow one another: the law's chain. Two records, one chain: the law's twice and collided. A record's bytes tell the record; two rows of records with one head: the mathematics of CheckPrefix and CheckForks.
-/
import Derived.Test.YtplinkmagnihmaaDoorCkJf
import Derived.Test.YtplinkmagnihmaaDoorRcY
import Derived.Test.YtplinkmagnihmaaDoorCkU
import Derived.Test.YtplinkmagnihmaaDoorRcOa
import Derived.Test.YtplinkmagnihmaaDoorCkJi
import Derived.Test.YtplinkmagnihmaaDoorCkJe
import Derived.Test.YtplinkmagnihmaaDoorRcJd
namespace Go.Proofs.YtplinkmagnihmaaDoor
open Go.ChangeShapes Go.WideShapes Go.ChangeAt Go.RowKit Go.Deep
theorem vintL_free:∀(f:Nat) (x y:Int) (s t:List Int),0<=x->0<=y->vintL f x++s=vintL f y++t->x=y∧s=t
 | 0,x,y,s,t,_,_,h=>by
   simp only[vintL,List.cons_append,List.nil_append,List.cons.injEq] at h
   exact h
 | f+1,x,y,s,t,hx,hy,h=>by
   rw[vintL,vintL] at h
   split at h
   ·split at h
    ·simp only[List.cons_append,List.nil_append,List.cons.injEq] at h
     exact h
    ·simp only[List.cons_append,List.nil_append,List.cons.injEq] at h
     omega
   ·split at h
    ·simp only[List.cons_append,List.nil_append,List.cons.injEq] at h
     omega
    ·simp only[List.cons_append,List.cons.injEq] at h
     have:=vintL_free f (x/128) (y/128) s t (by omega) (by omega) h.2
     exact⟨by omega,this.2⟩
theorem vint_free{x y:Int}{s t:List Int}(hx:0<=x)(hy:0<=y)(h:vint x++s=vint y++t):x=y∧s=t:=vintL_free 9 x y s t hx hy h
theorem app_free{a b s t:List Int}(h:a++s=b++t)(hl:a.length=b.length):a=b∧s=t:=List.append_inj h hl
theorem toNat_inj:∀(a b:List UInt8),a.map (fun b=>((b.toNat:Nat):Int))=b.map (fun b=>((b.toNat:Nat):Int))->a=b
 | [],[],_=>rfl
 | [],_::_,h=>by simp at h
 | _::_,[],h=>by simp at h
 | x::a,y::b,h=>by
   simp only[List.map_cons,List.cons.injEq] at h
   rw[toNat_inj a b h.2,UInt8.toNat_inj.1 (Int.ofNat_inj.1 h.1)]
theorem path_inj{s t:ByteArray}(h:pathL s=pathL t):s=t:=by
 have:=toNat_inj _ _ h
 cases s with
 | mk a=>cases t with
   | mk b =>
     have e:a=b:=Array.toList_inj.1 this
     rw[e]
theorem siz_ok{l:List Pc}(h:(sizO l).2=0):l.all nOk=true:=by
 unfold sizO at h
 split at h
 ·cases h
 ·split at h
  ·assumption
  ·cases h
theorem flat_free:∀(l m:List Pc),l.length=m.length->(∀x∈l,x.1.length=32)->(∀x∈m,x.1.length=32)->l.all nOk=true->m.all nOk=true->l.flatMap pcB=m.flatMap pcB->l=m
 | [],[],_,_,_,_,_,_=>rfl
 | [],_::_,h,_,_,_,_,_=>by simp at h
 | _::_,[],h,_,_,_,_,_=>by simp at h
 | x::l,y::m,h,h1,h2,h3,h4,h5=>by
   simp only[List.all_cons,Bool.and_eq_true] at h3 h4
   have n1:=of_decide_eq_true h3.1
   have n2:=of_decide_eq_true h4.1
   simp only[List.flatMap_cons] at h5
   unfold pcB at h5
   rw[List.append_assoc,List.append_assoc] at h5
   have e1:=vint_free (by omega) (by omega) h5
   have e2:=List.append_inj e1.2 (by rw[h1 x (by simp),h2 y (by simp)])
   rw[flat_free l m (by simpa using h) (fun z hz=>h1 z (by simp[hz])) (fun z hz=>h2 z (by simp[hz])) h3.2 h4.2 e2.2]
   have:x=y:=Prod.ext e2.1 e1.1
   rw[this]
theorem wrH_free{r q:Rec}{s t:List Int}(hr:mayB r=true)(hq:mayB q=true)(lr:r.prev.length=32)(lq:q.prev.length=32)(h:wrH r++s=wrH q++t):r.kind=q.kind∧r.seq=q.seq∧r.epoch=q.epoch∧r.prev=q.prev∧s=t:=by
 unfold mayB at hr hq
 simp only[Bool.and_eq_true,decide_eq_true_eq] at hr hq
 unfold wrH at h
 simp only[List.append_assoc,List.cons_append,List.nil_append,List.cons.injEq,true_and] at h
 have e1:=vint_free (by omega) (by omega) h.2
 have e2:=vint_free (by omega) (by omega) e1.2
 have e3:=List.append_inj e2.2 (by rw[lr,lq])
 exact⟨h.1,e1.1,e2.1,e3.1,e3.2⟩
theorem wr_inj{r q:Rec}(hr:mayB r=true)(hq:mayB q=true)(lr:r.prev.length=32)(lq:q.prev.length=32)(pr:∀x∈r.ps,x.1.length=32)(pq:∀x∈q.ps,x.1.length=32)(h:wrB r=wrB q):sameB r q=true:=by
 have hp:∀ {a b:Rec} {s t:List Int},(wrH a++ [(a.path.size:Int)])++pathL a.path++s=(wrH b++ [(b.path.size:Int)])++pathL b.path++t->wrH a++((a.path.size:Int)::(pathL a.path++s))=wrH b++((b.path.size:Int)::(pathL b.path++t)):=fun h=>by simpa using h
 have hk:∃s t,wrH r++s=wrH q++t:=by
  unfold wrB at h
  refine⟨if r.kind=1 then [r.site] else (r.path.size:Int)::(pathL r.path++(if r.kind=2 then pcsB r.ps else [])),if q.kind=1 then [q.site] else (q.path.size:Int)::(pathL q.path++(if q.kind=2 then pcsB q.ps else [])),?_⟩
  by_cases k1:r.kind=1<;>by_cases k2:r.kind=2<;>by_cases k3:q.kind=1<;>by_cases k4:q.kind=2<;>simp only[k1,k2,k3,k4,if_true,if_false] at h|- <;> simpa using h
 obtain⟨s0,t0,hk⟩:=hk
 have hf:=wrH_free hr hq lr lq hk
 obtain⟨f1,f2,f3,f4, -⟩:=hf
 have mr:=hr
 have mq:=hq
 unfold mayB at mr mq
 simp only[Bool.and_eq_true] at mr mq
 have kr:=mr.2
 have kq:=mq.2
 unfold kindB at kr kq
 unfold sameB
 unfold wrB at h
 rw[<-f1] at h kq
 have fin:r.site=q.site->r.path=q.path->r.ps=q.ps->decide (r.seq=q.seq∧r.epoch=q.epoch∧r.prev=q.prev∧r.kind=q.kind∧r.site=q.site∧r.path=q.path∧r.ps=q.ps)=true:=fun a b c=>decide_eq_true ⟨f2,f3,f4,f1,a,b,c⟩
 by_cases k1:r.kind=1
 ·rw[if_pos k1] at h kr kq
  rw[if_pos k1] at h
  simp only[Bool.and_eq_true,decide_eq_true_eq] at kr kq
  have e:=(wrH_free hr hq lr lq h).2.2.2.2
  refine fin (by simpa using e) (path_inj ?_) ?_
  ·rw[List.eq_nil_of_length_eq_zero ((pathL_len _).trans kr.1.2),List.eq_nil_of_length_eq_zero ((pathL_len _).trans kq.1.2)]
  ·rw[List.eq_nil_of_length_eq_zero kr.2,List.eq_nil_of_length_eq_zero kq.2]
 ·rw[if_neg k1] at h kr kq
  rw[if_neg k1] at h
  by_cases k2:r.kind=2
  ·rw[if_pos k2] at h
   rw[if_pos k2] at h
   rw[if_neg (by omega),if_pos k2] at kr kq
   simp only[Bool.and_eq_true,decide_eq_true_eq] at kr kq
   have e:=(wrH_free hr hq lr lq (hp h)).2.2.2.2
   simp only[List.cons.injEq] at e
   have e2:=List.append_inj e.2 (by rw[pathL_len,pathL_len];omega)
   have e3:=e2.2
   unfold pcsB at e3
   have e4:=vint_free (by omega) (by omega) e3
   exact fin (by rw[kr.1.1,kq.1.1]) (path_inj e2.1) (flat_free _ _ (by omega) pr pq (siz_ok kr.2) (siz_ok kq.2) e4.2)
  ·rw[if_neg k2] at h
   rw[if_neg k2] at h
   by_cases k3:r.kind=3
   ·rw[if_pos k3] at kr kq
    simp only[Bool.and_eq_true,decide_eq_true_eq] at kr kq
    have e:=(wrH_free hr hq lr lq (hp (s:= []) (t:= []) (by rw[List.append_nil,List.append_nil];exact h))).2.2.2.2
    simp only[List.cons.injEq,List.append_nil] at e
    refine fin (by rw[kr.2.1.1,kq.2.1.1]) (path_inj e.2) ?_
    rw[List.eq_nil_of_length_eq_zero kr.1,List.eq_nil_of_length_eq_zero kq.1]
   ·rw[if_neg k3,if_neg k2] at kr
    cases kr
def twB(r q:Rec):Bool:=mayB r&&(mayB q&&(!decide (wrB r=wrB q)&&decide (digL (wrB r)=digL (wrB q))))
def psOk(r:Rec):Prop:=r.prev.length=32∧∀x∈r.ps,x.1.length=32
theorem tw_of{r q:Rec}(hr:mayB r=true)(hq:mayB q=true)(or:psOk r)(oq:psOk q)(hs:sameB r q=false)(hc:chnD r=chnD q):twB r q=true:=by
 have hn:¬wrB r=wrB q:=fun e=>by
  have:=wr_inj hr hq or.1 oq.1 or.2 oq.2 e
  rw[hs] at this
  cases this
 unfold chnD at hc
 rw[if_pos hr,if_pos hq] at hc
 unfold twB
 rw[hr,hq,decide_eq_false hn,decide_eq_true hc]
 rfl
theorem wlk_snoc:∀(l:List Rec) (h:Hd) (i:Nat) (r:Rec),(wlk h (l++ [r]) i).2.2=0->(wlk h l i).2.2=0∧fltH (wlk h l i).1 r=0∧(wlk h (l++ [r]) i).1=nxtH (wlk h l i).1 r
 | [],h,i,r,q=>by
   rw[List.nil_append,wlk] at q|-
   rw[wlk]
   split at q
   ·rename_i hf
    rw[if_pos hf,wlk]
    exact⟨rfl,hf,rfl⟩
   ·rename_i hf
    exact absurd q hf
 | x::l,h,i,r,q=>by
   rw[List.cons_append,wlk] at q|-
   rw[wlk]
   split at q
   ·rename_i hf
    rw[if_pos hf,if_pos hf]
    exact wlk_snoc l _ _ r q
   ·rename_i hf
    exact absurd q hf
theorem nxt_ok{h:Hd}{r:Rec}(hf:fltH h r=0):nxtH h r=(r.seq,r.epoch,digL (wrB r)):=by unfold nxtH nxO;rw[if_pos (show fltO h.1 h.2.1 h.2.2 r=0 from hf)]
theorem take_rec{l:List Rec}{k:Nat}(hk:k<l.length):l.take (k+1)=l.take k++ [l.getD k recZ]:=by
 rw[List.take_add_one]
 simp[List.getD,List.getElem?_eq_getElem hk]
theorem wlk_top{l:List Rec}{k:Nat}(hk:k<l.length)(h:(wlk hdZ (l.take (k+1)) 0).2.2=0):
 mayB (l.getD k recZ)=true∧(wlk hdZ (l.take k) 0).2.2=0∧(wlk hdZ (l.take (k+1)) 0).1.2.2=chnD (l.getD k recZ)∧(l.getD k recZ).prev=(wlk hdZ (l.take k) 0).1.2.2:=by
 rw[take_rec hk] at h|-
 obtain⟨h1,h2,h3⟩:=wlk_snoc _ _ _ _ h
 have hm:=flt_may h2
 refine⟨hm.1,h1,?_,?_⟩
 ·rw[h3,nxt_ok h2]
  unfold chnD
  rw[if_pos hm.1]
 ·have f:=hm.2
  unfold folB at f
  simp only[Bool.and_eq_true,decide_eq_true_eq] at f
  exact f.1.2
theorem pre_step{a b:List Rec}{k:Nat}(ha:k<a.length)(hb:k<b.length)(wa:(wlk hdZ (a.take (k+1)) 0).2.2=0)(wb:(wlk hdZ (b.take (k+1)) 0).2.2=0)
 (he:(wlk hdZ (a.take (k+1)) 0).1.2.2=(wlk hdZ (b.take (k+1)) 0).1.2.2) (oa:∀r∈a,psOk r) (ob:∀r∈b,psOk r) :
 (sameB (a.getD k recZ) (b.getD k recZ)=true∧(wlk hdZ (a.take k) 0).2.2=0∧(wlk hdZ (b.take k) 0).2.2=0∧(wlk hdZ (a.take k) 0).1.2.2=(wlk hdZ (b.take k) 0).1.2.2) ∨
 (sameB (a.getD k recZ) (b.getD k recZ)=false∧twB (a.getD k recZ) (b.getD k recZ)=true):=by
 obtain⟨a1,a2,a3,a4⟩:=wlk_top ha wa
 obtain⟨b1,b2,b3,b4⟩:=wlk_top hb wb
 have hc:chnD (a.getD k recZ)=chnD (b.getD k recZ):=by rw[<-a3,<-b3,he]
 have ka:a.getD k recZ∈a:=by simp[List.getD,List.getElem?_eq_getElem ha]
 have kb:b.getD k recZ∈b:=by simp[List.getD,List.getElem?_eq_getElem hb]
 cases hs:sameB (a.getD k recZ) (b.getD k recZ) with
 | false=>exact .inr ⟨rfl,tw_of a1 b1 (oa _ ka) (ob _ kb) hs hc⟩
 | true=>exact .inl ⟨rfl,a2,b2,by rw[<-a4,<-b4];exact(of_decide_eq_true hs).2.2.1⟩
theorem wlk_may:∀(l:List Rec) (h:Hd) (i:Nat),(wlk h l i).2.2=0->∀r∈l,mayB r=true
 | [],_,_,_,_,hr=>by cases hr
 | x::l,h,i,q,r,hr=>by
   rw[wlk] at q
   split at q
   ·rename_i hf
    rcases List.mem_cons.1 hr with rfl | hr
    ·exact(flt_may hf).1
    ·exact wlk_may l _ _ q r hr
   ·rename_i hf
    exact absurd q hf
def colB:List Rec->List Rec->Bool
 | x::l,y::m=>twB x y||colB l m
 | _,_=>false
theorem col_of:∀(l m:List Rec) (i:Nat),i<l.length->i<m.length->twB (l.getD i recZ) (m.getD i recZ)=true->colB l m=true
 | [],_,_,h,_,_=>by simp at h
 | _::_,[],_,_,h,_=>by simp at h
 | x::l,y::m,0,_,_,h=>by
   have h:twB x y=true:=h
   rw[colB,h]
   rfl
 | x::l,y::m,i+1,h1,h2,h=>by
   rw[colB,col_of l m i (by simpa using h1) (by simpa using h2) (by simpa using h)]
   simp
theorem col_step(l m:List Rec)(k:Nat)(h1:k<l.length)(h2:k<m.length):colB (l.drop k) (m.drop k)=(twB (l.getD k recZ) (m.getD k recZ)||colB (l.drop (k+1)) (m.drop (k+1))):=by
 have e1:l.drop k=l.getD k recZ::l.drop (k+1):=by
  rw[List.drop_eq_getElem_cons h1]
  simp[List.getD,List.getElem?_eq_getElem h1]
 have e2:m.drop k=m.getD k recZ::m.drop (k+1):=by
  rw[List.drop_eq_getElem_cons h2]
  simp[List.getD,List.getElem?_eq_getElem h2]
 rw[e1,e2,colB]
theorem col_end(l m:List Rec)(k:Nat)(h:l.length<=k∨m.length<=k):colB (l.drop k) (m.drop k)=false:=by
 rcases h with h | h
 ·rw[List.drop_eq_nil_of_le h,colB]
  intro x l' y m' e
  cases e
 ·rw[List.drop_eq_nil_of_le h,colB]
  intro x l' y m' _ e
  cases e
theorem rec_mem{l:List Rec}{k:Nat}(h:k<l.length):l.getD k recZ∈l:=by simp[List.getD,List.getElem?_eq_getElem h]
theorem rec_take{l:List Rec}{k p:Nat}(h:k<p):(l.take p).getD k recZ=l.getD k recZ:=by simp[List.getD,List.getElem?_take_of_lt h]
theorem sameL_get:∀(l m:List Rec) (k:Nat),sameL l m=true->k<l.length->sameB (l.getD k recZ) (m.getD k recZ)=true
 | [],_,_,_,h=>by simp at h
 | _::_,[],_,h,_=>by cases h
 | x::l,y::m,0,h,_=>by
   rw[sameL,Bool.and_eq_true] at h
   exact h.1
 | x::l,y::m,k+1,h,hk=>by
   rw[sameL,Bool.and_eq_true] at h
   exact sameL_get l m k h.2 (by simpa using hk)
theorem fork_col{c a:List Rec}{p:Nat}(hp:p<=a.length)(wa:(wlk hdZ (a.take p) 0).2.2=0)(hc:dhasB c (wlk hdZ (a.take p) 0).1=true)(oc:∀r∈c,psOk r)(oa:∀r∈a,psOk r):
 p<=c.length∧(colB c (a.take p)=true∨∀n,n<p->sameB (c.getD n recZ) (a.getD n recZ)=true):=by
 have hlen:(a.take p).length=p:=by rw[List.length_take];omega
 have hal:=wlk_all _ _ _ wa
 have hg:(wlk hdZ (a.take p) 0).1.1=(p:Int):=by rw[hal.2,hlen];show(0:Int)+_=_;omega
 unfold dhasB at hc
 simp only[Bool.and_eq_true,decide_eq_true_eq] at hc
 rw[hg,Int.toNat_natCast] at hc
 obtain⟨h1,h2,h3⟩:=hc
 have hpc:p<=c.length:=by omega
 have hlc:(c.take p).length=p:=by rw[List.length_take];omega
 refine⟨hpc,?_⟩
 rcases one_chain (c.take p) (a.take p) hdZ hdZ 0 0 (by rw[hlen,hlc]) h2 wa (by rw[h3]) with ⟨k,hk1,hk2,hk3⟩ | ⟨hs,_⟩
 ·left
  rw[hlc] at hk1
  rw[rec_take hk1,rec_take hk1] at hk2 hk3
  have kc:c.getD k recZ∈c:=by simp[List.getD,List.getElem?_eq_getElem (show k<c.length by omega)]
  have ka:a.getD k recZ∈a:=by simp[List.getD,List.getElem?_eq_getElem (show k<a.length by omega)]
  have mc:=wlk_may _ _ _ h2 (c.getD k recZ) (by rw[<-rec_take hk1];exact rec_mem (by omega))
  have ma:=wlk_may _ _ _ wa (a.getD k recZ) (by rw[<-rec_take hk1];exact rec_mem (by omega))
  refine col_of c (a.take p) k (by omega) (by omega) ?_
  rw[rec_take hk1]
  exact tw_of mc ma (oc _ kc) (oa _ ka) hk2 hk3
 ·right
  intro n hn
  have:=sameL_get _ _ n hs (by rw[hlc];exact hn)
  rwa[rec_take hn,rec_take hn] at this
theorem same_both{x y z:Rec}(h1:sameB x y=true)(h2:sameB x z=true):sameB y z=true:=by
 unfold sameB at h1 h2|-
 rw[decide_eq_true_eq] at h1 h2|-
 obtain⟨a1,a2,a3,a4,a5,a6,a7⟩:=h1
 obtain⟨b1,b2,b3,b4,b5,b6,b7⟩:=h2
 exact⟨a1.symm.trans b1,a2.symm.trans b2,a3.symm.trans b3,a4.symm.trans b4,a5.symm.trans b5,a6.symm.trans b6,a7.symm.trans b7⟩
def sameN(a b:List Rec):Nat->Bool
 | 0=>true
 | n+1=>sameN a b n&&sameB (a.getD n recZ) (b.getD n recZ)
theorem sameN_of{a b:List Rec}:∀n,(∀k,k<n->sameB (a.getD k recZ) (b.getD k recZ)=true)->sameN a b n=true
 | 0,_=>rfl
 | n+1,h=>by
   rw[sameN,sameN_of n (fun k hk=>h k (by omega)),h n (by omega)]
   rfl
theorem forks_bad{a b c:List Rec}{p q:Nat}{m v:Mrk}(hp:p<=a.length)(hq:q<=b.length)(wa:(wlk hdZ (a.take p) 0).2.2=0)(wb:(wlk hdZ (b.take q) 0).2.2=0)
 (hm:m.2.1=(wlk hdZ (a.take p) 0).1) (hv:v.2.1=(wlk hdZ (b.take q) 0).1) (oa:∀r∈a,psOk r) (ob:∀r∈b,psOk r) (oc:∀r∈c,psOk r)
 (hg:∀x,x=m∨x=v->dhasB c x.2.1=true) (h1:colB c (a.take p)=false) (h2:colB c (b.take q)=false):sameN a b (min p q)=true:=by
 have f1:=fork_col hp wa (by rw[<-hm];exact hg m (.inl rfl)) oc oa
 have f2:=fork_col hq wb (by rw[<-hv];exact hg v (.inr rfl)) oc ob
 rw[h1] at f1
 rw[h2] at f2
 rcases f1.2 with h | f1
 ·cases h
 ·rcases f2.2 with h | f2
  ·cases h
  ·exact sameN_of _ fun k hk=>same_both (f1 k (by omega)) (f2 k (by omega))
theorem good_has{key:List Nat}{l:List Rec}{ms:List Mrk}(h:(audR key l ms).1=6):(wlk hdZ l 0).2.2=0∧∀j,j<ms.length->(ms.getD j mkZ).2.1.1<=(l.length:Int)∧dhasB l (ms.getD j mkZ).2.1=true:=by
 unfold audR at h
 split at h
 ·rename_i hl
  have hw:(wlk hdZ l 0).2.2=0:=by
   rcases Decidable.em ((wlk hdZ l 0).2.2=0) with q | q
   ·exact q
   ·have:=((hs_wlk l hdZ 0).2 q).1
    omega
  refine⟨hw,fun j hj=>?_⟩
  have hd:=D2_aud (key:=key) (ms:=ms) hl ms.length (Nat.le_refl _)
  generalize audF key (hsL hdZ l) ms ms.length=f at *
  rcases hd with ⟨i,_,rfl,_⟩ | ⟨_,⟨j',k',_,_,rfl,_⟩ | ⟨_,⟨i,_,rfl,_⟩ | ⟨h4,⟨i,_,rfl,_⟩ | ⟨h5,_⟩⟩⟩⟩
  ·exact absurd (show(2:Int)=6 from h) (by decide)
  ·exact absurd (show(3:Int)=6 from h) (by decide)
  ·exact absurd (show(4:Int)=6 from h) (by decide)
  ·exact absurd (show(5:Int)=6 from h) (by decide)
  ·have e5:=h5 j hj
   have e4:=h4 j hj
   unfold ahd at e5
   unfold lieM at e4
   have hle:(ms.getD j mkZ).2.1.1<=(l.length:Int):=by omega
   refine⟨hle,?_⟩
   cases hx:dhasB l (ms.getD j mkZ).2.1 with
   | true=>rfl
   | false=>exact absurd ⟨hle,hx⟩ e4
 ·exact absurd (show(1:Int)=6 from h) (by decide)
theorem wlk_headB:∀(l:List Rec) (h:Hd) (i:Nat),headB h=true->headB (wlk h l i).1=true
 | [],_,_,q=>q
 | r::l,h,i,q=>by
   rw[wlk]
   split
   ·rename_i hf
    refine wlk_headB l _ _ ?_
    rw[nxt_ok hf]
    have hm:=(flt_may hf).1
    unfold mayB at hm
    simp only[Bool.and_eq_true,decide_eq_true_eq] at hm
    unfold headB
    simp only[Bool.or_eq_true,Bool.and_eq_true,decide_eq_true_eq]
    exact .inr hm.1
   ·exact q
end Go.Proofs.YtplinkmagnihmaaDoor
namespace Go.Proofs.YtplinkmagnihmaaDoor
open Go.ChangeShapes Go.WideShapes Go.ChangeAt Go.RowKit Go.Deep Go.Lib
theorem guard24:Tryd.prog.eqGuardType Tryd.prog.depth 24=false:=by kernel_rfl
theorem eqD24(d:Nat)(l m:List Int)(hl:l.length=32)(hm:m.length=32)(w:World):(Op.equalIn (d+2) 24 (.agg (u8A l)) (.agg (u8A m))).run Tryd.prog w= .ok (decide (l=m)) w:=by
 obtain⟨i,hi⟩:∃i,Tryd.prog.info? 5=some i:=info_of_underlying Tryd.underlying5
 rw[show d+2=(d+1)+1 from rfl,run_equalIn_array w (d+1) _ _ Tryd.underlying24 hi,Tryd.cells5,eq_itemsI d Tryd.underlying5 l m w _ (fun j hj=>by rw[hl,hm];have:=List.mem_range.1 hj;exact⟨this,this⟩)]
 refine congrArg (fun b=>Result.ok b w) ?_
 by_cases h:l=m
 ·subst h;simp
 ·rw[decide_eq_false h,Bool.eq_false_iff]
  intro hc
  rw[List.all_eq_true] at hc
  exact h (il_ext (by omega) (fun j hj=>by have:=hc j (List.mem_range.2 (by omega));simpa using this))
theorem e130_t:e130 true=0:=rfl
theorem e130_f:e130 false=130:=rfl
attribute [local irreducible] Go.wpList in
set_option maxHeartbeats 12800000 in
set_option maxRecDepth 100000 in
theorem twice_word(r q:Rec)(w:World)(hr:Rv w r)(hq:Rv w q)(hnr:r.ps.length<=1000)(hnq:q.ps.length<=1000):
 Calls Tryd.prog 24 #[.agg r.cs.toArray,.agg q.cs.toArray] w fun e w'=>e= .returned (.bool (twB r q))∧Below w.heap.size w w':=by
 have hB1:=bel_alc w (.cells r.cs.toArray 58)
 have e1:=heap_alc w (.cells r.cs.toArray 58)
 have hB2:=bel_alc (w.alloc (.cells r.cs.toArray 58)) (.cells q.cs.toArray 58)
 have e2:=heap_alc (w.alloc (.cells r.cs.toArray 58)) (.cells q.cs.toArray 58)
 have s1:(w.alloc (.cells r.cs.toArray 58)).heap.size=w.heap.size+1:=by simp
 rw[s1] at e2
 have e1':=blk_later e1 hB2
 have HB:=hid (Bn hB1 hB2)
 obtain⟨W1,hW1⟩:∃W1,W1=(w.alloc (.cells r.cs.toArray 58)).alloc (.cells q.cs.toArray 58):=⟨_,rfl⟩
 rw[<-hW1] at HB e1' e2
 have HW1:=hid hW1
 have HR1:=hid (blk_range e1')
 have HR2:=hid (fun X (hX:Below W1.heap.size W1 X)=>blk_range (blk_later e2 hX))
 have HLR:=hid (Rec.cs_len hr.len)
 have HLQ:=hid (Rec.cs_len hq.len)
 have HBR:=hid (dbytes_word r W1 (hr.later HB.out))
 have HBQ:=hid (fun X (hX:Below W1.heap.size W1 X)=>dbytes_word q X (hq.later (Bn HB.out hX)))
 have HMR:Hid (mayB r=true->∀j,(Lit.int .u8 ((wrB r).getD j 0)).wf=true):=fun z=>get_u8 (wr_mem hr z)
 have HMQ:Hid (mayB q=true->∀j,(Lit.int .u8 ((wrB q).getD j 0)).wf=true):=fun z=>get_u8 (wr_mem hq z)
 have HWR:Hid (mayB r=true->(wrB r).length<=100000):=fun z=>wr_len hr z hnr
 have HWQ:Hid (mayB q=true->(wrB q).length<=100000):=fun z=>wr_len hq z hnq
 have HPR:=hid (wr_pos r)
 have HPQ:=hid (wr_pos q)
 have HDR:=hid (fun bx ox cx V q2 (q0:(wrB r).length<=100000)=>of_doc bx ox cx (wrB r) V q2 q0)
 have HDQ:=hid (fun bx ox cx V q2 (q0:(wrB q).length<=100000)=>of_doc bx ox cx (wrB q) V q2 q0)
 have HEQ:=hid (fun V=>eqD24 9998 (digL (wrB r)) (digL (wrB q)) (digL_len _) (digL_len _) V)
 obtain⟨t,ht⟩:∃t,t=twB r q:=⟨_,rfl⟩
 rw[<-ht]
 unfold twB at ht
 have HT:=hid ht
 clear hB1 e1 hB2 e2 s1 e1' hW1 hr hq hnr hnq ht
 generalize mayB r=MR at *
 generalize mayB q=MQ at *
 generalize digL (wrB r)=DR0 at *
 generalize digL (wrB q)=DQ0 at *
 generalize wrB r=X at *
 generalize wrB q=Y at *
 go_enter Tryd.func24,Tryd.ntmps24
 go_wp2_with (first | refine wpList_load_P rfl 58 _ rfl w.heap.size 0 rfl r.cs _ (by rw[<-HW1.out];exact HR1.out) Tryd.underlying58 rfl (by rw[HLR.out];exact Tryd.size58) ?_ | fail)
 rw[<-HW1.out]
 refine HBR.out.mono ?_
 rintro _ W2 ⟨v1,rfl,hb2,hp1⟩
 have HS2:=hid hb2
 have HRQ:=hid (HR2.out W2 hb2)
 clear hb2 HR1 HBR HR2
 go_wp2_with (first | refine wpList_load_P rfl 58 _ rfl (w.heap.size+1) 0 rfl q.cs _ HRQ.out Tryd.underlying58 rfl (by rw[HLQ.out];exact Tryd.size58) ?_ | fail)
 refine(HBQ.out W2 HS2.out).mono ?_
 rintro _ W3 ⟨v2,rfl,hb3,hp2⟩
 have HS3:=hid (Bn HS2.out hb3)
 have HB3:=hid (Bn HB.out HS3.out)
 have HLT:=hid hb3
 clear hb3 HRQ HBQ
 rcases hp1 with ⟨rfl,rfl⟩ | ⟨rfl,ho1⟩
 ·have HF:Hid (t=false):=by show _=_;rw[HT.out];rfl
  obtain rfl:=HF.out
  rw[e130_f]
  go_wp2
  go_ret
  exact⟨rfl,HB3.out⟩
 ·rcases hp2 with ⟨rfl,rfl⟩ | ⟨rfl,ho2⟩
  ·have HF:Hid (t=false):=by show _=_;rw[HT.out];rfl
   obtain rfl:=HF.out
   rw[e130_f,e130_t]
   go_wp2
   go_ret
   exact⟨rfl,HB3.out⟩
  ·obtain⟨a1,c1,rfl,hr1⟩:=Ri.own ho1 (HMR.out rfl)
   obtain⟨a2,c2,rfl,hr2⟩:=Ri.own ho2 (HMQ.out rfl)
   obtain⟨b1,o1,rfl,_,_⟩:=hr1.cells HPR.out
   obtain⟨b2,o2,rfl,_,_⟩:=hr2.cells HPQ.out
   have hr1':=hr1.later HLT.out
   have ht1:=hr1'.text W3 (Below.refl _ _)
   have ht2:=hr2.text W3 (Below.refl _ _)
   have HX1:=hid hr1'
   have HX2:=hid hr2
   have HC1:=hid (fun V (hV:Below W3.heap.size W3 V)=>HDR.out b1 o1 c1 V (HX1.out.later hV) (HWR.out rfl))
   have HC2:=hid (fun V (hV:Below W3.heap.size W3 V)=>HDQ.out b2 o2 c2 V (HX2.out.later hV) (HWQ.out rfl))
   have HSE:=hid (str_eq (HMR.out rfl) (HMQ.out rfl))
   have HTT:Hid (t=(!decide (X=Y)&&decide (DR0=DQ0))):=by show _=_;rw[HT.out];rfl
   rw[e130_t]
   clear ho1 ho2 hr1 hr1' hr2 HT HDR HDQ HX1 HX2 HMR HMQ HWR HWQ HPR HPQ HS2 HS3 HLT
   obtain⟨n1,hn1⟩:∃n,n=X.length:=⟨_,rfl⟩
   obtain⟨n2,hn2⟩:∃n,n=Y.length:=⟨_,rfl⟩
   rw[<-hn1] at ht1 HC1|-
   rw[<-hn2] at ht2 HC2|-
   clear hn1 hn2
   by_cases hXY:X=Y
   ·have hse:((strOfNums X).toList==(strOfNums Y).toList)=true:=by rw[HSE.out];simpa using hXY
    have HF:Hid (t=false):=by show _=_;rw[HTT.out,decide_eq_true hXY];rfl
    obtain rfl:=HF.out
    clear hXY HTT HC1 HC2 HSE
    go_wp2
    go_ret
    exact⟨rfl,HB3.out⟩
   ·have hse:((strOfNums X).toList==(strOfNums Y).toList)=false:=by rw[HSE.out];simpa using hXY
    have HF:Hid (t=decide (DR0=DQ0)):=by show _=_;rw[HTT.out,decide_eq_false hXY];rfl
    obtain rfl:=HF.out
    clear hXY HTT HSE
    have hgd:=guard24
    have heq:=HEQ.out
    go_wp2_with fail
    refine(HC1.out W3 (Below.refl _ _)).mono ?_
    rintro _ W4 ⟨rfl,hb4⟩
    have HS4:=hid hb4
    clear hb4 HC1
    go_wp2_with fail
    refine(HC2.out W4 HS4.out).mono ?_
    rintro _ W5 ⟨rfl,hb5⟩
    have HB5:=hid (Bn HB3.out (Bn HS4.out hb5))
    clear hb5 HC2 HS4
    go_wp2
    go_ret
    exact⟨rfl,HB5.out⟩
theorem col_nil(l m:List Rec):colB l m=colB (l.drop 0) (m.drop 0):=by simp
set_option maxHeartbeats 12800000 in
set_option maxRecDepth 100000 in
theorem col_word(a1:Option Addr)(c1:Nat)(l:List Rec)(a2:Option Addr)(c2:Nat)(m:List Rec)(w:World)(hr1:Rr w a1 c1 l)(hr2:Rr w a2 c2 m)(hn1:∀r∈l,r.ps.length<=1000)(hn2:∀r∈m,r.ps.length<=1000):
 Calls Tryd.prog 25 #[.slice a1 l.length c1,.slice a2 m.length c2] w fun e w'=>e= .returned (.bool (colB l m))∧Below w.heap.size w w':=by
 have hroom1:=hr1.room
 have hmost1:=hr1.most
 have hroom2:=hr2.room
 have hmost2:=hr2.most
 unfold maxLen at hmost1 hmost2
 have HR1:=hid hr1
 have HR2:=hid hr2
 have HN1:=hid (fun k (h:k<l.length)=>hn1 _ (rec_mem h))
 have HN2:=hid (fun k (h:k<m.length)=>hn2 _ (rec_mem h))
 have HST:=hid (col_step l m)
 have HEN:=hid (col_end l m)
 have HC0:=hid (col_nil l m)
 obtain⟨n1,hl1⟩:∃n,n=l.length:=⟨_,rfl⟩
 obtain⟨n2,hl2⟩:∃n,n=m.length:=⟨_,rfl⟩
 rw[<-hl1] at hroom1 HN1 HEN
 rw[<-hl2] at hroom2 HN2 HEN
 rw[<-hl1,<-hl2]
 have HL1:=hid hl1
 have HL2:=hid hl2
 obtain⟨t,ht⟩:∃t,t=colB l m:=⟨_,rfl⟩
 rw[<-ht] at HC0|-
 clear hr1 hr2 hn1 hn2 hl1 hl2 ht
 go_enter Tryd.func25,Tryd.ntmps25
 go_wp2
 go_loopw [5] (fun x5 wr=>∃k:Nat,k<=n1∧k<=n2∧x5= .int .i64 (k:Int)∧Hid (t=colB (l.drop k) (m.drop k))∧Hid (Below w.heap.size w wr)) (fun x5 _=>n1-(RowKit.intOf x5).toNat)
 case atStart=>exact⟨0,by omega,by omega,rfl,HC0.out,Below.refl _ _⟩
 case round=>
  obtain⟨k,hk1,hk2,rfl,HK,HB⟩:=hrel
  by_cases hlt1:k<n1
  ·by_cases hlt2:k<n2
   ·have hkz1:(k:Int)<(n1:Int):=by omega
    have hkz2:(k:Int)<(n2:Int):=by omega
    obtain⟨b1,o1,rfl,hbw1,hcc1⟩:=HR1.out.cells (by rw[<-HL1.out];omega)
    obtain⟨b2,o2,rfl,hbw2,hcc2⟩:=HR2.out.cells (by rw[<-HL2.out];omega)
    have hx1:=hcc1 k (by rw[<-HL1.out];exact hlt1)
    have hx2:=hcc2 k (by rw[<-HL2.out];exact hlt2)
    have hv1:=HR1.out.get (j:=k) (by rw[<-HL1.out];exact hlt1)
    have hv2:=HR2.out.get (j:=k) (by rw[<-HL2.out];exact hlt2)
    have HS:=hid (HST.out k (by rw[<-HL1.out];exact hlt1) (by rw[<-HL2.out];exact hlt2))
    have hp1:=HN1.out k hlt1
    have hp2:=HN2.out k hlt2
    generalize l.getD k recZ=x at *
    generalize m.getD k recZ=y at *
    have HXL:=hid (Rec.cs_len hv1.len)
    have HYL:=hid (Rec.cs_len hv2.len)
    have HXR:=hid (fun X (hX:Below wr.heap.size wr X)=>range_later hx1 (Bn HB.out hX) hbw1)
    have HYR:=hid (fun X (hX:Below wr.heap.size wr X)=>range_later hx2 (Bn HB.out hX) hbw2)
    have HTW:=hid (fun X (hX:Below wr.heap.size wr X)=>twice_word x y X (hv1.later (Bn HB.out hX)) (hv2.later (Bn HB.out hX)) hp1 hp2)
    have HT:Hid (t=(twB x y||colB (l.drop (k+1)) (m.drop (k+1)))):=by show _=_;rw[HK.out,HS.out]
    generalize twB x y=tw at *
    clear hx1 hx2 hv1 hv2 hcc1 hcc2 hbw1 hbw2 hp1 hp2 HS HK
    go_wp2_with fail
    refine wp_region_held_drew (S:=fun X=>Below wr.heap.size wr X) (by kernel_rfl) (Below.refl _ _).drew (fun hS_v0=>?_)
    have hd_v0:Below wr.heap.size wr wr.drew:=(Below.refl _ _).drew
    generalize wr.drew=v0 at *
    simp only[List.size_toArray,List.length_cons,List.length_nil,Nat.reduceAdd]
    clear hd_v0
    refine Ord.take (i:=0) (d:=18) (v:=?vC0) rfl rfl (by as_aux_lemma=>kernel_rfl) (by as_aux_lemma=>kernel_rfl) (by as_aux_lemma=>kernel_rfl) (fun _ _ _ h=>h) (by rfl) ?hC0 (by assumption) ?_
    case hC0=>intro wx hSw;go_simp;try with_reducible rfl
    try simp only[List.setIfInBounds_toArray,List.set_cons_zero,List.set_cons_succ]
    refine Ord.take (i:=1) (d:=19) (v:=?vC1) rfl rfl (by as_aux_lemma=>kernel_rfl) (by as_aux_lemma=>kernel_rfl) (by as_aux_lemma=>kernel_rfl) (fun _ _ _ h=>h) (by rfl) ?hC1 (by assumption) ?_
    case hC1=>intro wx hSw;go_simp;try with_reducible rfl
    try simp only[List.setIfInBounds_toArray,List.set_cons_zero,List.set_cons_succ]
    refine Ord.take (i:=2) (d:=20) (v:=?vC2) rfl rfl (by as_aux_lemma=>kernel_rfl) (by as_aux_lemma=>kernel_rfl) (by as_aux_lemma=>kernel_rfl) (fun _ _ _ h=>h) (by rfl) ?hC2 (by assumption) ?_
    case hC2=>intro wx hSw;go_simp;try with_reducible rfl
    try simp only[List.setIfInBounds_toArray,List.set_cons_zero,List.set_cons_succ]
    refine Ord.take (i:=3) (d:=21) (v:= .agg x.cs.toArray) rfl rfl (by as_aux_lemma=>kernel_rfl) (by as_aux_lemma=>kernel_rfl) (by as_aux_lemma=>kernel_rfl) (fun _ _ _ h=>h) (by rfl) ?hC3 (by assumption) ?_
    case hC3=>intro wx hSw;exact exec_load 58 (.tmp 20) rfl b1 (o1+k*38) rfl (run_loadVar_mid wx b1 (o1+k*38) 58 x.cs _ (HXR.out _ hSw) Tryd.underlying58 rfl (by rw[HXL.out];exact Tryd.size58))
    try simp only[List.setIfInBounds_toArray,List.set_cons_zero,List.set_cons_succ]
    refine Ord.take (i:=4) (d:=22) (v:=?vC4) rfl rfl (by as_aux_lemma=>kernel_rfl) (by as_aux_lemma=>kernel_rfl) (by as_aux_lemma=>kernel_rfl) (fun _ _ _ h=>h) (by rfl) ?hC4 (by assumption) ?_
    case hC4=>intro wx hSw;go_simp;try with_reducible rfl
    try simp only[List.setIfInBounds_toArray,List.set_cons_zero,List.set_cons_succ]
    refine Ord.take (i:=5) (d:=23) (v:=?vC5) rfl rfl (by as_aux_lemma=>kernel_rfl) (by as_aux_lemma=>kernel_rfl) (by as_aux_lemma=>kernel_rfl) (fun _ _ _ h=>h) (by rfl) ?hC5 (by assumption) ?_
    case hC5=>intro wx hSw;go_simp;try with_reducible rfl
    try simp only[List.setIfInBounds_toArray,List.set_cons_zero,List.set_cons_succ]
    refine Ord.take (i:=6) (d:=24) (v:=?vC6) rfl rfl (by as_aux_lemma=>kernel_rfl) (by as_aux_lemma=>kernel_rfl) (by as_aux_lemma=>kernel_rfl) (fun _ _ _ h=>h) (by rfl) ?hC6 (by assumption) ?_
    case hC6=>intro wx hSw;go_simp;try with_reducible rfl
    try simp only[List.setIfInBounds_toArray,List.set_cons_zero,List.set_cons_succ]
    refine Ord.take (i:=7) (d:=25) (v:= .agg y.cs.toArray) rfl rfl (by as_aux_lemma=>kernel_rfl) (by as_aux_lemma=>kernel_rfl) (by as_aux_lemma=>kernel_rfl) (fun _ _ _ h=>h) (by rfl) ?hC7 (by assumption) ?_
    case hC7=>intro wx hSw;exact exec_load 58 (.tmp 24) rfl b2 (o2+k*38) rfl (run_loadVar_mid wx b2 (o2+k*38) 58 y.cs _ (HYR.out _ hSw) Tryd.underlying58 rfl (by rw[HYL.out];exact Tryd.size58))
    try simp only[List.setIfInBounds_toArray,List.set_cons_zero,List.set_cons_succ]
    refine wpAnyH_ready (rs:= [8]) (by as_aux_lemma=>kernel_rfl) (by simp) (AllReadyH.cons rfl (fun K hK=>?_) AllReadyH.nil)
    go_simp
    go_simp
    refine(HTW.out v0 hS_v0).mono ?_
    rintro _ v1 ⟨rfl,hb_v1⟩
    have hS_v1:Below wr.heap.size wr v1:=Bn hS_v0 hb_v1
    clear hb_v1
    refine hK.out _ _ hS_v1 (fun _=>?_)
    clear hK K
    try simp only[List.setIfInBounds_toArray,List.set_cons_zero,List.set_cons_succ]
    try simp only[List.setIfInBounds_toArray,List.set_cons_zero,List.set_cons_succ]
    refine wpAnyH_done (by as_aux_lemma=>kernel_rfl) ?_ _
    have HS9:=hid (Bn HB.out hS_v1)
    clear hS_v0 hS_v1
    cases tw
    ·have HT2:Hid (t=colB (l.drop (k+1)) (m.drop (k+1))):=HT.out
     go_wp2
     go_round
     case rel=>exact⟨k+1,by omega,by omega,by go_num,HT2.out,HS9.out⟩
     case measure=>simp[RowKit.intOf];omega
    ·have HT2:Hid (t=true):=HT.out
     obtain rfl:=HT2.out
     go_wp2
     go_ret
     exact⟨rfl,HS9.out⟩
   ·have hkz1:(k:Int)<(n1:Int):=by omega
    have hkz2:¬(k:Int)<(n2:Int):=by omega
    have HT2:Hid (t=false):=by show _=_;rw[HK.out,HEN.out k (.inr (by omega))]
    obtain rfl:=HT2.out
    go_wp2
    go_ret
    exact⟨rfl,HB.out⟩
  ·have hkz1:¬(k:Int)<(n1:Int):=by omega
   have HT2:Hid (t=false):=by show _=_;rw[HK.out,HEN.out k (.inl (by omega))]
   obtain rfl:=HT2.out
   go_wp2
   go_ret
   exact⟨rfl,HB.out⟩
end Go.Proofs.YtplinkmagnihmaaDoor
namespace Go.Proofs.YtplinkmagnihmaaDoor
open Go.ChangeShapes Go.WideShapes Go.ChangeAt Go.RowKit Go.Deep Go.Lib
set_option maxHeartbeats 3200000 in
set_option maxRecDepth 100000 in
theorem dmake_word(h:Hd)(r:Rec)(w:World)(hh:HOk h)(hr:Rv w r)(hn:r.ps.length<=1000):
 Calls Tryd.prog 29 #[.agg (hdV h).toArray,.agg r.cs.toArray] w fun e w'=>∃v e',e= .returned (.tuple #[v,.int .i64 e'])∧Below w.heap.size w w'∧MkQ h.1 h.2.1 h.2.2 r v e':=by
 by_cases hq:h.1<0∨1073741824<=h.1
 ·exact dmake_out h.1 h.2.1 h.2.2 r w hh.len hr hh.seq hq
 ·by_cases hk:r.kind=1
  ·exact dmake_lead h.1 h.2.1 h.2.2 r w hh.len hh.u8 hr hn (by omega) (by omega) hk
  ·exact dmake_other h.1 h.2.1 h.2.2 r w hh.len hh.u8 hh.epoch hr hn (by omega) (by omega) hk
theorem mkR_ok{w:World}{h:Hd}{r:Rec}(hr:Rv w r)(hh:HOk h)(hf:fltH h (mkR h.1 h.2.1 h.2.2 r)=0):Rv w (mkR h.1 h.2.1 h.2.2 r):=by
 have hm:=(flt_may hf).1
 unfold mayB at hm
 simp only[Bool.and_eq_true,decide_eq_true_eq] at hm
 exact⟨hh.len,hh.u8,wf_mk_i64 (by omega) (by omega),wf_mk_i64 (by omega) (by omega),hr.kind,hr.site,hr.path,hr.row⟩
theorem wlk_add:∀(l:List Rec) (h:Hd) (i:Nat) (r:Rec),(wlk h l i).2.2=0->fltH (wlk h l i).1 r=0->(wlk h (l++ [r]) i).2.2=0∧(wlk h (l++ [r]) i).1=nxtH (wlk h l i).1 r
 | [],h,i,r,q,f=>by
   have f':fltH h r=0:=f
   show(wlk h [r] i).2.2=0∧(wlk h [r] i).1=nxtH h r
   rw[wlk,if_pos f',wlk]
   exact⟨rfl,rfl⟩
 | x::l,h,i,r,q,f=>by
   rw[wlk] at q
   split at q
   ·rename_i hx
    rw[List.cons_append,wlk,if_pos hx]
    rw[wlk,if_pos hx] at f|-
    exact wlk_add l _ _ r q f
   ·rename_i hx
    exact absurd q hx
set_option maxHeartbeats 6400000 in
set_option maxRecDepth 100000 in
theorem few2(a:Option Addr)(cap:Nat)(l:List Rec)(w:World)(hr:Rr w a cap l):
 Calls Tryd.prog 9 #[.slice a l.length cap] w fun e w'=>∃a' cap',e= .returned (.slice a' (firL l).length cap')∧Rr w' a' cap' (firL l)∧(∀b off,a'=some ⟨b,off,none⟩->w.heap.size<=b)∧Below w.heap.size w w':=by
 have hroom:=hr.room
 have hmost:=hr.most
 unfold maxLen at hmost
 have HR:=hid hr
 obtain⟨i0,hi,hz0,hz1,hz2⟩:=info_parts Tryd.info58
 obtain⟨len,hle⟩:∃n,n=l.length:=⟨_,rfl⟩
 have HL:=hid hle
 rw[<-hle] at hroom|-
 clear hr hle
 have HEND:=hid (fun(k:Nat) (x:Value) (V:World) (hB:Below w.heap.size w V) (ho:V.ownsRow w.heap.size 58 38 x (l.take k).length ((l.take k).flatMap Rec.cs)) (hf:firL l=l.take k)=>
  (show ∃a' cap',x= .slice a' (firL l).length cap'∧Rr V a' cap' (firL l)∧(∀b off,a'=some ⟨b,off,none⟩->w.heap.size<=b) from by
   obtain⟨a',cap',hv,hrr,hbb⟩:=Rr.own2 ho (fun r q=>(HR.out.fits r (List.mem_of_mem_take q)).later hB)
   rw[hf]
   exact⟨a',cap',hv,hrr,hbb⟩))
 go_enter Tryd.func9,Tryd.ntmps9
 go_wp2
 go_loopw [3,4] (fun x3 x4 wr=>∃k:Nat,k<=len∧k<=30∧x4= .int .i64 (k:Int)∧Hid (wr.ownsRow w.heap.size 58 38 x3 (l.take k).length ((l.take k).flatMap Rec.cs))∧Hid (Below w.heap.size w wr)∧Hid (∀j,j<k->okR (l.getD j recZ)=true)) (fun _ x4 _=>30-(RowKit.intOf x4).toNat)
 case atStart=>exact⟨0,by omega,by omega,rfl,World.ownsRow_nil _ _ _ _,Below.refl _ _,fun j hj=>absurd hj (Nat.not_lt_zero _)⟩
 case round=>
  obtain⟨k,hk,hk20,rfl,HO,HB,HOK⟩:=hrel
  by_cases hlt:k<len
  ·by_cases h20:k<30
   ·have hkz:(k:Int)<(len:Int):=by omega
    have hk2:(k:Int)<30:=by omega
    obtain⟨b,off,rfl,hbw,hc⟩:=HR.out.cells (by rw[<-HL.out];omega)
    have hrg:=(hc k (by rw[<-HL.out];exact hlt))
    have HRG:Hid (wr.rangeAt b (off+k*38) (l.getD k recZ).cs):=fun j v hv=>(HB.out.cell (p:=⟨b,off+k*38+j,none⟩) hbw).trans (hrg j v hv)
    have hok:=(HR.out.get (j:=k) (by rw[<-HL.out];exact hlt)).later HB.out
    have HTK:Hid (l.take (k+1)=l.take k++ [l.getD k recZ]):=by
     show _=_
     have hkl:k<l.length:=by rw[<-HL.out];exact hlt
     rw[List.take_add_one]
     simp[List.getD,List.getElem?_eq_getElem hkl]
    have HTL:Hid ((l.take k).length=k):=by show _=_;simp;rw[<-HL.out];omega
    have HFE:=hid (fun(q:okR (l.getD k recZ)=false)=>fir_at (l:=l) (by rw[<-HL.out];omega) hk20 HOK.out (.inr (.inr q)))
    have HOS:=hid (fun(q:okR (l.getD k recZ)=true)=>show ∀j,j<k+1->okR (l.getD j recZ)=true from fun j hj=>by
     rcases Nat.lt_or_ge j k with h | h
     ·exact HOK.out j h
     ·rw[show j=k by omega];exact q)
    generalize l.getD k recZ=x at *
    have HLX:=hid (Rec.cs_len hok.len)
    have HXL:=hid hok.len
    have HS0:Hid (w.heap.size<=wr.heap.size):=HB.out.size
    have hro:=hok.row.room
    have hmo:=hok.row.most
    have hpa:=hok.path
    unfold maxLen at hmo hpa
    have c36:wr.cell? ⟨b,off+k*38+36,none⟩=some (.string x.path):=HRG.out 36 _ (x.tail hok.len 2)
    have c37:wr.cell? ⟨b,off+k*38+37,none⟩=some (.slice x.a x.ps.length x.cap):=HRG.out 37 _ (x.tail hok.len 3)
    clear hrg hc hok
    by_cases h60:60<x.ps.length
    ·have hz:(60:Int)<(x.ps.length:Int):=by omega
     obtain⟨a',cap',hv',hr'⟩:=HEND.out k _ wr HB.out HO.out (HFE.out (by unfold okR;rw[decide_eq_false (by omega)];rfl))
     have HRR:=hid hr'
     subst hv'
     clear hr'
     go_wp2
     go_ret
     exact⟨_,_,rfl,HRR.out.1,HRR.out.2,HB.out⟩
    ·have hz:¬(60:Int)<(x.ps.length:Int):=by omega
     by_cases h300:300<x.path.size
     ·have hz3:(300:Int)<(x.path.size:Int):=by omega
      obtain⟨a',cap',hv',hr'⟩:=HEND.out k _ wr HB.out HO.out (HFE.out (by unfold okR;rw[decide_eq_false (show ¬x.path.size<=300 by omega)];simp))
      have HRR:=hid hr'
      subst hv'
      clear hr'
      go_wp2
      go_ret
      exact⟨_,_,rfl,HRR.out.1,HRR.out.2,HB.out⟩
     ·have hz3:¬(300:Int)<(x.path.size:Int):=by omega
      have HNX:=hid (HOS.out (by unfold okR;rw[decide_eq_true (show x.ps.length<=60 by omega),decide_eq_true (show x.path.size<=300 by omega)];rfl))
      have HO1:=hid (HO.out.alloc (.cells x.cs.toArray 58))
      have HBA:=hid (Bn HB.out (bel_alc wr (.cells x.cs.toArray 58)))
      have HNW:Hid (∀j u,x.cs[j]?=some u->(wr.alloc (.cells x.cs.toArray 58)).cell? ((⟨wr.heap.size,0,none⟩:Addr).add j)=some u):=fun j u hu=>by
       rw[add_plain,Nat.zero_add]
       exact(Joins.cell_of_block (heap_alc wr _) j).trans (by rw[List.getElem?_toArray];exact hu)
      have HS1:Hid (w.heap.size<=(wr.alloc (.cells x.cs.toArray 58)).heap.size):=HBA.out.size
      clear HO HEND HFE HOS
      go_wp2_with (first | refine wpList_load_g rfl 58 _ rfl b (off+k*38) rfl x.cs _ HRG.out Tryd.underlying58 rfl (by rw[HLX.out];exact Tryd.size58) ?_ | refine wpList_buildOne rfl 23 58 _ rfl (some 37) rfl x.cs.toArray i0 _ Tryd.underlying23 hi hz0 (by rw[hz1,Rec.cs_size HXL.out]) (by rw[Rec.cs_size HXL.out];decide) (by rw[Rec.cs_size HXL.out];decide) rfl ?_ | (at_builtin;refine wpList_append_own _ rfl _ _ 23 rfl w.heap.size 58 i0 _ 38 104 Tryd.underlying23 hi hz0 hz1 hz2 rfl (by decide) _ _ _ rfl HO1.out ⟨wr.heap.size,0,none⟩ 1 1 x.cs rfl (by rw[Rec.cs_len HXL.out]) HNW.out (Rec.cs_one _) (by rw[HTL.out];unfold maxLen;omega) (by rw[HTL.out];omega) HS1.out ?_) | fail)
      intro v2 W4 ho2 hg2 _
      have HO2:Hid (W4.ownsRow w.heap.size 58 38 v2 (l.take (k+1)).length ((l.take (k+1)).flatMap Rec.cs)):=by
       show World.ownsRow _ _ _ _ _ _ _
       rw[HTK.out,List.length_append,List.flatMap_append]
       simpa using ho2
      have HB4:Hid (Below w.heap.size w W4):=HBA.out.trans ((Below.refl _ _).grown hg2 HS1.out (fun j hj=>(HO1.out.lt j hj).1))
      clear ho2 hg2 HO1 HNW
      go_wp2
      go_round
      case rel=>exact⟨k+1,by omega,by omega,by go_num,HO2.out,HB4.out,HNX.out⟩
      case measure=>simp[RowKit.intOf];omega
   ·have hkz:(k:Int)<(len:Int):=by omega
    have hk2:¬(k:Int)<30:=by omega
    obtain⟨a',cap',hv',hr'⟩:=HEND.out k _ wr HB.out HO.out (fir_at (by rw[<-HL.out];omega) hk20 HOK.out (.inr (.inl (by omega))))
    have HRR:=hid hr'
    subst hv'
    clear hr'
    go_wp2
    go_ret
    exact⟨_,_,rfl,HRR.out.1,HRR.out.2,HB.out⟩
  ·have hkz:¬(k:Int)<(len:Int):=by omega
   obtain⟨a',cap',hv',hr'⟩:=HEND.out k _ wr HB.out HO.out (fir_at (by rw[<-HL.out];omega) hk20 HOK.out (.inl (by rw[<-HL.out];omega)))
   have HRR:=hid hr'
   subst hv'
   clear hr'
   go_wp2
   go_ret
   exact⟨_,_,rfl,HRR.out.1,HRR.out.2,HB.out⟩
structure Cm (w:World) (h:Hd) (out:List Rec):Prop where
 ok:(wlk hdZ out 0).2.2=0
 hd:(wlk hdZ out 0).1=h
 hok:HOk h
 rv:∀r∈out,Rv w r∧r.ps.length<=60
theorem Cm.step{w:World}{h:Hd}{out:List Rec}{r:Rec}(c:Cm w h out)(hr:Rv w r)(hp:r.ps.length<=60)(hf:fltH h (mkR h.1 h.2.1 h.2.2 r)=0):Cm w (nxtH h (mkR h.1 h.2.1 h.2.2 r)) (out++ [mkR h.1 h.2.1 h.2.2 r]):=by
 have hx:=mkR_ok hr c.hok hf
 have ha:=wlk_add out hdZ 0 (mkR h.1 h.2.1 h.2.2 r) c.ok (by rw[c.hd];exact hf)
 rw[c.hd] at ha
 refine⟨ha.1,ha.2,?_,fun q hq=>?_⟩
 ·rw[nxt_ok hf]
  exact⟨hx.seq,hx.epoch,digL_len _,digL_wf _⟩
 ·rcases List.mem_append.1 hq with hq | hq
  ·exact c.rv q hq
  ·rw[List.mem_singleton.1 hq]
   exact⟨hx,hp⟩
structure Cg (w W2 V:World) (x:Value) (h:Hd) (out:List Rec):Prop where
 own:V.ownsRow W2.heap.size 58 38 x out.length (out.flatMap Rec.cs)
 hd:V.heap[w.heap.size]?=some (.cells (hdV h).toArray 27)
 bel:Below w.heap.size w V
 kept:∀i,i<W2.heap.size->i≠w.heap.size->V.heap[i]?=W2.heap[i]?
 ge:W2.heap.size<=V.heap.size
 lt:w.heap.size<W2.heap.size
theorem Cg.later{w W2 V V':World}{x:Value}{h:Hd}{out:List Rec}(c:Cg w W2 V x h out)(hb:Below V.heap.size V V'):Cg w W2 V' x h out:=
 ⟨own_later c.own hb,blk_later c.hd hb,Bn c.bel hb,fun i hi hn=>(hb.block i (Nat.lt_of_lt_of_le hi c.ge)).trans (c.kept i hi hn),Nat.le_trans c.ge hb.size,c.lt⟩
theorem Cg.old{w W2 V:World}{x:Value}{h:Hd}{out:List Rec}(c:Cg w W2 V x h out){g:Nat}(hg:g=V.heap.size):∀j,x.ownBlock=some j->j<g:=fun j hj=>by rw[hg];exact(c.own.lt j hj).2
theorem Cg.put{w W2 V V':World}{x:Value}{h h':Hd}{out:List Rec}(c:Cg w W2 V x h out)(hg:V.grownBy V' (some w.heap.size))(hv:V'.heap[w.heap.size]?=some (.cells (hdV h').toArray 27)):Cg w W2 V' x h' out:=by
 refine⟨⟨c.own.1,?_⟩,hv,c.bel.trans (bel_grown hg (Nat.le_refl _) c.bel.size),fun i hi hn=>(hg.block i (Nat.lt_of_lt_of_le hi c.ge) (fun e=>by injection e with e;exact hn e)).trans (c.kept i hi hn),Nat.le_trans c.ge hg.size,c.lt⟩
 rcases c.own.2 with h1 | ⟨g,cap,cur,h1,h2,h3,h4⟩
 ·exact .inl h1
 ·have hlt:=c.lt
  exact .inr ⟨g,cap,cur,h1,h2,(hg.block g (blk_lt h3) (fun e=>by injection e with e;omega)).trans h3,h4⟩
theorem Cg.app{w W2 V V':World}{x x':Value}{h:Hd}{out:List Rec}{r:Rec}(c:Cg w W2 V x h out)(hg:V.grownBy V' x.ownBlock)(ho:V'.ownsRow W2.heap.size 58 38 x' (out.length+1) (out.flatMap Rec.cs++r.cs)):Cg w W2 V' x' h (out++ [r]):=by
 have hl:=c.own.lt
 have hlt:=c.lt
 refine⟨?_,(hg.block _ (blk_lt c.hd) (fun e=>by have:=(hl _ e.symm).1;omega)).trans c.hd,c.bel.grown hg c.bel.size (fun k hk=>by have:=(hl k hk).1;omega),fun i hi hn=>(hg.block i (Nat.lt_of_lt_of_le hi c.ge) (fun e=>by have:=(hl _ e.symm).1;omega)).trans (c.kept i hi hn),Nat.le_trans c.ge hg.size,c.lt⟩
 rw[List.length_append,List.flatMap_append]
 simpa using ho
set_option maxHeartbeats 25600000 in
set_option maxRecDepth 100000 in
theorem chain_word(w0:World)(a:Option Addr)(cap:Nat)(l:List Rec)(w:World)(hB0:Below w0.heap.size w0 w)(h0:∀r∈l,Rv w0 r)(hr:Rr w a cap l):
 Calls Tryd.prog 21 #[.slice a l.length cap] w fun e w'=>∃a' cap' l',e= .returned (.slice a' (l':List Rec).length cap')∧Rr w' a' cap' l'∧(wlk hdZ l' 0).2.2=0∧(∀r∈l',Rv w0 r∧r.ps.length<=60)∧l'.length<=30∧(∀b off,a'=some ⟨b,off,none⟩->w.heap.size<=b)∧Below w.heap.size w w':=by
 have HFEW:=hid (fun V (hV:Below w.heap.size w V)=>few2 a cap l V (hr.later hV))
 have HFM:=hid (fun k (hk:k<(firL l).length)=>(show Rv w0 ((firL l).getD k recZ)∧((firL l).getD k recZ).ps.length<=60 from⟨h0 _ (firL_mem (rec_mem hk)),firL_ok (rec_mem hk)⟩))
 have HB0:=hid hB0
 have HF30:=hid (firL_le l)
 have HZ27:=hid Tryd.zero27
 have HZ58:=hid Tryd.zero58
 obtain⟨g,hg⟩:∃g,g=w.heap.size:=⟨_,rfl⟩
 have HGQ:=hid hg
 obtain⟨i0,hi,hz0,hz1,hz2⟩:=info_parts Tryd.info58
 obtain⟨F,hF⟩:∃F,F=firL l:=⟨_,rfl⟩
 rw[<-hF] at HFEW HFM HF30
 clear hr hg hF hB0 h0
 generalize l.length=ln at *
 have HZO:Hid ((hdL 0 0 z32).toArray=(hdV hdZ).toArray):=rfl
 go_enter Tryd.func21,Tryd.ntmps21
 go_wp2_with (first | refine wpList_buildTo rfl 27 _ rfl (some 9) rfl (hdL 0 0 z32).toArray Tryd.built55 ?_ | refine wpList_alloc_W rfl 27 rfl (some 4) rfl _ HZ27.out g HGQ.out ?_ | fail)
 intro V1 HG1 HBl1 HS1
 go_wp2_with (first | refine wpList_store_W rfl 27 _ _ rfl rfl g (hdL 0 0 z32).toArray rfl rfl 27 _ HG1.out Tryd.size27h rfl (all_oneCell_toArray (show ∀u∈hdL 0 0 z32,u.oneCell'=true from hdL_one _ _ _)) ?_ | fail)
 intro V2 HG2 HGR2 HS2
 have HB2:Hid (Below w.heap.size w V2):=by
  show Below _ _ _
  rw[<-HGQ.out]
  exact HBl1.out.trans (bel_grown HGR2.out (Nat.le_refl _) (by rw[HS1.out];exact Nat.le_succ _))
 have HSV:Hid (V2.heap.size=w.heap.size+1):=by show _=_;rw[HS2.out,HS1.out,HGQ.out]
 clear HG1 HBl1 HS1 HGR2 HS2
 go_wp2_with fail
 refine(HFEW.out V2 HB2.out).mono ?_
 rintro _ W2 ⟨a2,c2,rfl,hrr,hbase,hb3⟩
 have HRR:=hid hrr
 have HBASE:=hid hbase
 have HLT:Hid (w.heap.size<W2.heap.size):=by show _<_;have:=hb3.size;have:=HSV.out;omega
 have HCG:Hid (Cg w W2 W2 (.slice none 0 0) hdZ []):=⟨World.ownsRow_nil _ _ _ _,by rw[<-HGQ.out];exact blk_later HG2.out hb3,Bn HB2.out hb3,fun i _ _=>rfl,Nat.le_refl _,HLT.out⟩
 have HCM:Hid (Cm w0 hdZ []):=⟨rfl,rfl,⟨rfl,rfl,rfl,z32_u8⟩,fun r hr=>by cases hr⟩
 obtain⟨n,hn⟩:∃n,n=F.length:=⟨_,rfl⟩
 have HN:=hid hn
 have hroom:=hrr.room
 have hmost:=hrr.most
 unfold maxLen at hmost
 rw[<-hn] at hroom HF30 HFM|-
 clear hrr hbase hb3 hn HB2 HG2 HFEW
 go_wp2
 go_loopw [3,13] (fun x3 x13 wr=>∃(k:Nat) (h:Hd) (out:List Rec),k<=n∧x13= .int .i64 (k:Int)∧Hid (out.length<=k)∧Hid (Cg w W2 wr x3 h out)∧Hid (Cm w0 h out)) (fun _ x13 _=>n-(RowKit.intOf x13).toNat)
 case atStart=>exact⟨0,hdZ,[],by omega,rfl,Nat.le_refl _,HCG.out,HCM.out⟩
 case round=>
  obtain⟨k,h,out,hk,rfl,HOL,HC,HM⟩:=hrel
  clear HCG HCM
  by_cases hlt:k<n
  ·have hkz:(k:Int)<(n:Int):=by omega
   obtain⟨bf,of,rfl,hbf,hcf⟩:=HRR.out.cells (by rw[<-HN.out];omega)
   have hbne:bf≠w.heap.size:=by have:=HBASE.out bf of rfl;have:=HSV.out;omega
   have hx0:=hcf k (by rw[<-HN.out];exact hlt)
   have HKP:=HC.out.kept bf hbf hbne
   have hfm:=HFM.out k hlt
   generalize F.getD k recZ=x at *
   have HXV:=hid hfm.1
   have HXP:=hid hfm.2
   have HXR:Hid (wr.rangeAt bf (of+k*38) x.cs):=fun i u hu=>(World.cell?_of_block (w:=W2) (a:=⟨bf,of+k*38+i,none⟩) HKP).trans (hx0 i u hu)
   have HXL:=hid (Rec.cs_len hfm.1.len)
   have HXS:=hid (Rec.cs_size hfm.1.len)
   obtain⟨g6,hg6⟩:∃g,g=wr.heap.size:=⟨_,rfl⟩
   have HG6:=hid hg6
   clear hcf hx0 HKP hfm hg6 hbne hbf
   go_wp2_with (first | refine wpList_load_P rfl 58 _ rfl bf (of+k*38) rfl x.cs _ HXR.out Tryd.underlying58 rfl (by rw[HXL.out];exact Tryd.size58) ?_ | refine wpList_alloc_W rfl 58 rfl (some 6) rfl _ HZ58.out g6 HG6.out ?_ | fail)
   intro U1 HA1 HBl1 HS1
   go_wp2_with (first | refine wpList_store_W rfl 58 _ _ rfl rfl g6 x.cs.toArray rfl rfl 58 _ HA1.out (by rw[HXS.out];exact Tryd.size58) (by rw[HXS.out];rfl) (all_oneCell_toArray (Rec.cs_one _)) ?_ | fail)
   intro U2 HA2 HGR2 HS2
   have HBU:Hid (Below wr.heap.size wr U2):=by
    show Below _ _ _
    rw[<-HG6.out]
    exact HBl1.out.trans (bel_grown HGR2.out (Nat.le_refl _) (by rw[HG6.out];exact HBl1.out.size))
   have HC2:=hid (HC.out.later HBU.out)
   have HH2:=hid (blk_range HC2.out.hd)
   have HX2:=hid (blk_range HA2.out)
   have HHL:=hid (hdV_len HM.out.hok.len)
   have HMK:=hid (dmake_word h x U2 HM.out.hok ((HXV.out.later HB0.out).later HC2.out.bel) (Nat.le_trans HXP.out (by decide)))
   clear HA1 HBl1 HS1 HGR2 HS2 HBU HC HXR HG6 HA2
   go_wp2_with (first | refine wpList_load_P rfl 27 _ rfl g 0 rfl (hdV h) _ (by rw[HGQ.out];exact HH2.out) Tryd.underlying27 rfl (by rw[HHL.out];exact Tryd.size27h) ?_ | refine wpList_load_P rfl 58 _ rfl g6 0 rfl x.cs _ HX2.out Tryd.underlying58 rfl (by rw[HXL.out];exact Tryd.size58) ?_ | fail)
   refine HMK.out.mono ?_
   rintro _ U3 ⟨v,e,rfl,hb3,hq⟩
   have HC3:=hid (HC2.out.later hb3)
   obtain⟨g7,hg7⟩:∃g,g=U3.heap.size:=⟨_,rfl⟩
   have HG7:=hid hg7
   clear hb3 HC2 HH2 HX2 HMK hg7
   rcases hq with ⟨he,⟨hne,rfl⟩ | ⟨h0,rfl⟩⟩
   ·clear he
    go_wp2_with (first | refine wpList_alloc_W rfl 58 rfl (some 7) rfl _ HZ58.out g7 HG7.out ?_ | fail)
    intro U4 HA4 HBl4 HS4
    go_wp2_with (first | refine wpList_store_W rfl 58 _ _ rfl rfl g7 recZ.cs.toArray rfl rfl 58 _ HA4.out Tryd.size58 rfl (all_oneCell_toArray (Rec.cs_one _)) ?_ | fail)
    intro U5 HA5 HGR5 HS5
    have HBU:Hid (Below U3.heap.size U3 U5):=by
     show Below _ _ _
     rw[<-HG7.out]
     exact HBl4.out.trans (bel_grown HGR5.out (Nat.le_refl _) (by rw[HG7.out];exact HBl4.out.size))
    have HC5:=hid (HC3.out.later HBU.out)
    clear HA4 HBl4 HS4 HA5 HGR5 HS5 HBU HC3 HG7
    go_wp2
    go_round
    case rel=>exact⟨k+1,h,out,by omega,by go_num,Nat.le_succ_of_le HOL.out,HC5.out,HM.out⟩
    case measure=>simp[RowKit.intOf];omega
   ·have hf:fltH h (mkR h.1 h.2.1 h.2.2 x)=0:=he.symm.trans h0
    subst h0
    clear he
    have HM2:=hid (HM.out.step HXV.out HXP.out hf)
    have hxv:=mkR_ok HXV.out HM.out.hok hf
    have hxp:(mkR h.1 h.2.1 h.2.2 x).ps.length<=60:=HXP.out
    obtain⟨X,hX⟩:∃X,X=mkR h.1 h.2.1 h.2.2 x:=⟨_,rfl⟩
    rw[<-hX] at HM2 hxv hf hxp|-
    have HF0:=hid (show fltO h.1 h.2.1 h.2.2 X=0 from hf)
    have HYV:=hid hxv
    have HYP:=hid hxp
    have HYL:=hid (Rec.cs_len hxv.len)
    have HYS:=hid (Rec.cs_size hxv.len)
    have HNE:Hid (hdL (nxO h.1 h.2.1 h.2.2 X).1 (nxO h.1 h.2.1 h.2.2 X).2.1 (nxO h.1 h.2.1 h.2.2 X).2.2=hdV (nxtH h X)):=rfl
    have HNL:=hid (hdV_len HM2.out.hok.len)
    obtain⟨N,hN⟩:∃N,N=nxtH h X:=⟨_,rfl⟩
    rw[<-hN] at HM2 HNE HNL
    have HHL2:=hid HM.out.hok.len
    clear hX hxv hf hxp hN HXV HXP HXL HXS HM
    go_wp2_with (first | refine wpList_alloc_W rfl 58 rfl (some 7) rfl _ HZ58.out g7 HG7.out ?_ | fail)
    intro U4 HA4 HBl4 HS4
    go_wp2_with (first | refine wpList_store_W rfl 58 _ _ rfl rfl g7 X.cs.toArray rfl rfl 58 _ HA4.out (by rw[HYS.out];exact Tryd.size58) (by rw[HYS.out];rfl) (all_oneCell_toArray (Rec.cs_one _)) ?_ | fail)
    intro U5 HA5 HGR5 HS5
    have HBU:Hid (Below U3.heap.size U3 U5):=by
     show Below _ _ _
     rw[<-HG7.out]
     exact HBl4.out.trans (bel_grown HGR5.out (Nat.le_refl _) (by rw[HG7.out];exact HBl4.out.size))
    have HOB:=hid (HC3.out.old HG7.out)
    have HC5:=hid (HC3.out.later HBU.out)
    have HC6:=hid (HC5.out.later (bel_alc U5 (.cells X.cs.toArray 58)))
    have HA6:=hid (blk_later HA5.out (bel_alc U5 (.cells X.cs.toArray 58)))
    have HX5:=hid (blk_range HA5.out)
    have HNW:Hid (∀j u,X.cs[j]?=some u->(U5.alloc (.cells X.cs.toArray 58)).cell? ((⟨U5.heap.size,0,none⟩:Addr).add j)=some u):=fun j u hu=>by
     rw[add_plain,Nat.zero_add]
     exact(Joins.cell_of_block (heap_alc U5 _) j).trans (by rw[List.getElem?_toArray];exact hu)
    have hol:out.length+1<=1000:=by have:=HOL.out;have:=HF30.out;omega
    clear HA4 HBl4 HS4 HA5 HGR5 HS5 HBU HC3 HG7 HC5
    go_wp2_with (first | refine wpList_load_P rfl 58 _ rfl g7 0 rfl X.cs _ HX5.out Tryd.underlying58 rfl (by rw[HYL.out];exact Tryd.size58) ?_ | refine wpList_buildOne rfl 23 58 _ rfl (some 27) rfl X.cs.toArray i0 _ Tryd.underlying23 hi hz0 (by rw[hz1,HYS.out]) (by rw[HYS.out];decide) (by rw[HYS.out];decide) rfl ?_ | (at_builtin;refine wpList_append_own _ rfl _ _ 23 rfl W2.heap.size 58 i0 _ 38 104 Tryd.underlying23 hi hz0 hz1 hz2 rfl (by decide) _ _ _ rfl HC6.out.own ⟨U5.heap.size,0,none⟩ 1 1 X.cs rfl (by rw[HYL.out]) HNW.out (Rec.cs_one _) (by unfold maxLen;omega) (by omega) HC6.out.ge ?_) | fail)
    intro v7 U7 ho7 hg7 _
    have HC7:=hid (HC6.out.app hg7 ho7)
    have HA7:=hid ((hg7.block g7 (blk_lt HA6.out) (fun e=>by have:=HOB.out g7 e.symm;omega)).trans HA6.out)
    have HH7:=hid (blk_range HC7.out.hd)
    have HX7:=hid (blk_range HA7.out)
    have HDN:=hid (dnext_word h.1 h.2.1 h.2.2 X U7 HHL2.out ((HYV.out.later HB0.out).later HC7.out.bel) (Nat.le_trans HYP.out (by decide)))
    rw[HNE.out,HF0.out] at HDN
    clear ho7 hg7 HC6 HA6 HX5 HNW HA7 HOB hol
    go_wp2_with (first | refine wpList_load_P rfl 27 _ rfl g 0 rfl (hdV h) _ (by rw[HGQ.out];exact HH7.out) Tryd.underlying27 rfl (by rw[HHL.out];exact Tryd.size27h) ?_ | refine wpList_load_P rfl 58 _ rfl g7 0 rfl X.cs _ HX7.out Tryd.underlying58 rfl (by rw[HYL.out];exact Tryd.size58) ?_ | fail)
    refine HDN.out.mono ?_
    rintro _ U8 ⟨rfl,hb8⟩
    have HC8:=hid (HC7.out.later hb8)
    clear hb8 HC7 HH7 HX7 HDN
    go_wp2_with (first | refine wpList_store_W rfl 27 _ _ rfl rfl g (hdV N).toArray rfl rfl 27 _ (by rw[HGQ.out];exact HC8.out.hd) (by rw[List.size_toArray,HNL.out];exact Tryd.size27h) (by rw[List.size_toArray,List.size_toArray,HNL.out,HHL.out]) (all_oneCell_toArray (show ∀u∈hdV N,u.oneCell'=true from hdL_one _ _ _)) ?_ | fail)
    intro U9 HA9 HGR9 HS9
    rw[HGQ.out] at HA9 HGR9
    have HC9:=hid (HC8.out.put HGR9.out HA9.out)
    clear HA9 HGR9 HS9 HC8
    go_wp2
    go_round
    case rel=>exact⟨k+1,N,out++ [X],by omega,by go_num,by show _<=_;rw[List.length_append];exact Nat.succ_le_succ HOL.out,HC9.out,HM2.out⟩
    case measure=>simp[RowKit.intOf];omega
  ·have hkn:k=n:=by omega
   subst hkn
   obtain⟨a',cap',rfl,hr',hbb⟩:=Rr.own2 HC.out.own (fun r hr=>((HM.out.rv r hr).1.later HB0.out).later HC.out.bel)
   have HRX:=hid hr'
   have HBB:=hid (fun b off e=>Nat.le_trans (Nat.le_of_lt HC.out.lt) (hbb b off e))
   clear hr' hbb
   go_wp2
   go_ret
   exact⟨a',cap',out,rfl,HRX.out,HM.out.ok,fun r hr=>HM.out.rv r hr,Nat.le_trans HOL.out HF30.out,HBB.out,HC.out.bel⟩
end Go.Proofs.YtplinkmagnihmaaDoor
namespace Go.Proofs.YtplinkmagnihmaaDoor
open Go.ChangeShapes Go.WideShapes Go.ChangeAt Go.RowKit Go.Deep Go.Lib
theorem wpList_buildOne_gW{P:Program}{ops:Array Oper}{rest:List Oper}{o:Oper}{a:Act}{w:World}{Q:Exit->Act->World->Prop}(hw:Region.wanted o (yielded ops a.tmps)=true)(t e:TypeId)(x:Operand)(ho:o.op= .buildSlice t 1 #[(0,x)])(d:Option Tmp)(hd:o.dst=d)
 (cells:Array Value) (ie:TypeInfo) (z:Value) (hu:P.underlying t=some (.slice e)) (hie:P.info? e=some ie) (hz:ie.zero=some z) (hs:ie.size=cells.size) (hp:0<cells.size) (hq:cells.size<=1000) (hx:a.eval x= .agg cells) (N:Nat) (hN:N=w.heap.size)
 (h:∀W',Hid (W'.heap[N]?=some (.cells cells e))->Hid (Below N w W')->wpList P ops Q rest (a.put d (.slice (some ⟨N,0,none⟩) 1 1)) W'):wpList P ops Q (o::rest) a w:=by
 subst hd
 exact wpList_step fun K hK=>by
  rw[if_pos hw]
  exact wp_buildOne_W t e x ho cells ie z hu hie hz hs hp hq hx N hN (fun W' h1 h2=>hK _ _ (h W' h1 h2))
theorem Rw.one{V:World}{N:Nat}{M:Mrk}(h:V.heap[N]?=some (.cells (mkV M).toArray 45)):Rw 67 mkV mkZ V (some ⟨N,0,none⟩) 1 [M]:=by
 refine⟨Nat.le_refl _,by unfold maxLen;omega,(fun e=>by cases e),fun _=>⟨N,0,rfl,blk_lt h,fun j hj=>?_⟩⟩
 have hj0:j=0:=by simp at hj;omega
 subst hj0
 exact blk_range h
theorem Rr.put{U V:World}{a:Option Addr}{c:Nat}{l:List Rec}{g:Nat}(h:Rr U a c l)(hg:U.grownBy V (some g))(hne:∀b off,a=some ⟨b,off,none⟩->b≠g)(hf:∀r∈l,Rv V r):Rr V a c l:=by
 refine⟨h.room,h.most,h.none0,fun h0=>?_,hf⟩
 obtain⟨b,off,ha,hb,hc⟩:=h.cells h0
 have e:V.heap[b]?=U.heap[b]?:=hg.block b hb (fun e=>by injection e with e;exact hne b off ha e)
 exact⟨b,off,ha,Nat.lt_of_lt_of_le hb hg.size,fun j hj i u hu=>(World.cell?_of_block (w:=U) (a:=⟨b,off+j*38+i,none⟩) e).trans (hc j hj i u hu)⟩
theorem Rv.psOk{w:World}{r:Rec}(h:Rv w r):psOk r:=⟨h.len,fun x hx=>(h.row.fits x hx).len⟩
theorem wlk_hok{w:World}:∀(l:List Rec) (h:Hd) (i:Nat),HOk h->(∀r∈l,Rv w r)->HOk (wlk h l i).1
 | [],_,_,q,_=>q
 | r::l,h,i,q,hr=>by
   rw[wlk]
   split
   ·rename_i hf
    have hx:=hr r (by simp)
    refine wlk_hok l _ _ ?_ (fun x hx=>hr x (by simp[hx]))
    rw[nxt_ok hf]
    exact⟨hx.seq,hx.epoch,digL_len _,digL_wf _⟩
   ·exact q
theorem Tryd.zero45p:∀w,(zeroValue 45).run Tryd.prog w= .ok (.agg (mkV mkZ).toArray) w:=fun w=>by kernel_rfl
set_option maxRecDepth 100000 in
theorem field40(a b c:Int)(W:World):(Instr.field 40 (.agg #[.int .i64 a,.int .i64 b,.int .i64 c]) 0).run Tryd.prog W= .ok (.int .i64 a) W:=by kernel_rfl
theorem hdZ_ok:HOk hdZ:=⟨rfl,rfl,rfl,z32_u8⟩
theorem hdZ_B:headB hdZ=true:=rfl
theorem head_may{w:World}(s:Int)(hs:s=0∨s=1)(l:List Rec)(hr:∀r∈l,Rv w r):MOk (s,(wlk hdZ l 0).1,z32)∧mayM (s,(wlk hdZ l 0).1,z32)=true:=by
 refine⟨⟨?_,wlk_hok l hdZ 0 hdZ_ok hr,rfl,z32_u8⟩,?_⟩
 ·rcases hs with rfl | rfl<;>rfl
 ·unfold mayM
  rw[wlk_headB l hdZ 0 hdZ_B]
  rcases hs with rfl | rfl<;>rfl
theorem mkM_is{key:List Nat}{s:Int}{h:Hd}(hm:mayM (s,h,z32)=true):mkM key s h=(s,h,sealL key (s,h,z32)):=by unfold mkM;rw[if_pos hm]
theorem mkM_ok{key:List Nat}{s:Int}{h:Hd}(hk:MOk (s,h,z32))(hm:mayM (s,h,z32)=true):MOk (mkM key s h):=by
 rw[mkM_is hm]
 exact⟨hk.site,hk.hd,sealL_len _ _,sealL_u8 _ _⟩
theorem tmod_nat(s n:Nat):((s:Int).tmod ((n:Int)+1))=((s%(n+1):Nat):Int):=by
 rw[Int.tmod_eq_emod_of_nonneg (by omega),Int.natCast_emod,Int.natCast_add]
 rfl
theorem aud_word(ka:Option Addr)(kc:Nat)(key:List Nat)(ra:Option Addr)(rc:Nat)(l:List Rec)(ma:Option Addr)(mc:Nat)(ms:List Mrk)(w:World)(hL:Sh.Laid w)(hk:Sh.Rd w (.slice ka key.length kc) ka kc key)(hkf:key.length<=100000)
 (hr:Rr w ra rc l) (hn:∀r∈l,r.ps.length<=60) (hfew:l.length<=30) (hm:Rw 67 mkV mkZ w ma mc ms) (hok:∀m∈ms,MOk m) (hmf:ms.length<=12) :
 Calls Tryd.prog 16 #[.slice ka key.length kc,.slice ra l.length rc,.slice ma ms.length mc] w fun e w'=>e= .returned (.agg #[.int .i64 (audR key l ms).1,.int .i64 (audR key l ms).2.1,.int .i64 (audR key l ms).2.2])∧Below w.heap.size w w':=
 audit_word ka kc key ra rc l ma mc ms w hL hk hkf hr (fun r q=>Nat.le_trans (hn r q) (by decide)) (Nat.le_trans hfew (by decide)) hm hok (Nat.le_trans hmf (by decide))
  (fun W0 V A mp nn ha hc i D hc'=>hold_word W0 V A mp nn ka kc key ha hc (hsL hdZ l) ma mc ms i D _ (audF_kind key (hsL hdZ l) ms i) hc')
set_option maxRecDepth 100000 in
theorem open_mark{H:Type}{enc:TypeId×Value->H}{W:World}{base:Nat}{v:Value}{d:DataW H}{p:List MemPlace}(hv:Value.okWide Tryd.prog W .any base 45 v)
 (h:DataW.Trod enc Tryd.prog W 0 (fun _=>true) true 45 v d p):∃y:Mrk,v= .agg (mkV y).toArray∧MOk y:=by
 obtain⟨cs,rfl,_⟩:=okWide_struct Tryd.underlying45 hv
 obtain⟨fuel,hf⟩:=h
 obtain⟨y,e,hy⟩:=trod_mark hf
 refine⟨y,?_,hy⟩
 rw[<-e]
 simp[Value.cells]
end Go.Proofs.YtplinkmagnihmaaDoor
