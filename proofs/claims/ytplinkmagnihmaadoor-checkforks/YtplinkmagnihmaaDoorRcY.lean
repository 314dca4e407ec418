/-
  Two rows of records with one head: the mathematics; two heads held against each other.
-/
import Derived.Test.YtplinkmagnihmaaDoorCkJi
import Derived.Test.YtplinkmagnihmaaDoorRcJd
import Derived.Test.YtplinkmagnihmaaDoorRcVa
import Derived.Test.YtplinkmagnihmaaDoorRcVb
import Derived.Test.YtplinkmagnihmaaDoorRcVc
import Derived.Test.YtplinkmagnihmaaDoorRcVd
namespace Go.Proofs.YtplinkmagnihmaaDoor
open Go.ChangeShapes Go.WideShapes Go.ChangeAt Go.RowKit Go.Deep
theorem dsame_word(r q:Rec)(w:World)(hr:Rv w r)(hq:Rv w q):
 Calls Tryd.prog 23 #[.agg r.cs.toArray,.agg q.cs.toArray] w fun e w'=>e= .returned (.bool (sameB r q))∧Below w.heap.size w w':=by
 by_cases t1:r.seq=q.seq
 ·by_cases t2:r.epoch=q.epoch
  ·by_cases t3:r.prev=q.prev
   ·by_cases t4:r.kind=q.kind
    ·by_cases t5:r.site=q.site
     ·by_cases t6:r.path=q.path
      ·by_cases t7:r.ps.length=q.ps.length
       ·exact dsame_8 r q w hr hq t1 t2 t3 t4 t5 t6 t7
       ·exact dsame_7 r q w hr hq t1 t2 t3 t4 t5 t6 t7
      ·exact dsame_6 r q w hr hq t1 t2 t3 t4 t5 t6
     ·exact dsame_5 r q w hr hq t1 t2 t3 t4 t5
    ·exact dsame_4 r q w hr hq t1 t2 t3 t4
   ·exact dsame_3 r q w hr hq t1 t2 t3
  ·exact dsame_2 r q w hr hq t1 t2
 ·exact dsame_1 r q w hr hq t1
def sameL:List Rec->List Rec->Bool
 | [],[]=>true
 | x::l,y::m=>sameB x y&&sameL l m
 | _,_=>false
def badAt(l m:List Rec)(i:Nat):Prop:=i<l.length∧sameB (l.getD i recZ) (m.getD i recZ)=false∧chnD (l.getD i recZ)=chnD (m.getD i recZ)
theorem wlk_all:∀(l:List Rec) (h:Hd) (i:Nat),(wlk h l i).2.2=0->(wlk h l i).2.1=i+l.length∧(wlk h l i).1.1=h.1+l.length
 | [],h,i,_=>by simp[wlk]
 | r::l,h,i,q=>by
   rw[wlk] at q|-
   split at q
   ·rename_i hf
    rw[if_pos hf]
    have:=wlk_all l (nxtH h r) (i+1) q
    have hs:(nxtH h r).1=h.1+1:=by
     have hfo:=(flt_may hf).2
     unfold folB at hfo
     simp only[Bool.and_eq_true,decide_eq_true_eq] at hfo
     have e:nxtH h r=(r.seq,r.epoch,digL (wrB r)):=by
      unfold nxtH nxO
      rw[if_pos (show fltO h.1 h.2.1 h.2.2 r=0 from hf)]
     rw[e]
     have:=hfo.1.1
     show r.seq=_
     omega
    rw[hs] at this
    simp only[List.length_cons]
    omega
   ·rename_i hf
    exact absurd q hf
theorem one_chain:∀(l m:List Rec) (h g:Hd) (i j:Nat),l.length=m.length->(wlk h l i).2.2=0->(wlk g m j).2.2=0->(wlk h l i).1.2.2=(wlk g m j).1.2.2->(∃k,badAt l m k)∨(sameL l m=true∧h.2.2=g.2.2)
 | [],[],h,g,i,j,_,_,_,q=> .inr ⟨rfl,q⟩
 | [],_::_,_,_,_,_,hl,_,_,_=>by simp at hl
 | _::_,[],_,_,_,_,hl,_,_,_=>by simp at hl
 | x::l,y::m,h,g,i,j,hl,q1,q2,q3=>by
   rw[wlk] at q1 q2 q3
   split at q1
   ·rename_i hf
    rw[wlk] at q3
    split at q2
    ·rename_i hg
     rw[if_pos hf,if_pos hg] at q3
     have e1:nxtH h x=(x.seq,x.epoch,digL (wrB x)):=by unfold nxtH nxO;rw[if_pos (show fltO h.1 h.2.1 h.2.2 x=0 from hf)]
     have e2:nxtH g y=(y.seq,y.epoch,digL (wrB y)):=by unfold nxtH nxO;rw[if_pos (show fltO g.1 g.2.1 g.2.2 y=0 from hg)]
     rcases one_chain l m (nxtH h x) (nxtH g y) (i+1) (j+1) (by simpa using hl) q1 q2 q3 with ⟨k,hk1,hk2,hk3⟩ | ⟨hs,hc⟩
     ·exact .inl ⟨k+1,by simp;omega,by simpa using hk2,by simpa using hk3⟩
     ·rw[e1,e2] at hc
      have hm1:=flt_may hf
      have hm2:=flt_may hg
      have hcd:chnD x=chnD y:=by unfold chnD;rw[if_pos hm1.1,if_pos hm2.1];exact hc
      cases hxy:sameB x y with
      | false=>exact .inl ⟨0,by simp,hxy,hcd⟩
      | true=>
        refine .inr ⟨by rw[sameL,hxy,hs];rfl,?_⟩
        have hp:=(of_decide_eq_true hxy).2.2.1
        have f1:=hm1.2
        have f2:=hm2.2
        unfold folB at f1 f2
        simp only[Bool.and_eq_true,decide_eq_true_eq] at f1 f2
        rw[<-f1.1.2,<-f2.1.2,hp]
    ·rename_i hg
     exact absurd q2 hg
   ·rename_i hf
    exact absurd q1 hf
theorem sameL_step(l m:List Rec)(k:Nat)(h1:k<l.length)(h2:k<m.length):sameL (l.drop k) (m.drop k)=(sameB (l.getD k recZ) (m.getD k recZ)&&sameL (l.drop (k+1)) (m.drop (k+1))):=by
 have e1:l.drop k=l.getD k recZ::l.drop (k+1):=by
  rw[List.drop_eq_getElem_cons h1]
  simp[List.getD,List.getElem?_eq_getElem h1]
 have e2:m.drop k=m.getD k recZ::m.drop (k+1):=by
  rw[List.drop_eq_getElem_cons h2]
  simp[List.getD,List.getElem?_eq_getElem h2]
 rw[e1,e2,sameL]
end Go.Proofs.YtplinkmagnihmaaDoor
