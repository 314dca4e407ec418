/- Contracts and facts. -/
import Derived.Test.YtibjlbcnapoblaaGreatDoorPart22
namespace Go.Proofs.YtibjlbcnapoblaaGreatDoor
set_option maxRecDepth 100000
set_option maxHeartbeats 6400000
section
open Hf
theorem Qqp:∀(m f k:Nat) (x acc:Int) (rs:List Int),0<=x->x<128^(m+1)->m<=f->k+m<=8->(0<k->0<x)->Qcw acc k (Qfd f x++rs)=(acc+x*128^k,(k:Int)+((Qfd f x).length:Int),0)
 | m,f,k,x,acc,rs,h0,h1,hf,hk,hx=>by
   by_cases hs:x<128
   ·rw[Qmk f x hs]
    have hb:Qmq k x=false:=by
     unfold Qmq
     rw[decide_eq_false_iff_not]
     rintro (⟨h,_⟩ | ⟨h,h'⟩)
     ·omega
     ·have:=hx h;omega
    rw[List.singleton_append,Qlb hb hs,Int.emod_eq_of_lt h0 hs]
    simp
   ·cases m with
    | zero=>simp at h1;omega
    | succ m=>
      obtain⟨f',rfl⟩:∃f',f=f'+1:=⟨f-1,by omega⟩
      rw[Qk5 f' x hs,List.cons_append]
      have hb:Qmq k (x%128+128)=false:=by
       unfold Qmq
       rw[decide_eq_false_iff_not]
       rintro (⟨h,_⟩ | ⟨h,h'⟩)<;>omega
      have hd:x/128<128^(m+1):=by
       rw[Int.ediv_lt_iff_lt_mul (by decide)]
       rw[Int.pow_succ] at h1
       exact h1
      rw[Qlz hb (by omega),Qqp m f' (k+1) (x/128) _ rs (by omega) hd (by omega) (by omega) (fun _=>by omega)]
      simp only[Prod.mk.injEq,List.length_cons]
      refine⟨?_,by omega,trivial⟩
      have e1:(x%128+128)%128=x%128:=by omega
      have e2:x=x%128+128*(x/128):=by omega
      rw[e1,Int.pow_succ]
      generalize (128:Int)^k=p at *
      conv=>rhs;rw[e2]
      rw[Int.add_mul,Int.mul_comm p 128,<-Int.mul_assoc,Int.mul_comm (x/128) 128,Int.add_assoc]
theorem Qmh(n most:Nat)(rs:List Int)(h:n<=most)(hm:most<=100000):Qnz most (Qe0 (n:Int)++rs)=some (n,rs):=by
 have h1:=Qqp 2 9 0 (n:Int) 0 rs (by omega) (by show(n:Int)<2097152;omega) (by decide) (by decide) (fun h=>by omega)
 unfold Qnz
 have e:Qcw 0 0 (Qe0 (n:Int)++rs)=((n:Int),((Qe0 (n:Int)).length:Int),0):=by
  unfold Qe0
  rw[h1];simp
 rw[e]
 dsimp only
 rw[if_pos ⟨rfl,by omega⟩,Int.toNat_natCast,Int.toNat_natCast,List.drop_left]
theorem Qzv(z:Int)(l:List Int):z::l=List.replicate (runN z l+1) z++l.drop (runN z l):=by
 have h:∀l:List Int,l=List.replicate (runN z l) z++l.drop (runN z l):=by
  intro l
  induction l with
  | nil=>rfl
  | cons a l ih=>
    by_cases e:a=z
    ·have:runN z (a::l)=runN z l+1:=by unfold runN;rw[List.takeWhile_cons_of_pos (by simp[e])];rfl
     rw[this,List.replicate_succ,List.cons_append,List.drop_succ_cons,<-ih,e]
    ·have:runN z (a::l)=0:=by unfold runN;rw[List.takeWhile_cons_of_neg (by simp[e])];rfl
     rw[this];rfl
 rw[List.replicate_succ,List.cons_append,<-h l]
theorem Qnr(n:Nat)(hn:n<=1000):∀(f:Nat) (zs:List Int) (F:Nat) (l rs:List Int),zs.length<=f->l.length+zs.length=n->(Qeo f zs++rs).length+1<=F->Qhq n F l (Qeo f zs++rs)=some (l++zs,rs)
 | 0,zs,F,l,rs,h1,h2,h3=>by
   have:zs= []:=List.eq_nil_of_length_eq_zero (by omega)
   subst this
   cases F with
   | zero=>omega
   | succ F=>
     rw[Qhq.eq_def]
     dsimp only
     rw[if_neg (by simp at h2;omega)]
     simp[Qeo]
 | f+1,[],F,l,rs,h1,h2,h3=>by
   cases F with
   | zero=>omega
   | succ F=>
     rw[Qhq.eq_def]
     dsimp only
     rw[if_neg (by simp at h2;omega)]
     simp[Qeo]
 | f+1,z::zs,F,l,rs,h1,h2,h3=>by
   cases F with
   | zero=>omega
   | succ F=>
     have hs:=Qzv z zs
     have hl:=congrArg List.length hs
     rw[List.length_append,List.length_replicate] at hl
     rw[List.length_cons] at h1 h2 hl
     rw[Qeo,List.cons_append,List.append_assoc] at h3|-
     rw[Qhq,if_pos (by omega)]
     rw[Qmh _ _ _ (by omega) (by omega)]
     dsimp only
     have hd:(zs.drop (runN z zs)).length<=f:=by rw[List.length_drop];omega
     rw[Qnr n hn f _ F _ rs hd (by rw[List.length_append,List.length_replicate];omega) (by
      simp only[List.length_cons,List.length_append] at h3|-
      omega),List.append_assoc,<-hs]
theorem Qnn(n:Nat)(hn:n<=1000)(zs rs:List Int)(h:zs.length=n):Qj1 n (Qc7 zs++rs)=some (zs,rs):=by
 unfold Qj1 Qc7
 rw[Qnr n hn zs.length zs _ [] rs (Nat.le_refl _) (by simpa using h) (Nat.le_refl _),List.nil_append]
theorem Qwu(l:List Tkz)(j:Nat):∀k,(Qau l k).getD j 0<=(Qau l (k+1)).getD j 0:=fun k=>by
 rw[Qau]
 unfold upL
 generalize (Qff (l.getD k tk0)).toNat=s
 by_cases e:s=j
 ·by_cases hj:j<(Qau l k).length
  ·rw[e];simp[List.getD,hj]
  ·simp[List.getD,List.getElem?_eq_none (show(Qau l k).length<=j by omega)]
 ·simp[List.getD,List.getElem?_set_ne e]
theorem Qsa(l:List Tkz)(j:Nat):∀a b,a<=b->(Qau l a).getD j 0<=(Qau l b).getD j 0
 | a,0,h=>by have:a=0:=by omega
             rw[this];exact Nat.le_refl _
 | a,b+1,h=>by
   by_cases e:a=b+1
   ·rw[e];exact Nat.le_refl _
   ·exact Nat.le_trans (Qsa l j a b (by omega)) (Qwu l j b)
theorem Xa9(l:List Tkz)(k:Nat)(hk:k<l.length)(hs:(Qff (l.getD k tk0)).toNat<511):0<(Qau l l.length).getD (Qff (l.getD k tk0)).toNat 0:=by
 have h1:0<(Qau l (k+1)).getD (Qff (l.getD k tk0)).toNat 0:=by
  rw[Qau]
  unfold upL
  rw[List.getD_eq_getElem?_getD,List.getElem?_set_self (by rw[Qa7];exact hs)]
  simp
 exact Nat.lt_of_lt_of_le h1 (Qsa l _ _ _ hk)
theorem Qyc(l:List Tkz)(j:Nat):∀k,(Qar l k).getD j 0<=(Qar l (k+1)).getD j 0:=fun k=>by
 rw[Qar]
 split
 ·unfold upL
  generalize (Qfy (l.getD k tk0).1).toNat=s
  by_cases e:s=j
  ·by_cases hj:j<(Qar l k).length
   ·rw[e];simp[List.getD,hj]
   ·simp[List.getD,List.getElem?_eq_none (show(Qar l k).length<=j by omega)]
  ·simp[List.getD,List.getElem?_set_ne e]
 ·exact Nat.le_refl _
theorem Qp9(l:List Tkz)(j:Nat):∀a b,a<=b->(Qar l a).getD j 0<=(Qar l b).getD j 0
 | a,0,h=>by have:a=0:=by omega
             rw[this];exact Nat.le_refl _
 | a,b+1,h=>by
   by_cases e:a=b+1
   ·rw[e];exact Nat.le_refl _
   ·exact Nat.le_trans (Qp9 l j a b (by omega)) (Qyc l j b)
theorem Xck(l:List Tkz)(k:Nat)(hk:k<l.length)(h0:0<(l.getD k tk0).1)(hs:(Qfy (l.getD k tk0).1).toNat<13):0<(Qar l l.length).getD (Qfy (l.getD k tk0).1).toNat 0:=by
 have h1:0<(Qar l (k+1)).getD (Qfy (l.getD k tk0).1).toNat 0:=by
  rw[Qar,if_pos h0]
  unfold upL
  rw[List.getD_eq_getElem?_getD,List.getElem?_set_self (by rw[Qa2];exact hs)]
  simp
 exact Nat.lt_of_lt_of_le h1 (Qp9 l _ _ _ hk)
theorem Qsh(cs:List Int)(u:Nat):∀j,0<cs.getD u 0->0<(Qak cs j).getD u 0
 | 0,h=>h
 | j+1,h=>by
   have ih:=Qsh cs u j h
   rw[Qak]
   have hu:u<(Qak cs j).length:=by
    rcases Nat.lt_or_ge u (Qak cs j).length with h1 | h1
    ·exact h1
    ·rw[List.getD_eq_getElem?_getD,List.getElem?_eq_none h1] at ih;simp at ih
   rw[List.getD_eq_getElem?_getD,List.getElem?_eq_getElem hu] at ih
   rw[List.getD_eq_getElem?_getD,List.getElem?_map,List.getElem?_eq_getElem hu]
   simp only[Option.getD_some,Option.map_some] at ih|-
   unfold Qcm
   rw[if_pos ih];omega
theorem Qvd{cs:List Int}(hn:cs.length<=512)(hc:∀k,0<=cs.getD k 0∧cs.getD k 0<=1073741824):(Qgk cs).length=cs.length∧Qaq (Qgk cs)=true∧∀u,u<cs.length->0<cs.getD u 0->0<(Qgk cs).getD u 0:=by
 obtain⟨k,h1,h2⟩:=Qn0 cs hn hc
 obtain⟨h3,h4⟩:=Qjk hn hc h1 h2
 refine⟨h3,h4,fun u hu h0=>?_⟩
 rw[<-Qo6 hn hc h1 h2]
 have h5:=Qsh cs u k h0
 rcases Qfr (Qak cs k) (Qbl hc k) u (by rw[Qal];exact hu) with ⟨h,_⟩ | ⟨_,h⟩<;>omega
end
section
open Go.RowKit
def Qji(zs:List Int):Option ((Nat×Bool)×List Int):=
 match zs with
 | []=>none
 | z::zs1=>if z=0∨z=1 then
  match Qnz 65536 zs1 with
  | none=>none
  | some (n,rs)=>some ((n,z==1),rs)
  else none
def Qzq(w0 w:World)(g:Nat)(t:TypeId)(tl:List Value)(r:Option ((Nat×Bool)×List Int))(e:Ending)(w':World):Prop:=
 match r with
 | none=>e= .panicked Qd4∧Fa g w w'∧Below w0.heap.size w0 w'
 | some ((n,p),rs)=>e= .returned (.agg #[.int .i64 (n:Int),.bool p])∧(∃a c,Rr w0 w' g t tl a c rs)∧Fa g w w'
theorem Xda(w0 w:World)(g:Nat)(t:TypeId)(tl:List Value)(a:Option Addr)(cap:Nat)(zs:List Int)(h:Rr w0 w g t tl a cap zs):
 Calls Tryz.prog 115 #[.pointer (some ⟨g,0,none⟩)] w (Qzq w0 w g t tl (Qji zs)):=by
 have e0:=Qag w (.cells #[.int .i64 0,.bool false] 173)
 have HF0:=hid (Fa.alloc g w (.cells #[.int .i64 0,.bool false] 173))
 have hR0:=h.keep (Below.heap_alloc w (.cells #[.int .i64 0,.bool false] 173) g h.lt) (h.bel.alloc h.bel.size _)
 have HGL:=hid h.lt
 have HW0:=hid h.bel.size
 clear h
 generalize hW:w.alloc (.cells #[.int .i64 0,.bool false] 173)=w1 at *
 have HW:=hid hW
 clear hW
 have HB1:=hid hR0.bel
 obtain⟨R,hR⟩:∃R,R=Qji zs:=⟨_,rfl⟩
 rw[<-hR]
 have HR:=hid hR
 clear hR
 cases zs with
 | nil=>
   have HN:=hid (Qkw w0 w1 g t tl a cap hR0)
   have hR:=HR.out
   simp only[Qji] at hR
   subst hR
   clear hR0 e0
   go_enter Tryz.func115,Tryz.ntmps115
   go_wp2_with fail
   rw[HW.out]
   refine HN.out.mono ?_
   rintro _ w2 ⟨rfl,hw⟩
   obtain rfl:=hw.symm
   exact⟨rfl,rfl,HF0.out,HB1.out⟩
 | cons z zs1=>
   have HN:=hid (Ql8 w0 w1 g t tl a cap z zs1 hR0)
   have HR0:=hid hR0
   have HE0:=hid e0
   clear hR0 e0
   go_enter Tryz.func115,Tryz.ntmps115
   go_wp2_with fail
   rw[HW.out]
   refine HN.out.mono ?_
   rintro _ w2 ⟨rfl,a2,c2,rfl,hr2⟩
   have hF2:=(Fg.refl g w1).put (i:=0) (.slice a2 zs1.length c2)
   have HR2:=hid (HR0.out.put hr2)
   have HF2:=hid (HF0.out.trans hF2.fa)
   have HE2:=hid ((hF2.same w.heap.size (by have:=HGL.out;omega)).trans HE0.out)
   clear hr2 hF2 HR0 HF0 HE0 HN HB1
   generalize w1.setCell ⟨g,0,none⟩ (.slice a2 zs1.length c2)=w3 at *
   by_cases hz:z=0∨z=1
   ·cases hnu:Qnz 65536 zs1 with
    | none=>
      have HNU:=hid (Qhx w0 w3 g t tl a2 c2 65536 zs1 HR2.out (by omega) hnu)
      have hR:=HR.out
      simp only[Qji,if_pos hz,hnu] at hR
      subst hR
      clear hnu
      rcases hz with rfl | rfl
      all_goals
       go_wp2_with fail
       refine(Qct w3).mono ?_
       rintro _ w4 ⟨rfl,hw⟩
       obtain rfl:=hw.symm
       clear hw
       go_wp2_with fail
       refine HNU.out.mono ?_
       rintro _ w4 ⟨rfl,hw⟩
       obtain rfl:=hw.symm
       exact⟨rfl,rfl,HF2.out,HR2.out.bel⟩
    | some nr=>
      obtain⟨n,rs⟩:=nr
      have HNU:=hid (Qht w0 w3 g t tl a2 c2 65536 zs1 HR2.out (by omega) n rs hnu)
      have hR:=HR.out
      simp only[Qji,if_pos hz,hnu] at hR
      clear hnu
      rcases hz with rfl | rfl
      all_goals
       subst hR
       go_wp2_with fail
       refine(Qct w3).mono ?_
       rintro _ w4 ⟨rfl,hw⟩
       obtain rfl:=hw.symm
       clear hw
       go_wp2_with fail
       refine HNU.out.mono ?_
       rintro _ w4 ⟨rfl,a4,c4,rfl,hr4⟩
       have hF4:=(Fg.refl g w3).put (i:=0) (.slice a4 rs.length c4)
       have HR4:=hid (HR2.out.put hr4)
       have HF4:=hid (HF2.out.trans hF4.fa)
       have HE4:=hid ((hF4.same w.heap.size (by have:=HGL.out;omega)).trans HE2.out)
       clear hr4 hF4 HR2 HF2 HE2 HNU
       generalize w3.setCell ⟨g,0,none⟩ (.slice a4 rs.length c4)=w5 at *
      ·have q79:(Tryz.prog.info? 173).map (·.size)=some (#[Value.int .i64 (n:Int),Value.bool false]:Array Value).size:=by kernel_rfl
       have o79:(#[Value.int .i64 (n:Int),Value.bool false]:Array Value).all (·.oneCell')=true:=by simp[Value.oneCell']
       go_wp2_with (refine wpList_store_rowTo rfl 173 _ _ rfl rfl w.heap.size #[.int .i64 (n:Int),.bool false] rfl rfl 173 _ HE4.out q79 rfl o79 ?_)
       refine bodyPost_ret (results_cell_row (p:=2) (ty:=173) rfl _ _ w.heap.size 173 #[.int .i64 (n:Int),.bool false] (0,0) _ rfl (setRow_heap _ _ _ _ _ _ HE4.out) Tryz.underlying173 rfl (by kernel_rfl)) rfl ?_
       exact⟨rfl,⟨_,_,HR4.out.keep (setRow_other _ _ _ _ (by have:=HGL.out;omega)) (below_setRow HR4.out.bel HW0.out _)⟩,HF4.out.row (Nat.le_refl _) _⟩
      ·have q79:(Tryz.prog.info? 173).map (·.size)=some (#[Value.int .i64 (n:Int),Value.bool true]:Array Value).size:=by kernel_rfl
       have o79:(#[Value.int .i64 (n:Int),Value.bool true]:Array Value).all (·.oneCell')=true:=by simp[Value.oneCell']
       go_wp2_with (refine wpList_store_rowTo rfl 173 _ _ rfl rfl w.heap.size #[.int .i64 (n:Int),.bool true] rfl rfl 173 _ HE4.out q79 rfl o79 ?_)
       refine bodyPost_ret (results_cell_row (p:=2) (ty:=173) rfl _ _ w.heap.size 173 #[.int .i64 (n:Int),.bool true] (0,0) _ rfl (setRow_heap _ _ _ _ _ _ HE4.out) Tryz.underlying173 rfl (by kernel_rfl)) rfl ?_
       exact⟨rfl,⟨_,_,HR4.out.keep (setRow_other _ _ _ _ (by have:=HGL.out;omega)) (below_setRow HR4.out.bel HW0.out _)⟩,HF4.out.row (Nat.le_refl _) _⟩
   ·have hR:=HR.out
    simp only[Qji,if_neg hz] at hR
    subst hR
    have hz0:(z==0)=false:=beq_eq_false_iff_ne.2 (fun q=>hz (.inl q))
    have hz1:(z==1)=false:=beq_eq_false_iff_ne.2 (fun q=>hz (.inr q))
    go_wp2_with fail
    refine(Qd8 w3).mono ?_
    rintro _ w4 ⟨rfl,rfl⟩
    exact⟨rfl,rfl,HF2.out,HR2.out.bel⟩
end
section
open Go.RowKit Lz
def Cpy(bs:List Int)(q k:Nat)(s:Nat×Nat):Prop:=(s.1=0∧s.2=3)∨(1<=s.1∧s.1<=q∧s.1<=4096∧4<=s.2∧s.2<=k∧s.2=com bs (q-s.1) q k)
theorem Qyn{bs:List Int}{q k:Nat}{s:Nat×Nat}(h:Cpy bs q k s){p:Nat}(hp:p<q)(h4:q-p<=4096):Cpy bs q k (better bs q k s p):=by
 unfold better
 split
 ·rename_i hlt
  have:=Qjs bs k p q
  refine .inr ⟨by simp;omega,by simp,h4,?_,this,?_⟩
  ·rcases h with ⟨_,h2⟩ | ⟨_,_,_,h2,_⟩<;>simp<;>omega
  ·simp only
   rw[show q-(q-p)=p from by omega]
 ·exact h
theorem Qv5{bs:List Int}{q k:Nat}:∀(ps:List Nat) (s:Nat×Nat),Cpy bs q k s->(∀p∈ps,p<q∧q-p<=4096)->Cpy bs q k (ps.foldl (better bs q k) s)
 | [],_,h,_=>h
 | p::ps,s,h,hp=>Qv5 ps _ (Qyn h (hp p (by simp)).1 (hp p (by simp)).2) (fun x hx=>hp x (by simp[hx]))
theorem Xeq(bs:List Int)(q:Nat):Cpy bs q (most bs q) (best bs q (most bs q) (Qbv q)):=Qv5 _ _ (.inl ⟨rfl,rfl⟩) (fun _ hp=>Qha hp)
theorem Qib(bs:List Int)(q:Nat)(hq:q<bs.length):Qb7 bs q=(0,1,bs.getD q 0)∨∃d n,Qb7 bs q=(d,n,0)∧1<=d∧d<=q∧d<=4096∧4<=n∧n<=258∧q+n<=bs.length∧(∀j,j<n->bs.getD (q-d+j) 0=bs.getD (q+j) 0)∧(n<258->q+n<bs.length->bs.getD (q-d+n) 0≠bs.getD (q+n) 0):=by
 have h:=Xeq bs q
 have hm:most bs q=min (bs.length-q) 258:=rfl
 unfold Qb7 Qcu
 generalize best bs q (most bs q) (Qbv q)=s at *
 rcases h with ⟨h1,h2⟩ | ⟨h1,h2,h3,h4,h5,h6⟩
 ·left;rw[if_pos h1]
 ·right
  rw[if_neg (by omega)]
  refine⟨s.1,s.2,rfl,h1,h2,h3,h4,by omega,by omega,fun j hj=>?_,fun h7 h8=>?_⟩
  ·exact Qeh bs (most bs q) _ _ j (by omega)
  ·have:=Qoc bs (most bs q) (q-s.1) q (by omega)
   rw[<-h6] at this
   exact this
theorem Qwg(bs:List Int)(h8:Qce bs)(hL:bs.length<=65536):∀(n q:Nat),bs.length-q<=n->∀t∈from_ bs q,t.1<=65536∧t.2.1<=65536∧(Lit.int .u8 t.2.2).wf=true
 | 0,q,h=>by rw[Qe5 (by omega)];intro t ht;cases ht
 | n+1,q,h=>by
   by_cases hq:q<bs.length
   ·have hl:=Qfw bs q hq
    rw[Qfi hq]
    intro t ht
    rcases List.mem_cons.1 ht with rfl | ht
    ·rcases Qib bs q hq with e | ⟨d,m,e,h1,h2,h3,h4,h5,_⟩
     ·rw[e];exact⟨by dsimp only;omega,by dsimp only;omega,h8 q⟩
     ·rw[e];exact⟨by dsimp only;omega,by dsimp only;omega,Qb8 _⟩
    ·exact Qwg bs h8 hL n _ (by omega) t ht
   ·rw[Qe5 hq];intro t ht;cases ht
theorem Qut(bs:List Int)(h8:Qce bs):∀t∈(Qm4 bs).1,t.1<=65536∧t.2.1<=65536∧(Lit.int .u8 t.2.2).wf=true:=by
 unfold Qm4
 split
 ·intro t ht;cases ht
 ·rw[Qej];exact Qwg bs h8 (by omega) _ 0 (Nat.le_refl _)
theorem Qv2:∀(l:List Tkz) (b:List Int) (i:Nat),Qce b->(∀t∈l,(Lit.int .u8 t.2.2).wf=true)->Qce (Xds b i l).1
 | [],_,_,h,_=>h
 | t::l,b,i,h,hl=>by
   unfold Xds
   split
   ·exact Qv2 l _ _ (Qs1 h (hl t (by simp))) (fun x hx=>hl x (by simp[hx]))
   ·intro j;rw[Qf2 _ _ (by simp)];exact Qb8 _
theorem Qbq(bs:List Int)(k:Nat)(h:k<bs.length):bs.take (k+1)=bs.take k++ [bs.getD k 0]:=by
 rw[List.take_succ_eq_append_getElem h]
 simp[List.getD,h]
theorem Qvl(bs:List Int)(q d n:Nat)(h1:1<=d)(hd:d<=q)(hn:q+n<=bs.length)(hs:∀j,j<n->bs.getD (q-d+j) 0=bs.getD (q+j) 0):∀j,j<=n->Qic (bs.take q) d j=bs.take (q+j)
 | 0,_=>rfl
 | j+1,hj=>by
   have ih:=Qvl bs q d n h1 hd hn hs j (by omega)
   have hl:(bs.take (q+j)).length=q+j:=by simp;omega
   show Qic (bs.take q) d j++ [(Qic (bs.take q) d j).getD ((Qic (bs.take q) d j).length-d) 0]=_
   rw[ih,hl,getD_take bs (q+j) (q+j-d) (by omega),show q+(j+1)=q+j+1 from by omega,Qbq bs (q+j) (by omega)]
   congr 2
   rw[<-hs j (by omega)]
   congr 1
   omega
theorem Xie(x:Int)(m:Int)(hm:m+1<=65536):Qio (0,1,x) m=0:=by
 have hk:Qc5 (0,1,x)=1:=rfl
 unfold Qio
 rw[hk,if_neg (by decide),if_neg (by omega),if_neg (by simp;omega)]
theorem Xh7(d n m:Int)(h1:1<=d)(h2:d<=4096)(h3:4<=n)(h4:n<=258)(h5:d<=m)(h6:m+n<=65536):Qio (d,n,0) m=0:=by
 have hk:Qc5 (d,n,0)=2:=by
  unfold Qc5 Xdt Xd0
  simp only[Bool.and_eq_true,decide_eq_true_eq,beq_iff_eq]
  rw[if_neg (by omega),if_pos ⟨h1,h2,h3,h4,trivial⟩]
 unfold Qio
 rw[hk,if_neg (by decide),if_neg (by simp;omega),if_neg (by simp;omega)]
theorem Ql9(bs:List Int)(hL:bs.length<=65536):∀(n q i:Nat),q<=bs.length->bs.length-q<=n->Xds (bs.take q) i ((from_ bs q).map toZ)=(bs,0,0)
 | 0,q,i,hq,h=>by
   rw[Qe5 (by omega),List.take_of_length_le (by omega)];rfl
 | n+1,q,i,hq,h=>by
   by_cases hlt:q<bs.length
   ·have hl:(bs.take q).length=q:=by simp;omega
    rw[Qfi hlt,List.map_cons]
    rcases Qib bs q hlt with e | ⟨d,m,e,h1,h2,h3,h4,h5,h6,h7,_⟩
    ·rw[e]
     show(if Qio (toZ (0,1,bs.getD q 0)) (bs.take q).length=0 then Xds (Qgu (bs.take q) (toZ (0,1,bs.getD q 0))) (i+1) ((from_ bs (q+1)).map toZ) else _)=_
     rw[hl,show toZ (0,1,bs.getD q 0)=(0,1,bs.getD q 0) from rfl,if_pos (Xie _ _ (by omega))]
     have hg:Qgu (bs.take q) (0,1,bs.getD q 0)=bs.take (q+1):=by
      unfold Qgu
      rw[if_pos rfl,Qbq bs q hlt]
     rw[hg]
     exact Ql9 bs hL n (q+1) (i+1) (by omega) (by omega)
    ·rw[e]
     show(if Qio (toZ (d,m,0)) (bs.take q).length=0 then Xds (Qgu (bs.take q) (toZ (d,m,0))) (i+1) ((from_ bs (q+m)).map toZ) else _)=_
     rw[hl,show toZ (d,m,0)=((d:Int),(m:Int),0) from rfl,if_pos (Xh7 _ _ _ (by omega) (by omega) (by omega) (by omega) (by omega) (by omega))]
     have hg:Qgu (bs.take q) ((d:Int),(m:Int),0)=bs.take (q+m):=by
      unfold Qgu
      rw[if_neg (by simp;omega)]
      simp only[Int.toNat_natCast]
      exact Qvl bs q d m h1 h2 h6 h7 m (Nat.le_refl _)
     rw[hg]
     exact Ql9 bs hL n (q+m) (i+1) (by omega) (by omega)
   ·rw[Qe5 hlt,List.take_of_length_le (by omega)];rfl
theorem back_eq(bs:List Int)(_:Qce bs)(hL:bs.length<=65536):Qfu ((Qgh bs).map toZ)=(bs,0,0):=by
 have:=Ql9 bs hL _ 0 0 (by omega) (Nat.le_refl _)
 rw[Qej]
 exact this
end
section
open Go.RowKit Hf
theorem Xff{zs:List Int}{l:List Tkz}(h:Qyo zs=some l):(∀t∈l,Tin t)∧l.length<=8*zs.length:=by
 unfold Qyo at h
 cases ht:Qmg zs with
 | none=>rw[ht] at h;cases h
 | some ls=>
   obtain⟨m,s⟩:=ls
   rw[ht] at h
   dsimp only at h
   split at h
   ·have:=Option.some.inj h
    subst this
    exact Qsb ht
   ·cases h
def Qsl(zs:List Int):Option (List Int):=
 match Qji zs with
 | none=>none
 | some ((n,p),rs)=>if p=true then
  match Qyo rs with
  | none=>none
  | some l=>if (Qfu l).2.2=0∧(Qfu l).1.length=n then some (Qfu l).1 else none
  else if rs.length=n then some rs else none
def Xa2(w0:World)(r:Option (List Int))(e:Ending)(w':World):Prop:=
 Below w0.heap.size w0 w'∧match r with
 | none=>e= .panicked Qd4
 | some bs=>∃a c,e= .returned (.slice a bs.length c)∧Ri w' .u8 a c bs
theorem Qss{zs rs:List Int}{n:Nat}{p:Bool}(h:Qji zs=some ((n,p),rs)):rs.length<=zs.length:=by
 cases zs with
 | nil=>simp[Qji] at h
 | cons z zs1=>
   simp only[Qji] at h
   split at h
   ·cases hn:Qnz 65536 zs1 with
    | none=>rw[hn] at h;cases h
    | some nr=>
      obtain⟨m,r⟩:=nr
      rw[hn] at h
      simp only[Option.some.injEq,Prod.mk.injEq] at h
      have:=(Qg5 hn).2
      rw[<-h.2,List.length_cons]
      omega
   ·cases h
theorem Xd8(w0 w:World)(g:Nat)(a:Option Addr)(cap:Nat)(zs:List Int)(h:Rr w0 w g 132 [] a cap zs)(hn:zs.length<=4200):
 Calls Tryz.prog 83 #[.pointer (some ⟨g,0,none⟩)] w (Xa2 w0 (Qsl zs)):=by
 have HH:=hid (Xda w0 w g 132 [] a cap zs h)
 have HN:=hid hn
 have HGL:=hid h.lt
 have HGE:=hid h.ge
 obtain⟨R,hR⟩:∃R,R=Qsl zs:=⟨_,rfl⟩
 rw[<-hR]
 unfold Qsl at hR
 have HR:=hid hR
 clear hR h hn
 go_enter Tryz.func83,Tryz.ntmps83
 go_wp2_with fail
 refine HH.out.mono ?_
 intro e w1 he
 unfold Qzq at he
 cases hh:Qji zs with
 | none=>
   rw[hh] at he HR
   obtain⟨rfl,_,hb⟩:=he
   have hR:=HR.out
   dsimp only at hR
   subst hR
   exact⟨rfl,hb,rfl⟩
 | some x=>
   obtain⟨⟨n,p⟩,rs⟩:=x
   have HSH:=hid (Qss hh)
   rw[hh] at he HR
   obtain⟨rfl,⟨a1,c1,hR1⟩,hF1⟩:=he
   dsimp only at HR
   have e1:=Qag w1 (.cells #[.int .i64 0,.bool false] 173)
   have HG1:=hid hR1.lt
   have hR2:=hR1.keep (Below.heap_alloc w1 (.cells #[.int .i64 0,.bool false] 173) g hR1.lt) (hR1.bel.alloc hR1.bel.size _)
   have hR3:=hR2.keep (setRow_other _ w1.heap.size g #[.int .i64 (n:Int),.bool p] (by have:=HG1.out;omega)) (below_setRow hR2.bel hR1.bel.size _)
   have e3:=setRow_heap _ w1.heap.size _ #[.int .i64 (n:Int),.bool p] _ _ e1
   have q79:(Tryz.prog.info? 173).map (·.size)=some (#[Value.int .i64 (n:Int),Value.bool p]:Array Value).size:=by kernel_rfl
   have o79:(#[Value.int .i64 (n:Int),Value.bool p]:Array Value).all (·.oneCell')=true:=by simp[Value.oneCell']
   have HR3:=hid hR3
   have HE3:=hid e3
   clear hh hR1 hF1 hR2 hR3 e3 HH
   have k0:=Joins.cell_of_block HE3.out 0
   have k1:=Joins.cell_of_block HE3.out 1
   have kr:=Joins.cell_of_block HR3.out.blk 0
   simp only[List.getElem?_toArray,List.getElem?_cons_zero,List.getElem?_cons_succ] at k0 k1 kr
   have HK:=hid k0
   have HKR:=hid kr
   cases p with
   | false=>
     rw[if_neg (by decide)] at HR
     clear k0 kr
     have hmo:Tryz.prog.follows .mixedOrders=true:=by kernel_rfl
     go_wp2_with (refine wpList_store_rowTo rfl 173 _ _ rfl rfl w1.heap.size #[.int .i64 (n:Int),.bool false] rfl rfl 173 _ e1 q79 rfl o79 ?_)
     have k0:=HK.out
     have kr:=HKR.out
     clear k1 e1 q79 o79
     have HBW:=hid HR3.out.bel
     have HRI:=hid (HR3.out.row.later HR3.out.bel)
     clear HE3 HK HKR HR3
     generalize (w1.alloc (.cells #[.int .i64 0,.bool false] 173)).setRow w1.heap.size #[.int .i64 (n:Int),.bool false]=W at *
     obtain⟨rl,hrl⟩:∃k,k=rs.length:=⟨_,rfl⟩
     have HRL:=hid hrl
     rw[<-hrl] at kr HR
     clear hrl
     go_still_tail 8,hmo
     change wpList _ _ _ _ _ W.drew
     have kd:W.drew.cell? ⟨g,0,none⟩=some (.slice a1 rl c1):=kr
     have HBD:=hid HBW.out.drew
     have HRD:Hid (Ri W.drew .u8 a1 c1 rs):=HRI.out.later (Below.refl _ _).drew
     clear k0 kr HBW HRI
     generalize W.drew=V at *
     by_cases hln:rl=n
     ·have hR:=HR.out
      rw[if_pos hln] at hR
      subst hR
      subst hln
      clear HR
      cases a1 with
      | none=>
        have hr0:rs= []:=by
         apply List.length_eq_zero_iff.1
         rcases Nat.eq_zero_or_pos rs.length with h | h
         ·exact h
         ·obtain⟨_,_,h',_⟩:=HRD.out.cells h
          cases h'
        have HCL:=hid (Qxf rl c1 V)
        go_wp2_with fail
        refine(Qct V).mono ?_
        rintro _ w5 ⟨rfl,hw⟩
        obtain rfl:=hw.symm
        clear hw
        go_wp2_with fail
        refine HCL.out.mono ?_
        rintro _ w5 ⟨rfl,hw⟩
        obtain rfl:=hw.symm
        clear hw HCL
        go_wp2_with fail
        go_ret
        subst hr0
        exact⟨HBD.out,none,0,rfl,Qpo _ _ _ _ (by unfold maxLen;omega)⟩
      | some ad=>
        have HCL:=hid (Qtg ad c1 rs V HRD.out (by have:=HSH.out;have:=HN.out;omega))
        rw[<-HRL.out] at HCL
        go_wp2_with fail
        refine(Qct V).mono ?_
        rintro _ w5 ⟨rfl,hw⟩
        obtain rfl:=hw.symm
        clear hw
        go_wp2_with fail
        refine HCL.out.mono ?_
        rintro _ w5 ⟨v,rfl,ho,hb⟩
        rw[HRL.out] at ho
        obtain⟨a5,c5,rfl,hri⟩:=Ri.own ho HRD.out.fits
        have HB5:=hid (Bn HBD.out hb)
        have HRI5:=hid hri
        clear ho hb hri HCL
        rw[<-HRL.out]
        go_wp2_with fail
        go_ret
        exact⟨HB5.out,a5,c5,by rw[<-HRL.out];rfl,HRI5.out⟩
     ·have hR:=HR.out
      rw[if_neg hln] at hR
      subst hR
      clear HR
      have hln2:((rl:Int)==(n:Int))=false:=beq_eq_false_iff_ne.2 (by omega)
      have hln3:(rl==n)=false:=beq_eq_false_iff_ne.2 hln
      go_wp2_with fail
      refine(Qd8 V).mono ?_
      rintro _ w5 ⟨rfl,rfl⟩
      exact⟨rfl,HBD.out,rfl⟩
   | true=>
     rw[if_pos rfl] at HR
     clear k0
     have HBW:=hid HR3.out.bel
     have HUW:=hid (Quz a1 c1 rs _ (HR3.out.row.later HR3.out.bel) (by have:=HSH.out;have:=HN.out;omega))
     go_wp2_with (refine wpList_store_rowTo rfl 173 _ _ rfl rfl w1.heap.size #[.int .i64 (n:Int),.bool true] rfl rfl 173 _ e1 q79 rfl o79 ?_)
     clear k1 kr e1 q79 o79 HKR HR3
     generalize (w1.alloc (.cells #[.int .i64 0,.bool false] 173)).setRow w1.heap.size #[.int .i64 (n:Int),.bool true]=W at *
     refine HUW.out.mono ?_
     rintro e w2 ⟨hb2,he⟩
     cases hu:Qyo rs with
     | none=>
       rw[hu] at he HR
       subst he
       have hR:=HR.out
       dsimp only at hR
       subst hR
       have HB:=hid (Bn HBW.out hb2)
       clear hb2 hu HUW
       go_wp2_with fail
       refine(Qd8 w2).mono ?_
       rintro _ w3 ⟨rfl,rfl⟩
       exact⟨rfl,HB.out,rfl⟩
     | some l=>
       rw[hu] at he HR
       obtain⟨a2,c2,rfl,hrt⟩:=he
       dsimp only at HR
       obtain⟨hin,hle⟩:=Xff hu
       have HBY:=hid (Qg2 a2 c2 l w2 hrt (by have:=HSH.out;have:=HN.out;omega))
       have H8:Hid (Qce (Qfu l).1):=Qv2 l [] 0 (fun j=>by simp;exact Qa8 (by omega) (by omega)) (fun t ht=>Qa8 (hin t ht).2.2.2.2.1 (hin t ht).2.2.2.2.2)
       have HB2:=hid (Bn HBW.out hb2)
       have k2:=(hb2.cell (p:=⟨w1.heap.size,0,none⟩) (by have:=Qjj HK.out;exact this)).trans HK.out
       have HK2:=hid k2
       have HLT:=hid (Qjj k2)
       clear hb2 hu HUW hrt hin hle k2 HK HE3 HBW
       generalize l.length=ll at *
       unfold Qtd at HBY
       generalize Qfu l=B at *
       obtain⟨bs,bi,be⟩:=B
       dsimp only at HBY H8 HR
       go_wp2_with fail
       refine(Qct w2).mono ?_
       rintro _ w3 ⟨rfl,hw⟩
       obtain rfl:=hw.symm
       clear hw
       go_wp2_with fail
       refine HBY.out.mono ?_
       rintro _ w4 ⟨v,rfl,hob,hb4⟩
       obtain⟨a4,c4,rfl,hri⟩:=Ri.own hob H8.out
       have k4:=(hb4.cell (p:=⟨w1.heap.size,0,none⟩) HLT.out).trans HK2.out
       have HB4:=hid (Bn HB2.out hb4)
       have HRI:=hid hri
       clear hob hb4 hri HBY HK2 HLT H8 HB2
       obtain⟨bl,hbl⟩:∃k,k=bs.length:=⟨_,rfl⟩
       have HBLn:=hid hbl
       rw[<-hbl] at HR|-
       clear hbl
       by_cases hbe:be=0
       ·subst hbe
        by_cases hln:bl=n
        ·have hR:=HR.out
         rw[if_pos ⟨rfl,hln⟩] at hR
         subst hR
         subst hln
         clear HR
         go_wp2_with fail
         refine(Qct w4).mono ?_
         rintro _ w5 ⟨rfl,hw⟩
         obtain rfl:=hw.symm
         clear hw
         go_wp2_with fail
         go_ret
         exact⟨HB4.out,a4,c4,by rw[<-HBLn.out];rfl,HRI.out⟩
        ·have hR:=HR.out
         rw[if_neg (fun q=>hln q.2)] at hR
         subst hR
         clear HR
         have hln2:((bl:Int)==(n:Int))=false:=beq_eq_false_iff_ne.2 (by omega)
         have hln3:(bl==n)=false:=beq_eq_false_iff_ne.2 hln
         go_wp2_with fail
         refine(Qd8 w4).mono ?_
         rintro _ w5 ⟨rfl,rfl⟩
         exact⟨rfl,HB4.out,rfl⟩
       ·have hR:=HR.out
        rw[if_neg (fun q=>hbe q.1)] at hR
        subst hR
        clear HR
        have hb2:(be==0)=false:=beq_eq_false_iff_ne.2 hbe
        go_wp2_with fail
        refine(Qd8 w4).mono ?_
        rintro _ w5 ⟨rfl,rfl⟩
        exact⟨rfl,HB4.out,rfl⟩
end
section
open Go.RowKit
theorem Qsz(p:Addr)(w:World):
 CallsD Tryz.prog 114 #[.pointer (some p)] .returning w fun e u' w'=>e= .returned (.tuple #[])∧u'= .returning∧w'=w:=by
 refine callsD_of_wpS Tryz.func114 rfl fun c₀ cs hu=>?_
 apply wpS_seq
 apply wpS_region
 simp[wpOpsS,go_sem,recoverD,hu,Tryz.ntmps114,Exit.thenS]
 refine wpS_of_wp ?_
 change Code.wp _ _ _ ⟨#[.pointer (some p),.nilIface,undef,undef,.nilIface,undef,undef,undef,undef,undef,undef,undef,undef,undef,undef],[]⟩ w
 generalize hQ:(fun(x:Exit) (a:Act) (w':World)=>bodyPostS Tryz.prog Tryz.f114 c₀ cs (fun e u' w'=>e=Ending.returned (Value.tuple #[])∧u'=FrameMode.returning∧w'=w) x a (c₀::cs) w')=Q
 go_wp2
 subst hQ
 refine⟨rfl,.returning,?_,.tuple #[],results_none rfl _ _ _,rfl,rfl,rfl⟩
 cases c₀
 simp_all
theorem Qqy(p:Addr)(x:Int)(w:World)(hc:w.cell? p=some (.int .i64 x))(hz:w.frozen? p=false)(hp:p.block<w.heap.size):
 CallsD Tryz.prog 114 #[.pointer (some p)] (.panicking Qd4) w fun e u' w'=>e= .returned (.tuple #[])∧u'= .panicking [{v:= .iface 169 (.agg #[]),recovered:=true}]∧w'=(w.alloc (.cells #[] 169)).setCell p (.int .i64 70):=by
 refine callsD_of_wpS Tryz.func114 rfl fun c₀ cs hu=>?_
 apply wpS_seq
 apply wpS_region
 simp[wpOpsS,go_sem,recoverD,hu,Tryz.ntmps114,Exit.thenS]
 refine wpS_of_wp ?_
 have hb:=Qab w (.cells #[] 169)
 have hc2:(w.alloc (.cells #[] 169)).cell? p=some (.int .i64 x):=(hb.cell hp).trans hc
 have hz2:(w.alloc (.cells #[] 169)).frozen? p=false:=(hb.frozen hp).trans hz
 have A:=Qwf
 clear hc hz hb
 change Code.wp _ _ _ ⟨#[.pointer (some p),.iface 169 (.agg #[]),undef,undef,.iface 169 (.agg #[]),undef,undef,undef,undef,undef,undef,undef,undef,undef,undef],[]⟩ w
 go_wp2
 exact⟨rfl,_,rfl,.tuple #[],results_none rfl _ _ _,rfl,rfl,rfl⟩
theorem Qqh(p:Addr)(w:World)(G:Option Value->World->Prop)
 (hC:Calls Tryz.prog 82 #[.pointer (some p)] (w.alloc (.cells #[.int .i64 0] 24)) fun e w'=>Below (w.alloc (.cells #[.int .i64 0] 24)).heap.size (w.alloc (.cells #[.int .i64 0] 24)) w'∧((e= .panicked Qd4∧G none w')∨∃v,e= .returned v∧G (some v) w')) :
 Calls Tryz.prog 81 #[.func (.func 82) #[] #[.pointer (some p)]] w fun e w'=>Below w.heap.size w w'∧((∃w1,G none w1∧w'=(w1.alloc (.cells #[] 169)).setCell ⟨w.heap.size,0,none⟩ (.int .i64 70)∧e= .returned (.tuple #[.slice none 0 0,.int .i64 70]))∨∃v w1,G (some v) w1∧w'=w1.setCell ⟨w.heap.size,0,none⟩ (.int .i64 0)∧e= .returned (.tuple #[v,.int .i64 0])):=by
 have hmf:∀(fn:Fn) (first cap:Array Value) (w:World),(Instr.makeFunc fn first cap).run Tryz.prog w= .ok (.func fn first cap) w:=fun _ _ _ _=>rfl
 have HC:=hid hC
 clear hC
 go_enter_defers Tryz.func81,Tryz.ntmps81
 go_wp2_with fail
 refine HC.out.mono ?_
 have e0:=Qag w (.cells #[.int .i64 0] 24)
 have hb0:=Qab w (.cells #[.int .i64 0] 24)
 have s0:(w.alloc (.cells #[.int .i64 0] 24)).heap.size=w.heap.size+1:=by simp
 rintro e w1 ⟨hb,⟨rfl,hG⟩ | ⟨v,rfl,hG⟩⟩
 ·have e1:=(hb.block w.heap.size (by omega)).trans e0
  have c1:=Joins.cell_of_block e1 0
  have u1:=Joins.unfrozen_of_block e1 0
  simp only[List.getElem?_toArray,List.getElem?_cons_zero] at c1
  have hB:=Bn hb0 hb
  have hs1:=hb.size
  have hB2:=(hB.alloc hB.size (.cells #[] 169)).setCell (p:=⟨w.heap.size,0,none⟩) (Nat.le_refl _) (.int .i64 70)
  have c2:((w1.alloc (.cells #[] 169)).setCell ⟨w.heap.size,0,none⟩ (.int .i64 70)).cell? ⟨w.heap.size,0,none⟩=some (.int .i64 70):=by
   have e2:=Qai w1 (.cells #[] 169) e1
   have e3:=Joins.block_setCell (v:= .int .i64 70) (i:=0) e2
   simpa using Joins.cell_of_block e3 0
  have HB2:=hid hB2
  have HG:=hid hG
  clear hB2 hB hb hb0 s0 hG HC e0
  refine leaves_cons (f:=114) (args:= #[.pointer (some ⟨w.heap.size,0,none⟩)]) (by simp) (by simp[go_sem]) ?_
  refine(Qqy ⟨w.heap.size,0,none⟩ 0 w1 c1 u1 (by have:=(Array.getElem?_eq_some_iff.1 e1).1;exact this)).mono ?_
  rintro e u' w'' ⟨rfl,rfl,rfl⟩
  generalize hW:(w1.alloc (.cells #[] 169)).setCell ⟨w.heap.size,0,none⟩ (.int .i64 70)=W at *
  have HW:=hid hW
  clear hW
  simp[Leaves,settle,results,Tryz.results81,go_sem,c2]
  exact⟨HB2.out,w1,HG.out,HW.out.symm⟩
 ·have e1:=(hb.block w.heap.size (by omega)).trans e0
  have c1:=Joins.cell_of_block e1 0
  have u1:=Joins.unfrozen_of_block e1 0
  simp only[List.getElem?_toArray,List.getElem?_cons_zero] at c1
  have hB:=Bn hb0 hb
  have hB2:=hB.setCell (p:=⟨w.heap.size,0,none⟩) (Nat.le_refl _) (.int .i64 0)
  have c2:(w1.setCell ⟨w.heap.size,0,none⟩ (.int .i64 0)).cell? ⟨w.heap.size,0,none⟩=some (.int .i64 0):=by
   have e3:=Joins.block_setCell (v:= .int .i64 0) (i:=0) e1
   simpa using Joins.cell_of_block e3 0
  have HB2:=hid hB2
  have HG:=hid hG
  clear hB2 hB hb hb0 s0 hG HC e0 e1
  go_wp2_with fail
  refine leaves_cons (f:=114) (args:= #[.pointer (some ⟨w.heap.size,0,none⟩)]) (by simp) (by simp[go_sem]) ?_
  refine(Qsz ⟨w.heap.size,0,none⟩ _).mono ?_
  rintro e u' w'' ⟨rfl,rfl,hw⟩
  obtain rfl:=hw.symm
  clear hw
  generalize hW:w1.setCell ⟨w.heap.size,0,none⟩ (.int .i64 0)=W at *
  have HW:=hid hW
  clear hW
  simp[Leaves,settle,results,Tryz.results81,go_sem,c2]
  exact⟨HB2.out,v,w1,HG.out,HW.out.symm,rfl⟩
end
section
open Go.RowKit Hf
def Xdg(zs:List Int)(w:World)(e:Ending)(w':World):Prop:=
 Below w.heap.size w w'∧match Qsl zs with
 | none=>e= .panicked Qd4
 | some l=>∃a c,e= .returned (.slice a l.length c)∧Ri w' .u8 a c l
theorem Xgf(gb:Nat)(a:Option Addr)(cap:Nat)(zs:List Int)(w:World)(hbx:w.cell? ⟨gb,0,none⟩=some (.slice a zs.length cap))(hr:Ri w .u8 a cap zs)(hn:zs.length<=4200):
 Calls Tryz.prog 82 #[.pointer (some ⟨gb,0,none⟩)] w (Xdg zs w):=by
 have e0:=Qag w (.cells #[.slice none 0 0] 132)
 have hb0:=Qab w (.cells #[.slice none 0 0] 132)
 have HR:=hid hr
 have HB0:=hid hb0
 have HNN:=hid hn
 have q39:(Tryz.prog.info? 132).map (·.size)=some (#[Value.slice a zs.length cap]:Array Value).size:=by kernel_rfl
 have o39:(#[Value.slice a zs.length cap]:Array Value).all (·.oneCell')=true:=by simp[Value.oneCell']
 clear hr hb0 hn
 obtain⟨len,hl⟩:∃n,n=zs.length:=⟨_,rfl⟩
 have HL:=hid hl
 rw[<-hl] at hbx q39 o39
 clear hl
 unfold Xdg
 have HRW:Hid (∀W,Rr w W w.heap.size 132 [] a cap zs->Calls Tryz.prog 83 #[.pointer (some ⟨w.heap.size,0,none⟩)] W (Xa2 w (Qsl zs))):=fun W hW=>Xd8 w W w.heap.size a cap zs hW HNN.out
 generalize Qsl zs=R at *
 go_enter Tryz.func82,Tryz.ntmps82
 go_wp2_with (refine wpList_store_rowTo rfl 132 _ _ rfl rfl w.heap.size #[.slice a len cap] rfl rfl 132 _ e0 q39 rfl o39 ?_)
 have hRr:Rr w ((w.alloc (.cells #[.slice none 0 0] 132)).setRow w.heap.size #[.slice a len cap]) w.heap.size 132 [] a cap zs:=
  ⟨by rw[<-HL.out];exact setRow_heap _ _ _ _ _ _ e0,HR.out,below_setRow HB0.out (Nat.le_refl _) _,Nat.le_refl _⟩
 have HT:=hid (HRW.out _ hRr)
 clear hRr e0
 generalize (w.alloc (.cells #[.slice none 0 0] 132)).setRow w.heap.size #[.slice a len cap]=w1 at *
 refine HT.out.mono ?_
 rintro e w2 ⟨hb,he⟩
 cases R with
 | none=>
   dsimp only at he
   subst he
   exact⟨rfl,hb,rfl⟩
 | some l=>
   obtain⟨a2,c2,rfl,hri⟩:=he
   have HB:=hid hb
   have HRI:=hid hri
   obtain⟨ll,hll⟩:∃n,n=l.length:=⟨_,rfl⟩
   have HLL:=hid hll
   rw[<-hll]
   clear hb hri hll HT
   go_wp2_with fail
   go_ret
   refine⟨HB.out,a2,c2,?_,HRI.out⟩
   rw[<-HLL.out]
   rfl
def Qpa(zs:List Int)(w:World)(e:Ending)(w':World):Prop:=
 Below w.heap.size w w'∧match Qsl zs with
 | none=>e= .returned (.tuple #[.slice none 0 0,.int .i64 70])
 | some l=>∃a c,e= .returned (.tuple #[.slice a l.length c,.int .i64 0])∧Ri w' .u8 a c l
theorem Qt6(a:Option Addr)(cap:Nat)(zs:List Int)(w:World)(hr:Ri w .u8 a cap zs)(hn:zs.length<=4200):
 Calls Tryz.prog 53 #[.slice a zs.length cap] w (Qpa zs w):=by
 have hmf:∀(fn:Fn) (first cap:Array Value) (w:World),(Instr.makeFunc fn first cap).run Tryz.prog w= .ok (.func fn first cap) w:=fun _ _ _ _=>rfl
 have hb1:=Qab w (.cells #[.slice a zs.length cap] 22)
 have e1:=Qag w (.cells #[.slice a zs.length cap] 22)
 have s1:(w.alloc (.cells #[.slice a zs.length cap] 22)).heap.size=w.heap.size+1:=by simp
 generalize hW1:w.alloc (.cells #[.slice a zs.length cap] 22)=w1 at *
 have hb2:=Qab w1 (.cells #[.int .i64 0] 24)
 have e2:=Qag w1 (.cells #[.int .i64 0] 24)
 have hcl:=Xgf w.heap.size a cap zs (w1.alloc (.cells #[.int .i64 0] 24)) ((hb2.cell (p:=⟨w.heap.size,0,none⟩) (by show w.heap.size<w1.heap.size;omega)).trans (by simpa using Joins.cell_of_block e1 0)) ((hr.later hb1).later hb2) hn
 have HCW:=hid (Qqh ⟨w.heap.size,0,none⟩ w1 (fun o w'=>Below (w1.alloc (.cells #[.int .i64 0] 24)).heap.size (w1.alloc (.cells #[.int .i64 0] 24)) w'∧match Qsl zs with | none=>o=none | some l=>∃a c,o=some (.slice a l.length c)∧Ri w' .u8 a c l) (hcl.mono (by
  rintro e w' ⟨hb,he⟩
  refine⟨hb,?_⟩
  cases hu:Qsl zs with
  | none=>rw[hu] at he;exact .inl ⟨he,hb,rfl⟩
  | some l=>
    rw[hu] at he
    obtain⟨a2,c2,rfl,hrt⟩:=he
    exact .inr ⟨_,rfl,hb,a2,c2,rfl,hrt⟩)))
 have HB1:=hid hb1
 have HE2:=hid e2
 have HW1:=hid hW1
 have HN:=hid hn
 clear hcl hb2 e2 hb1 s1 hr
 have c1:=Joins.cell_of_block e1 0
 simp only[List.getElem?_toArray,List.getElem?_cons_zero] at c1
 unfold Qpa
 generalize Qsl zs=R at *
 generalize zs.length=len at *
 have hlb:¬(262144:Int)<(len:Int):=by have:=HN.out;omega
 clear hn e1 hW1
 have HC1:=hid c1
 clear c1
 go_enter Tryz.func53,Tryz.ntmps53
 go_wp2_with fail
 rw[HW1.out]
 refine HCW.out.mono ?_
 rintro e w2 ⟨hb,⟨wq,⟨hbq,hG⟩,hw,rfl⟩ | ⟨v,wq,⟨hbq,hG⟩,hw,rfl⟩⟩
 ·have hR:R=none:=by
   cases R with
   | none=>rfl
   | some l=>obtain⟨_,_,h,_⟩:=hG;cases h
  subst hR
  have HB:=hid (Bn HB1.out hb)
  clear hG hbq hw hb HCW
  go_wp2_with fail
  go_ret2
  exact⟨HB.out,rfl⟩
 ·have e3:=(hbq.block w1.heap.size (by simp)).trans HE2.out
  rw[Qju e3 (by simp)] at hw
  subst hw
  cases R with
  | none=>cases hG
  | some l=>
    obtain⟨a2,c2,h,hrt⟩:=hG
    have h':=Option.some.inj h
    subst h'
    have HB:=hid (Bn HB1.out hb)
    have HRT:=hid hrt
    clear hrt hbq hb HCW h e3
    obtain⟨ll,hll⟩:∃n,n=l.length:=⟨_,rfl⟩
    have HLL:=hid hll
    rw[<-hll]
    clear hll
    go_wp2_with fail
    go_ret2
    exact⟨HB.out,a2,c2,by rw[<-HLL.out];rfl,HRT.out⟩
end
section
open Go.RowKit
def Qgi(f n:Nat)(zs:List Int):List Int:= [(f:Int)]++Qe0 (n:Int)++zs
theorem Qn1(f n:Nat)(a:Option Addr)(cap:Nat)(zs:List Int)(w:World)(hr:Ri w .u8 a cap zs)(hf:f<=255)(hn:n<=100000)(hz:zs.length<=100000)(hvl:(Qe0 (n:Int)).length<=10):
 Calls Tryz.prog 67 #[.int .u8 (f:Int),.int .i64 (n:Int),.slice a zs.length cap] w fun e w'=>∃v,e= .returned v∧w'.ownsRow w.heap.size 5 1 v (Qgi f n zs).length ((Qgi f n zs).map (Value.int .u8))∧Below w.heap.size w w':=by
 have hb0:=Qab w (.cells #[.int .u8 (f:Int)] 5)
 have e0:=Qag w (.cells #[.int .u8 (f:Int)] 5)
 have HR0:=hid (hr.later hb0)
 have HRF:Hid (Ri (w.alloc (.cells #[.int .u8 (f:Int)] 5)) .u8 (some ⟨w.heap.size,0,none⟩) 1 [(f:Int)]):=by
  refine⟨Nat.le_refl _,by unfold maxLen;omega,fun _=>⟨w.heap.size,0,rfl,by simp,fun j hj=>?_⟩,fun j=>?_⟩
  ·have:j=0:=by simpa using hj
   subst this
   exact Joins.cell_of_block e0 0
  ·match j with
   | 0=>exact Qa8 (by simp) (by simp;omega)
   | j+1=>exact Qa8 (by simp) (by simp)
 have HV:=hid (Qih (n:Int) (w.alloc (.cells #[.int .u8 (f:Int)] 5)) (by omega) (by omega))
 have HB0:=hid hb0
 have HZ:=hid hz
 have HVL:=hid hvl
 have HWU:Hid (IntKind.u64.wrap (n:Int)=(n:Int)):=IntWalk.u64_in _ ⟨by omega,by omega⟩
 obtain⟨len,hl⟩:∃k,k=zs.length:=⟨_,rfl⟩
 have HL:=hid hl
 rw[<-hl]
 clear hr hb0 e0 hz hvl hl
 have hnl:(n:Int)<18446744073709551616:=by omega
 clear hn
 go_enter Tryz.func67,Tryz.ntmps67
 go_wp2_with fail
 refine HV.out.mono ?_
 rintro _ w1 ⟨a1,c1,rfl,hr1,hb1⟩
 have HR1:=hid hr1
 have HB1:=hid hb1
 have HR2:=hid (HR0.out.later hb1)
 have HR3:=hid (HRF.out.later hb1)
 clear HV hr1 hb1 HR0 HRF
 obtain⟨vl,hvl⟩:∃k,k=(Qe0 (n:Int)).length:=⟨_,rfl⟩
 have HVL2:=hid hvl
 rw[<-hvl]
 clear hvl
 have hb2:=Qab w1 (.cells #[.slice (some ⟨w.heap.size,0,none⟩) 1 1,.slice a1 vl c1,.slice a len cap] 22)
 have e2:=Qag w1 (.cells #[.slice (some ⟨w.heap.size,0,none⟩) 1 1,.slice a1 vl c1,.slice a len cap] 22)
 have HCC:Hid (Calls Tryz.prog 103 #[.slice (some ⟨w1.heap.size,0,none⟩) 3 3] (w1.alloc (.cells #[.slice (some ⟨w.heap.size,0,none⟩) 1 1,.slice a1 vl c1,.slice a len cap] 22)) fun e w'=>∃v,e= .returned v∧w'.ownsRow (w1.alloc (.cells #[.slice (some ⟨w.heap.size,0,none⟩) 1 1,.slice a1 vl c1,.slice a len cap] 22)).heap.size 5 1 v (Qgi f n zs).length ((Qgi f n zs).map (Value.int .u8))∧Below (w1.alloc (.cells #[.slice (some ⟨w.heap.size,0,none⟩) 1 1,.slice a1 vl c1,.slice a len cap] 22)).heap.size (w1.alloc (.cells #[.slice (some ⟨w.heap.size,0,none⟩) 1 1,.slice a1 vl c1,.slice a len cap] 22)) w'):=
  Xbo w1.heap.size _ (by simp) (some ⟨w.heap.size,0,none⟩) a1 a 1 c1 cap [(f:Int)] (Qe0 (n:Int)) zs (by simp) (by rw[<-HVL2.out];simp) (by rw[<-HL.out];simp) (HR3.out.later hb2) (HR1.out.later hb2) (HR2.out.later hb2) (by have:=HZ.out;have:=HVL.out;simp only[List.length_singleton];omega)
 have HB2:=hid (Bn (Bn HB0.out HB1.out) hb2)
 clear hb2 e2 HR1 HR2 HR3 HB0 HB1
 go_wp2_with fail
 refine HCC.out.mono ?_
 rintro _ w3 ⟨v,rfl,ho,hb3⟩
 have HO:=hid (Qj8 ho HB2.out.size)
 have HB3:=hid (Bn HB2.out hb3)
 clear ho hb3 HCC
 go_wp2_with fail
 go_ret
 exact⟨_,rfl,HO.out,HB3.out⟩
end
end Go.Proofs.YtibjlbcnapoblaaGreatDoor
