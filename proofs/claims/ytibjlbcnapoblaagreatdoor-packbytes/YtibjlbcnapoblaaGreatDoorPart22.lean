/- Contracts and facts. -/
import Derived.Test.YtibjlbcnapoblaaGreatDoorPart21
import Derived.Laws.StructEq
import Derived.Lib.SlBytesConst
import Derived.Defers
import Derived.Recover
import Derived.Laws.Pointers
namespace Go.Proofs.YtibjlbcnapoblaaGreatDoor
set_option maxRecDepth 100000
set_option maxHeartbeats 6400000
section
open Hf
def bts(M:List Int):List Nat:=M.flatMap fun z=>low z.toNat 8
def bitsOf(s:Bst):List Nat:=low s.2.1 s.2.2++bts s.1
theorem Qfv(M:List Int):(bts M).length=8*M.length:=by
 induction M with
 | nil=>rfl
 | cons z M ih=>rw[bts,List.flatMap_cons,List.length_append,Qcj,List.length_cons];unfold bts at ih;omega
theorem Qn8(s:Bst):(bitsOf s).length=Qb4 s:=by
 unfold bitsOf Qb4
 rw[List.length_append,Qcj,Qfv];omega
theorem Qpz{s:Bst}{b:Nat}{r:List Nat}(h:bitsOf s=b::r):∃s',Qpr s=some (b,s')∧bitsOf s'=r:=by
 obtain⟨zs,la,n⟩:=s
 unfold bitsOf at h
 dsimp only at h
 cases n with
 | zero=>
   rw[low,List.nil_append] at h
   cases zs with
   | nil=>simp[bts] at h
   | cons z zs=>
     rw[bts,List.flatMap_cons,low,List.cons_append,List.cons.injEq] at h
     exact⟨(zs,z.toNat,7),by rw[Qpr,h.1],by rw[<-h.2];rfl⟩
 | succ n=>
   rw[low,List.cons_append,List.cons.injEq] at h
   exact⟨(zs,la,n),by rw[Qpr,h.1],by rw[<-h.2];rfl⟩
theorem Qq5(T:Tr)(x:Nat):∀(l:List Nat) (f i:Nat) (s:Bst) (r:List Nat),wk T (-(x:Int)-1) i l->bitsOf s=l++r->l.length<=f->∃s',Qsk T f i s=some ((x:Int),s')∧bitsOf s'=r
 | [],_,_,_,_,h,_,_=>h.elim
 | b::l,f,i,s,r,h,hs,hf=>by
   rw[List.cons_append] at hs
   obtain⟨s',h1,h2⟩:=Qpz hs
   rw[wk] at h
   cases f with
   | zero=>simp at hf
   | succ f=>
     rw[List.length_cons] at hf
     rw[Qsk,h1]
     dsimp only
     rcases h with ⟨rfl,h4⟩ | ⟨_,h4,h5⟩
     ·rw[if_neg (by omega),if_pos (by omega),h4]
      exact⟨s',by rw[show -(-(x:Int)-1)-1=(x:Int) from by omega],h2⟩
     ·rw[if_neg (by omega),if_neg (by omega)]
      exact Qq5 T x l f _ s' r h5 h2 (by omega)
theorem Qmf(zs:List Int)(hc:Qaq zs=true)(x:Nat)(hx:x<zs.length)(h0:0<zs.getD x 0)(s:Bst)(r:List Nat)(hs:bitsOf s=low (Qds zs x) (zs.getD x 0).toNat++r):∃s',Xdw (Qbw zs zs.length) s=some ((x:Int),s')∧bitsOf s'=r:=by
 obtain⟨_,_,_,h⟩:=Qw3 hc zs.length (Nat.le_refl _)
 refine Qq5 _ x _ _ 0 s r (h x hx h0) hs ?_
 have h1:=Qn8 s
 rw[hs,List.length_append] at h1
 omega
theorem Qp7(x:Nat):∀(k d:Nat) (s:Bst) (r:List Nat),bitsOf s=low x k++r->∃s',Qgo k d s=some (2^k*d+x%2^k,s')∧bitsOf s'=r
 | 0,d,s,r,h=>⟨s,by rw[Qgo];simp[Nat.mod_one],by simpa [low] using h⟩
 | k+1,d,s,r,h=>by
   rw[low,List.cons_append] at h
   obtain⟨s1,h1,h2⟩:=Qpz h
   obtain⟨s2,h3,h4⟩:=Qp7 x k (2*d+x/2^k%2) s1 r h2
   refine⟨s2,?_,h4⟩
   rw[Qgo,h1]
   dsimp only
   rw[h3]
   have e:x%2^(k+1)=2^k*(x/2^k%2)+x%2^k:=by rw[Nat.pow_succ,Nat.mod_mul];omega
   rw[e,Nat.mul_add,Nat.pow_succ,<-Nat.mul_assoc,Nat.add_assoc]
theorem or_bit(x y k:Nat):(x|||y)/2^k%2=(x/2^k%2)|||(y/2^k%2):=by
 have h:=Nat.testBit_or x y k
 rw[<-Nat.toNat_testBit,<-Nat.toNat_testBit,<-Nat.toNat_testBit,h]
 cases x.testBit k<;>cases y.testBit k<;>rfl
theorem Xht(x y:Nat):∀n,low (x|||y) n=List.zipWith (· ||| ·) (low x n) (low y n)
 | 0=>rfl
 | n+1=>by rw[low,low,low,List.zipWith_cons_cons,or_bit,Xht x y n]
theorem Qo8:∀(l:List Nat),List.zipWith (· ||| ·) l (List.replicate l.length 0)=l
 | []=>rfl
 | a::l=>by rw[List.length_cons,List.replicate_succ,List.zipWith_cons_cons,Qo8 l,Nat.or_zero]
theorem Xjk(f b:Nat)(hf:f<7)(hb:b<2):low (b*2^f) 8=List.replicate (7-f) 0++b::List.replicate f 0:=by
 have h:∀f:Fin 7,∀b:Fin 2,low (b.1*2^f.1) 8=List.replicate (7-f.1) 0++b.1::List.replicate f.1 0:=by decide
 exact h ⟨f,hf⟩ ⟨b,hb⟩
def Wv(H:List Int)(s:List Int×Nat)(B:List Nat):Prop:=∃M,s.1=H++M∧bts M=B++List.replicate s.2 0∧s.2<8
theorem Wv.start(H:List Int):Wv H (H,0) []:=⟨[],by simp,rfl,Nat.zero_lt_succ _⟩
theorem Qvw(M:List Int)(z:Int):bts (M++ [z])=bts M++low z.toNat 8:=by simp[bts]
theorem Wv.bit{H:List Int}{s:List Int×Nat}{B:List Nat}(h:Wv H s B)(b:Nat)(hb:b<2):Wv H (Xg2 s.1 s.2 b) (B++ [b]):=by
 obtain⟨L,f⟩:=s
 obtain⟨M,hL,hM,hf⟩:=h
 dsimp only at *
 subst hL
 unfold Xg2
 cases f with
 | zero=>
   rw[if_pos rfl]
   refine⟨M++ [((b*128:Nat):Int)],by simp,?_,by show 7<8;omega⟩
   rw[Qvw,hM,Int.toNat_natCast]
   have h:∀b:Fin 2,low (b.1*128) 8=b.1::List.replicate 7 0:=by decide
   rw[h ⟨b,hb⟩]
   simp
 | succ f=>
   rw[if_neg (by omega)]
   have hne:M≠ []:=by rintro rfl;rw[bts,List.flatMap_nil] at hM;simp at hM
   obtain⟨M',z,rfl⟩:∃M' z,M=M'++ [z]:=⟨M.dropLast,M.getLast hne,(List.dropLast_concat_getLast hne).symm⟩
   have e1:(H++(M'++ [z])).length-1=(H++M').length:=by simp
   have e2:(H++(M'++ [z])).getD (H++M').length 0=z:=by rw[<-List.append_assoc];simp[List.getD]
   rw[e1,e2]
   refine⟨M'++ [((z.toNat|||b*2^(f+1-1):Nat):Int)],?_,?_,by dsimp only;omega⟩
   ·dsimp only
    rw[<-List.append_assoc,List.set_append_right _ _ (Nat.le_refl _)]
    simp
   ·rw[Qvw] at hM|-
    rw[Int.toNat_natCast,Nat.add_sub_cancel,Xht,Xjk f b (by omega) hb]
    have hl8:=Qcj z.toNat 8
    have hlen:=congrArg List.length hM
    rw[List.length_append,List.length_append,List.length_replicate,hl8,Qfv] at hlen
    have hlow:low z.toNat 8=B.drop (bts M').length++List.replicate (f+1) 0:=by
     have:=congrArg (List.drop (bts M').length) hM
     rw[List.drop_left,List.drop_append_of_le_length (by rw[Qfv];omega)] at this
     exact this
    have hB:B=bts M'++B.drop (bts M').length:=by
     have:=congrArg (List.take (bts M').length) hM
     rw[List.take_left,List.take_append_of_le_length (by rw[Qfv];omega)] at this
     exact(List.take_append_drop (bts M').length B).symm.trans (by rw[<-this])
    have hdl:(B.drop (bts M').length).length=7-f:=by rw[List.length_drop,Qfv];omega
    rw[hlow,List.replicate_succ,List.zipWith_append (by rw[hdl,List.length_replicate])]
    rw[<-hdl,Qo8,List.zipWith_cons_cons,Nat.zero_or]
    have hz:=Qo8 (List.replicate f 0)
    rw[List.length_replicate] at hz
    rw[hz]
    conv=>rhs;rw[hB]
    simp
theorem Wv.put{H:List Int}(x:Nat):∀(n:Nat) (s:List Int×Nat) (B:List Nat),Wv H s B->Wv H (Qni x n s) (B++low x n)
 | 0,s,B,h=>by simpa [Qni,low] using h
 | n+1,s,B,h=>by
   have:=Wv.put x n _ _ (h.bit (x/2^n%2) (Nat.mod_lt _ (by decide)))
   rw[Qni,low]
   simpa using this
def Xjz(ls cs:List Int)(s:Nat):List Nat:=low (cs.getD s 0).toNat (ls.getD s 0).toNat
def Xfr(ls cs ds es:List Int)(t:Tkz):List Nat:=
 if t.1=0 then Xjz ls cs (Qff t).toNat else Xjz ls cs (Qff t).toNat++(Xjz ds es (Qfy t.1).toNat++low t.1.toNat (Qfy t.1).toNat)
theorem Wv.tok{H:List Int}{s:List Int×Nat}{B:List Nat}(h:Wv H s B)(ls cs ds es:List Int)(t:Tkz):Wv H (Xdy ls cs ds es t s) (B++Xfr ls cs ds es t):=by
 unfold Xdy Xfr Qim
 by_cases h0:t.1=0
 ·rw[if_pos h0,if_pos h0];exact Wv.put _ _ _ _ h
 ·rw[if_neg h0,if_neg h0,<-List.append_assoc,<-List.append_assoc]
  exact Wv.put _ _ _ _ (Wv.put _ _ _ _ (Wv.put _ _ _ _ h))
theorem Wv.toks{H:List Int}(ls cs ds es:List Int)(l:List Tkz):∀k,k<=l.length->Wv H (Qhp ls cs ds es l k (H,0)) ((l.take k).flatMap (Xfr ls cs ds es))
 | 0,_=>Wv.start H
 | k+1,h=>by
   have h1:=(Wv.toks (H:=H) ls cs ds es l k (by omega)).tok ls cs ds es (l.getD k tk0)
   rw[Qhp,List.take_add_one,List.getElem?_eq_getElem (show k<l.length by omega),Option.toList_some,List.flatMap_append]
   have e:l.getD k tk0=l[k]:=by simp[List.getD,List.getElem?_eq_getElem (show k<l.length by omega)]
   rw[e] at h1|-
   simpa using h1
end
section
open Go.RowKit Hf
theorem Qrf(T:Tr):∀f i s x s',Qsk T f i s=some (x,s')->Qb4 s'+1<=Qb4 s:=by
 intro f
 induction f with
 | zero=>intro i s x s' h;simp[Qsk] at h
 | succ f ih=>
   intro i s x s' h
   rw[Qsk] at h
   cases hb:Qpr s with
   | none=>rw[hb] at h;simp at h
   | some bs=>
     obtain⟨b,s2⟩:=bs
     rw[hb] at h
     dsimp only at h
     have h2:=(Qgw hb).2
     by_cases h0:ent T i b=0
     ·rw[if_pos h0] at h;cases h
     ·rw[if_neg h0] at h
      by_cases h1:ent T i b<0
      ·rw[if_pos h1] at h
       simp only[Option.some.injEq,Prod.mk.injEq] at h
       rw[<-h.2];omega
      ·rw[if_neg h1] at h
       have:=ih _ _ _ _ h
       omega
theorem Qx6:∀k d s d' s',Qgo k d s=some (d',s')->Qb4 s'<=Qb4 s∧d'+1<=2^k*(d+1):=by
 intro k
 induction k with
 | zero=>
   intro d s d' s' h
   simp only[Qgo,Option.some.injEq,Prod.mk.injEq] at h
   obtain⟨rfl,rfl⟩:=h
   exact⟨Nat.le_refl _,by simp⟩
 | succ k ih=>
   intro d s d' s' h
   rw[Qgo] at h
   cases hb:Qpr s with
   | none=>rw[hb] at h;simp at h
   | some bs=>
     obtain⟨b,s2⟩:=bs
     rw[hb] at h
     obtain⟨h1,h2⟩:=Qgw hb
     obtain⟨h3,h4⟩:=ih _ _ _ _ h
     refine⟨by omega,Nat.le_trans h4 ?_⟩
     rw[Nat.pow_succ,Nat.mul_assoc]
     exact Nat.mul_le_mul_left _ (by omega)
theorem Xfs{T1 T2:Tr}(h1:∀i b,b<2-> -100000<=ent T1 i b)(h2:∀i b,b<2-> -13<=ent T2 i b){s s':Bst}{t:Tkz}(h:Qyq T1 T2 s=some (t,s')):Qb4 s'+1<=Qb4 s∧0<=t.1∧t.1<=100000∧0<=t.2.1∧t.2.1<=100000∧0<=t.2.2∧t.2.2<=255:=by
 unfold Qyq at h
 cases hs:Xdw T1 s with
 | none=>rw[hs] at h;simp at h
 | some xs=>
   obtain⟨x,s1⟩:=xs
   rw[hs] at h
   dsimp only at h
   have hl:=Qrf T1 _ _ _ _ _ hs
   obtain⟨hx0,hx1⟩:=Qj7 T1 100000 h1 s x s1 hs
   by_cases hx:x<256
   ·rw[if_pos hx] at h
    simp only[Option.some.injEq,Prod.mk.injEq] at h
    obtain⟨rfl,rfl⟩:=h
    dsimp only
    omega
   ·rw[if_neg hx] at h
    cases hs2:Xdw T2 s1 with
    | none=>rw[hs2] at h;simp at h
    | some ys=>
      obtain⟨y,s2⟩:=ys
      rw[hs2] at h
      dsimp only at h
      have hl2:=Qrf T2 _ _ _ _ _ hs2
      obtain⟨hy0,hy1⟩:=Qj7 T2 13 h2 s1 y s2 hs2
      cases hd:Qgo y.toNat 1 s2 with
      | none=>rw[hd] at h;simp at h
      | some dd=>
        obtain⟨d,s3⟩:=dd
        rw[hd] at h
        simp only[Option.some.injEq,Prod.mk.injEq] at h
        obtain⟨rfl,rfl⟩:=h
        obtain⟨hd1,hd2⟩:=Qx6 _ _ _ _ _ hd
        have hp:2^y.toNat<=2^12:=Nat.pow_le_pow_right (by decide) (by omega)
        have hd3:d+1<=8192:=Nat.le_trans hd2 (by simp at hp;omega)
        dsimp only
        omega
def Tin(t:Tkz):Prop:=0<=t.1∧t.1<=100000∧0<=t.2.1∧t.2.1<=100000∧0<=t.2.2∧t.2.2<=255
theorem Qzt{T1 T2:Tr}(h1:∀i b,b<2-> -100000<=ent T1 i b)(h2:∀i b,b<2-> -13<=ent T2 i b):∀n l s l' s',Qin T1 T2 n l s=some (l',s')->(∀t∈l,Tin t)->(∀t∈l',Tin t)∧l'.length+Qb4 s'<=l.length+Qb4 s:=by
 intro n
 induction n with
 | zero=>
   intro l s l' s' h hl
   simp only[Qin,Option.some.injEq,Prod.mk.injEq] at h
   obtain⟨rfl,rfl⟩:=h
   exact⟨hl,Nat.le_refl _⟩
 | succ n ih=>
   intro l s l' s' h hl
   rw[Qin] at h
   cases ht:Qyq T1 T2 s with
   | none=>rw[ht] at h;simp at h
   | some ts=>
     obtain⟨t,s2⟩:=ts
     rw[ht] at h
     have hr:=Xfs h1 h2 ht
     obtain⟨h3,h4⟩:=ih _ _ _ _ h (fun u hu=>by
      rcases List.mem_append.1 hu with hu | hu
      ·exact hl u hu
      ·rw[List.mem_singleton] at hu
       rw[hu];exact hr.2)
     refine⟨h3,?_⟩
     rw[List.length_append,List.length_singleton] at h4
     omega
theorem Ql0(n:Nat):∀(f:Nat) (l zs l' rs:List Int),Qhq n f l zs=some (l',rs)->rs.length<=zs.length:=by
 intro f
 induction f with
 | zero=>intro l zs l' rs h;simp[Qhq] at h
 | succ f ih=>
   intro l zs l' rs h
   rw[Qja] at h
   by_cases hlt:l.length<n
   ·rw[if_pos hlt] at h
    cases zs with
    | nil=>cases h
    | cons z zs=>
      dsimp only at h
      cases hn:Qnz (n-l.length) zs with
      | none=>rw[hn] at h;cases h
      | some mr=>
        obtain⟨m,r⟩:=mr
        rw[hn] at h
        have h1:=(Qg5 hn).2
        have h2:=ih _ _ _ _ h
        rw[List.length_cons]
        omega
   ·rw[if_neg hlt] at h
    simp only[Option.some.injEq,Prod.mk.injEq] at h
    rw[h.2];exact Nat.le_refl _
theorem Qsb{zs:List Int}{l:List Tkz}{s':Bst}(h:Qmg zs=some (l,s')):(∀t∈l,Tin t)∧l.length<=8*zs.length:=by
 unfold Qmg at h
 cases h1:Qj1 511 zs with
 | none=>rw[h1] at h;simp at h
 | some lr=>
   obtain⟨ls,z1⟩:=lr
   rw[h1] at h
   dsimp only at h
   have q1:=Ql0 _ _ _ _ _ _ h1
   cases c1:Qaq ls with
   | false=>rw[c1] at h;simp at h
   | true=>
     rw[c1,if_pos rfl] at h
     cases h2:Qj1 13 z1 with
     | none=>rw[h2] at h;simp at h
     | some dr=>
       obtain⟨ds,z2⟩:=dr
       rw[h2] at h
       dsimp only at h
       have q2:=Ql0 _ _ _ _ _ _ h2
       cases c2:Qaq ds with
       | false=>rw[c2] at h;simp at h
       | true=>
         rw[c2,if_pos rfl] at h
         cases h3:Qnz 65536 z2 with
         | none=>rw[h3] at h;simp at h
         | some nr=>
           obtain⟨n,z3⟩:=nr
           rw[h3] at h
           dsimp only at h
           have q3:=(Qg5 h3).2
           have hd:ds.length=13:=(Qp2 13 (fun _=>True) _ _ _ _ _ h2 (by simp) (fun _ _=>trivial) (fun _ _=>trivial)).1
           obtain⟨r1,r2⟩:=Qzt (Qoq c1).low (fun i b hb=>Qk6 ds ds.length 13 (by omega) i b hb) _ _ _ _ _ h (fun _ hu=>by cases hu)
           refine⟨r1,?_⟩
           simp only[Qb4,List.length_nil] at r2
           omega
theorem Qzl(l:List Tkz):∀j,j<l.length->(l.flatMap zL)[j*3]?=some (.int .i64 (l.getD j tk0).1)∧(l.flatMap zL)[j*3+1]?=some (.int .i64 (l.getD j tk0).2.1)∧(l.flatMap zL)[j*3+2]?=some (.int .u8 (l.getD j tk0).2.2):=by
 induction l with
 | nil=>intro j hj;simp at hj
 | cons t l ih=>
   intro j hj
   rw[List.flatMap_cons]
   cases j with
   | zero=>exact⟨rfl,rfl,rfl⟩
   | succ j=>
     have hl:(zL t).length=3:=rfl
     obtain⟨h0,h1,h2⟩:=ih j (by simp at hj;omega)
     have e:∀i,(zL t++l.flatMap zL)[(j+1)*3+i]?=(l.flatMap zL)[j*3+i]?:=fun i=>by
      rw[List.getElem?_append_right (by omega),hl]
      congr 1
      omega
     have eg:(t::l).getD (j+1) tk0=l.getD j tk0:=rfl
     rw[eg]
     refine⟨?_,?_,?_⟩
     ·rw[<-h0];exact e 0
     ·rw[<-h1];exact e 1
     ·rw[<-h2];exact e 2
theorem Rt.ownZ{w:World}{base:Nat}{v:Value}{l:List Tkz}(h:w.ownsRow base 109 3 v l.length (l.flatMap zL))(hf:∀t∈l,Tin t):
 ∃a cap,v= .slice a l.length cap∧Rt w a cap l:=by
 have hfit:∀j,j<l.length->(Lit.int .i64 (l.getD j tk0).1).wf=true∧(Lit.int .i64 (l.getD j tk0).2.1).wf=true∧(Lit.int .u8 (l.getD j tk0).2.2).wf=true:=fun j hj=>by
  have e:l.getD j tk0=l[j]:=by simp[List.getD,hj]
  obtain⟨f0,f1,f2,f3,f4,f5⟩:=hf l[j] (List.getElem_mem hj)
  rw[e]
  exact⟨Qby (by omega) (by omega),Qby (by omega) (by omega),Qa8 f4 f5⟩
 obtain⟨hl,hn | ⟨g,cap,cur,rfl,hb,hg,hnc,hcm,hcur,htk⟩⟩:=id h
 ·obtain⟨rfl,h0⟩:=hn
  refine⟨none,0,by rw[h0],by simp[h0],by unfold maxLen;omega,fun h1=>by simp[h0] at h1,hfit⟩
 ·refine⟨some ⟨g,0,none⟩,cap,rfl,hnc,hcm,fun h0=>⟨g,0,rfl,(Array.getElem?_eq_some_iff.1 hg).1,fun j hj=>?_⟩,hfit⟩
  obtain⟨h0,h1,h2⟩:=Qzl l j hj
  simp only[Nat.zero_add]
  exact⟨(h.cellAt _ (by omega)).trans h0,(h.cellAt _ (by omega)).trans h1,(h.cellAt _ (by omega)).trans h2⟩
end
section
open Go.RowKit
theorem Qgv{l:List Tkz}(h:(Qcd l).2=0):∀j,j<l.length->Qew (l.getD j tk0)=0:=by
 intro j hj
 unfold Qcd at h
 split at h
 ·rename_i ha
  unfold Qp1 at ha
  have:=List.all_eq_true.1 ha (l.getD j tk0) (by simp[List.getD,List.getElem?_eq_getElem hj])
  simpa using this
 ·simp at h
theorem Xjs(a:Option Addr)(cap:Nat)(l:List Tkz)(w:World)(hr:Rt w a cap l)(hn:l.length<=65536)(hz:(Qcd l).2≠0):
 Calls Tryz.prog 66 #[.slice a l.length cap] w fun e w'=>e= .returned (.tuple #[.slice none 0 0,.int .i64 (Qcd l).2])∧Below w.heap.size w w':=by
 have HSZ:=hid (Qra a cap l w hr (by omega))
 generalize (Qcd l).1=z1 at *
 generalize (Qcd l).2=z2 at *
 generalize l.length=len at *
 have hbne:(z2 != 0)=true:=bne_iff_ne.2 hz
 have hbeq:(z2==0)=false:=beq_eq_false_iff_ne.2 hz
 clear hr hn
 go_enter Tryz.func66,Tryz.ntmps66
 go_wp2_with fail
 refine HSZ.out.mono ?_
 rintro _ w1 ⟨rfl,hb⟩
 have HB:=hid hb
 clear hb HSZ
 go_wp2_with fail
 go_ret2
 exact⟨rfl,HB.out⟩
def Qk0(l:List Tkz)(w:World)(e:Ending)(w':World):Prop:=
 Below w.heap.size w w'∧if (Qcd l).2=0 then ∃a c,e= .returned (.tuple #[.slice a (Qb2 l).length c,.int .i64 0])∧Ri w' .u8 a c (Qb2 l) else e= .returned (.tuple #[.slice none 0 0,.int .i64 (Qcd l).2])
theorem Qoa(a:Option Addr)(cap:Nat)(l:List Tkz)(w:World)(hr:Rt w a cap l)(hn:l.length<=65536):Calls Tryz.prog 66 #[.slice a l.length cap] w (Qk0 l w):=by
 unfold Qk0
 by_cases hz:(Qcd l).2=0
 ·refine(Xbr a cap l w hr hn hz (Qgv hz)).mono ?_
  rintro e w' ⟨v,rfl,ho,hb,hu⟩
  obtain⟨a',c',rfl,hri⟩:=Ri.own ho (fun j=>Qa8 (hu j).1 (hu j).2)
  rw[if_pos hz]
  exact⟨hb,a',c',rfl,hri⟩
 ·refine(Xjs a cap l w hr hn hz).mono ?_
  rintro e w' ⟨rfl,hb⟩
  rw[if_neg hz]
  exact⟨hb,rfl⟩
end
section
open Go.RowKit Lz
def Xds(b:List Int)(i:Nat):List Tkz->List Int×Int×Int
 | []=>(b,0,0)
 | t::r=>if Qio t b.length=0 then Xds (Qgu b t) (i+1) r else ([],(i:Int),Qio t b.length)
def Qfu(l:List Tkz):List Int×Int×Int:=Xds [] 0 l
def Qtd(l:List Tkz)(w:World)(e:Ending)(w':World):Prop:=
 ∃v,e= .returned (.tuple #[v,.int .i64 (Qfu l).2.1,.int .i64 (Qfu l).2.2])∧Ob w' w.heap.size v (Qfu l).1∧Below w.heap.size w w'
theorem Xgc{t:Tkz}{b:List Int}(h:Qio t b.length=0):(Qgu b t).length<=65536∧(Qgu b t).length=b.length+t.2.1.toNat:=by
 unfold Qgu
 rcases Qwm h with ⟨h1,h2,h3⟩ | ⟨h1,h2,h3,h4,h5,h6⟩
 ·rw[if_pos h1];simp[h2];omega
 ·rw[if_neg (by omega),Qo3];omega
theorem Qz7(l:List Tkz)(k:Nat)(h:k<l.length):l.drop k=l.getD k tk0::l.drop (k+1):=by
 rw[List.drop_eq_getElem_cons h]
 simp[List.getD,h]
theorem Qy4(t:Tkz)(m:Int):Qio t m=0∨Qio t m=60∨Qio t m=61∨Qio t m=2:=by
 unfold Qio
 split
 ·simp
 ·split
  ·simp
  ·split<;>simp
theorem Qg2(a:Option Addr)(cap:Nat)(l:List Tkz)(w:World)(hr:Rt w a cap l)(hn:l.length<=100000):
 Calls Tryz.prog 119 #[.slice a l.length cap] w (Qtd l w):=by
 unfold Qtd
 have hroom:=hr.room
 have hmost:=hr.most
 unfold maxLen at hmost
 have HR:=hid hr
 obtain⟨len,hle⟩:∃n,n=l.length:=⟨_,rfl⟩
 have HL:=hid hle
 rw[<-hle] at hn hroom|-
 have HF0:Hid (Qfu l=Xds [] 0 (l.drop 0)):=rfl
 clear hr hle
 go_enter Tryz.func119,Tryz.ntmps119
 go_wp2
 go_loopw [5,11] (fun x5 x11 wr=>∃(k:Nat) (b:List Int),k<=len∧x11= .int .i64 (k:Int)∧b.length<=65536∧Ob wr w.heap.size x5 b∧Below w.heap.size w wr∧Hid (Qfu l=Xds b k (l.drop k))) (fun _ x11 _=>len-(intOf x11).toNat)
 case atStart=>exact⟨0,[],by omega,rfl,by simp,Xhr _ _,Below.refl _ _,HF0⟩
 case round=>
  clear HF0
  obtain⟨k,b,hk,rfl,hbl,hown,hbel,HF⟩:=hrel
  by_cases hlt:k<len
  ·have hkz:(k:Int)<(len:Int):=by omega
   obtain⟨g,off,rfl,hbw,hc⟩:=HR.out.cells (by rw[<-HL.out];omega)
   obtain⟨c0,c1,c2⟩:=hc k (by rw[<-HL.out];exact hlt)
   have d0:=(hbel.cell (p:=⟨g,off+k*3,none⟩) hbw).trans c0
   have d1:=(hbel.cell (p:=⟨g,off+k*3+1,none⟩) hbw).trans c1
   have d2:=(hbel.cell (p:=⟨g,off+k*3+2,none⟩) hbw).trans c2
   have HFT:=hid (Qxq (l.getD k tk0) (b.length:Int) (wr.alloc (.cells (zC (l.getD k tk0)) 109)) (by omega) (by omega))
   have HGW:Hid (Qio (l.getD k tk0) b.length=0->∀v W,Ob W w.heap.size v b->w.heap.size<=W.heap.size->Calls Tryz.prog 144 #[v,.agg (zC (l.getD k tk0))] W fun e w'=>∃v',e= .returned v'∧Ob w' w.heap.size v' (Qgu b (l.getD k tk0))∧Below w.heap.size W w'):=fun h v W h1 h2=>Qw9 (l.getD k tk0) b v w.heap.size W h1 h h2
   have HGL:=hid (fun h=>Xgc (t:=l.getD k tk0) (b:=b) h)
   have HDR:Hid (Qfu l=if Qio (l.getD k tk0) b.length=0 then Xds (Qgu b (l.getD k tk0)) (k+1) (l.drop (k+1)) else ([],(k:Int),Qio (l.getD k tk0) b.length)):=by
    show _=_
    rw[HF.out,Qz7 l k (by rw[<-HL.out];exact hlt)]
    rfl
   have hfs:=Qy4 (l.getD k tk0) b.length
   clear hc c0 c1 c2 HF
   generalize l.getD k tk0=t at *
   have hv5:∃(a5:Option Addr) (c5:Nat),u5= .slice a5 b.length c5:=by
    rcases hown.2 with ⟨hv,h0⟩ | ⟨g',cap',cur',hv,_⟩
    ·exact⟨none,0,by rw[hv,h0]⟩
    ·exact⟨some ⟨g',0,none⟩,cap',hv⟩
   obtain⟨a5,c5,rfl⟩:=hv5
   obtain⟨d,n,x⟩:=t
   unfold zC at HFT HGW
   dsimp only at *
   have hbA:=Qaa wr (.cells #[.int .i64 d,.int .i64 n,.int .u8 x] 109)
   have HOA:=hid (hown.alloc (.cells #[.int .i64 d,.int .i64 n,.int .u8 x] 109))
   have HBA:=hid (Bn hbel hbA)
   have e0:(wr.alloc (.cells #[.int .i64 d,.int .i64 n,.int .u8 x] 109)).heap[wr.heap.size]?=some (.cells #[.int .i64 d,.int .i64 n,.int .u8 x] 109 (0,0)):=Qaj _ _
   have HE0:=hid e0
   obtain⟨f,hf⟩:∃f,f=Qio (d,n,x) (b.length:Int):=⟨_,rfl⟩
   rw[<-hf] at HFT HGW HGL HDR hfs
   clear hf
   obtain⟨bn,hbn⟩:∃bn,bn=b.length:=⟨_,rfl⟩
   have HBN:=hid hbn
   rw[<-hbn] at HFT hbl|-
   rw[<-hbn] at HOA
   clear hbA e0 hbel hown hbn
   go_wp2_with fail
   refine HFT.out.mono ?_
   rintro _ w2 ⟨rfl,hb2⟩
   have e2:=(hb2.block wr.heap.size (by simp)).trans HE0.out
   have m0:=Joins.cell_of_block e2 0
   have m1:=Joins.cell_of_block e2 1
   have m2:=Joins.cell_of_block e2 2
   simp only[List.getElem?_toArray,List.getElem?_cons_zero,List.getElem?_cons_succ] at m0 m1 m2
   have HO2:=hid (Qbx HOA.out hb2)
   have HB2:=hid (Bn HBA.out hb2)
   clear hb2 HFT e2 HE0 HOA HBA d0 d1 d2
   by_cases hf0:f=0
   ·rw[if_pos hf0] at HDR
    have HG2:=hid (HGW.out hf0)
    have hgl:=HGL.out hf0
    rw[hf0]
    clear hf0 hfs HGW HGL
    go_wp2_with fail
    refine(HG2.out _ w2 (by have:=HO2.out;rwa[HBN.out] at this|-) HB2.out.size).mono ?_
    rintro _ w3 ⟨v',rfl,hown3,hb3⟩
    have HB3:=hid (HB2.out.trans hb3)
    have HO3:=hid hown3
    clear hb3 hown3 HG2 m0 m1 m2
    go_wp2
    exact⟨⟨k+1,_,by omega,by go_num,hgl.1,HO3.out,HB3.out,HDR⟩,by simp[intOf];omega⟩
   ·rw[if_neg hf0] at HDR
    have hfb:(f != 0)=true:=by simpa using hf0
    clear hf0 hfs HGW HGL
    go_wp2
    go_ret3
    exact⟨.slice none 0 0,by rw[HDR.out];rfl,by rw[HDR.out];exact Xhr _ _,HB2.out⟩
  ·obtain rfl:k=len:=by omega
   have hkz:¬(k:Int)<(k:Int):=by omega
   have HO:Hid (Qfu l=(b,0,0)):=by
    show _=_
    rw[HF.out,List.drop_eq_nil_of_le (by rw[<-HL.out];omega)]
    rfl
   go_wp2
   go_ret3
   exact⟨_,by rw[HO.out];rfl,by rw[HO.out];exact hown,hbel⟩
theorem Ri.text{w:World}{a:Option Addr}{cap:Nat}{zs:List Int}(h:Ri w .u8 a cap zs)(W:World)(hb:Below w.heap.size w W):
 (convert 22 9 (.slice a zs.length cap)).run Tryz.prog W= .ok (.string (strOfNums zs)) W:=by
 have h':=h.later hb
 by_cases h0:0<zs.length
 ·obtain⟨b,off,rfl,_,hc⟩:=h'.cells h0
  exact run_convert_bytes_arg (P:=Tryz.prog) W 22 5 Tryz.underlying22 Tryz.underlying5 b off zs.length cap zs rfl hc 9 Tryz.underlying9
 ·have hz:zs= []:=List.length_eq_zero_iff.1 (by omega)
  subst hz
  rw[run_convert_bytes_string W 22 9 5 a _ cap Tryz.underlying22 Tryz.underlying5 Tryz.underlying9]
  cases a with
  | none=>rfl
  | some ad=>
    rw[show([]:List Int).length=0 from rfl]
    rw[run_bytesToString W ad 0 cap [] (by simpa using run_loadCells_list (P:=Tryz.prog) W ad [] (by intro j v hj;simp at hj))]
    rfl
end
section
open Go.RowKit
theorem Xg1{xs:List Int}(h:∀j,(Lit.int .u8 (xs.getD j 0)).wf=true):∀x∈xs,0<=x∧x<=255:=by
 intro x hx
 obtain⟨j,hj,rfl⟩:=List.getElem_of_mem hx
 have:=wf_u8 (h j)
 simpa [List.getD,List.getElem?_eq_getElem hj] using this
theorem Xcv{xs:List Int}(h:∀x∈xs,0<=x∧x<=255):(xs.map fun n=>UInt8.ofNat n.toNat).map (fun u=>(u.toNat:Int))=xs:=by
 rw[List.map_map]
 conv=>rhs;rw[<-List.map_id xs]
 refine List.map_congr_left (fun z hz=>?_)
 have:=h z hz
 simp
 omega
theorem str_eq{xs ys:List Int}(h1:∀j,(Lit.int .u8 (xs.getD j 0)).wf=true)(h2:∀j,(Lit.int .u8 (ys.getD j 0)).wf=true):((strOfNums xs).toList==(strOfNums ys).toList)=(xs==ys):=by
 rw[ByteArray.toList_eq,ByteArray.toList_eq,strOfNums_data,strOfNums_data]
 by_cases e:xs=ys
 ·subst e;simp
 ·have:¬(xs.map fun n=>UInt8.ofNat n.toNat)=(ys.map fun n=>UInt8.ofNat n.toNat):=fun q=>e (by
   rw[<-Xcv (Xg1 h1),<-Xcv (Xg1 h2),q])
  rw[beq_eq_false_iff_ne.2 this,beq_eq_false_iff_ne.2 e]
theorem Qs6(a b:Option Addr)(cap cap2:Nat)(xs ys:List Int)(w:World)(h1:Ri w .u8 a cap xs)(h2:Ri w .u8 b cap2 ys):
 Calls Tryz.prog 142 #[.slice a xs.length cap,.slice b ys.length cap2] w fun e w'=>e= .returned (.bool (xs==ys))∧w'=w:=by
 have e1:=h1.text w (Below.refl _ _)
 have e2:=h2.text w (Below.refl _ _)
 have HS:=hid (str_eq h1.fits h2.fits)
 clear h1 h2
 generalize xs.length=n at *
 generalize ys.length=m at *
 go_enter Tryz.func142,Tryz.ntmps142
 go_wp2_with fail
 rw[HS.out]
 go_ret
 exact⟨rfl,rfl⟩
theorem Xl1(w:World)(a:Option Addr)(n c n' c':Nat):(binOp .eql 22 (.slice a n c) (.slice none n' c')).run Tryz.prog w= .ok (.bool a.isNone) w:=Lib.run_eql_slice_nil w _ _ a n c n' c' Tryz.underlying22
theorem Qxf(n cap:Nat)(w:World):Calls Tryz.prog 117 #[.slice none n cap] w fun e w'=>e= .returned (.slice none 0 0)∧w'=w:=by
 have Q:=Xl1
 go_enter Tryz.func117,Tryz.ntmps117
 go_wp2
 go_ret
 exact⟨rfl,rfl⟩
theorem Qtg(ad:Addr)(cap:Nat)(xs:List Int)(w:World)(h:Ri w .u8 (some ad) cap xs)(hn:xs.length<=1000000):
 Calls Tryz.prog 117 #[.slice (some ad) xs.length cap] w fun e w'=>∃v,e= .returned v∧w'.ownsRow w.heap.size 5 1 v xs.length (xs.map (Value.int .u8))∧Below w.heap.size w w':=by
 have Q:=Xl1
 have hown:(w.alloc (.cells #[] 5)).ownsRow w.heap.size 5 1 (.slice (some ⟨w.heap.size,0,none⟩) 0 0) ([]:List Int).length (([]:List Int).map (Value.int .u8)):=⟨rfl,.inr ⟨w.heap.size,0,#[],rfl,Nat.le_refl _,Qag _ _,Nat.le_refl _,by unfold maxLen;omega,rfl,rfl⟩⟩
 have hb1:=Qab w (.cells #[] 5)
 have s1:(w.alloc (.cells #[] 5)).heap.size=w.heap.size+1:=by simp
 have hr1:=h.later hb1
 have HQ3:Hid (([]:List Int).length+xs.length<=10000000):=by show _<=_;simp;omega
 clear h hn
 go_enter Tryz.func117,Tryz.ntmps117
 go_wp2_with (at_builtin;refine Qch _ rfl _ _ rfl w.heap.size _ [] rfl hown (some ad) cap xs rfl hr1 HQ3.out (by omega) ?_)
 intro v2 w2 hown2 hgrow2
 have hb2:Below w.heap.size w w2:=hb1.grown hgrow2 (by omega) (fun j hj=>(hown.lt j hj).1)
 clear hown hgrow2 hr1
 go_wp2
 go_ret
 exact⟨_,rfl,hown2,hb2⟩
theorem Qxj(p:Addr)(w:World):
 CallsD Tryz.prog 156 #[.pointer (some p)] .returning w fun e u' w'=>e= .returned (.tuple #[])∧u'= .returning∧w'=w:=by
 refine callsD_of_wpS Tryz.func156 rfl fun c₀ cs hu=>?_
 apply wpS_seq
 apply wpS_region
 simp[wpOpsS,go_sem,recoverD,hu,Tryz.ntmps156,Exit.thenS]
 refine wpS_of_wp ?_
 change Code.wp _ _ _ ⟨#[.pointer (some p),.nilIface,undef,undef,.nilIface,undef,undef,undef,undef,undef,undef,undef,undef,undef,undef],[]⟩ w
 generalize hQ:(fun(x:Exit) (a:Act) (w':World)=>bodyPostS Tryz.prog Tryz.f156 c₀ cs (fun e u' w'=>e=Ending.returned (Value.tuple #[])∧u'=FrameMode.returning∧w'=w) x a (c₀::cs) w')=Q
 go_wp2
 subst hQ
 refine⟨rfl,.returning,?_,.tuple #[],results_none rfl _ _ _,rfl,rfl,rfl⟩
 cases c₀
 simp_all
theorem Qwf(W:World)(v:Value):(Instr.typeAssert (.iface 169 v) 20 169 true).run Tryz.prog W= .ok (.tuple #[v,.bool true]) W:=by kernel_rfl
theorem Qt5(p:Addr)(x:Int)(w:World)(hc:w.cell? p=some (.int .i64 x))(hz:w.frozen? p=false)(hp:p.block<w.heap.size):
 CallsD Tryz.prog 156 #[.pointer (some p)] (.panicking Qd4) w fun e u' w'=>e= .returned (.tuple #[])∧u'= .panicking [{v:= .iface 169 (.agg #[]),recovered:=true}]∧w'=(w.alloc (.cells #[] 169)).setCell p (.int .i64 70):=by
 refine callsD_of_wpS Tryz.func156 rfl fun c₀ cs hu=>?_
 apply wpS_seq
 apply wpS_region
 simp[wpOpsS,go_sem,recoverD,hu,Tryz.ntmps156,Exit.thenS]
 refine wpS_of_wp ?_
 have hb:=Qab w (.cells #[] 169)
 have hc2:(w.alloc (.cells #[] 169)).cell? p=some (.int .i64 x):=(hb.cell hp).trans hc
 have hz2:(w.alloc (.cells #[] 169)).frozen? p=false:=(hb.frozen hp).trans hz
 have A:=Qwf
 clear hc hz hb
 change Code.wp _ _ _ ⟨#[.pointer (some p),.iface 169 (.agg #[]),undef,undef,.iface 169 (.agg #[]),undef,undef,undef,undef,undef,undef,undef,undef,undef,undef],[]⟩ w
 go_wp2
 exact⟨rfl,_,rfl,.tuple #[],results_none rfl _ _ _,rfl,rfl,rfl⟩
theorem Qsr(p:Addr)(w:World)(G:Option Value->World->Prop)
 (hC:Calls Tryz.prog 140 #[.pointer (some p)] (w.alloc (.cells #[.int .i64 0] 24)) fun e w'=>Below (w.alloc (.cells #[.int .i64 0] 24)).heap.size (w.alloc (.cells #[.int .i64 0] 24)) w'∧((e= .panicked Qd4∧G none w')∨∃v,e= .returned v∧G (some v) w')) :
 Calls Tryz.prog 139 #[.func (.func 140) #[] #[.pointer (some p)]] w fun e w'=>Below w.heap.size w w'∧((∃w1,G none w1∧w'=(w1.alloc (.cells #[] 169)).setCell ⟨w.heap.size,0,none⟩ (.int .i64 70)∧e= .returned (.tuple #[.slice none 0 0,.int .i64 70]))∨∃v w1,G (some v) w1∧w'=w1.setCell ⟨w.heap.size,0,none⟩ (.int .i64 0)∧e= .returned (.tuple #[v,.int .i64 0])):=by
 have hmf:∀(fn:Fn) (first cap:Array Value) (w:World),(Instr.makeFunc fn first cap).run Tryz.prog w= .ok (.func fn first cap) w:=fun _ _ _ _=>rfl
 have HC:=hid hC
 clear hC
 go_enter_defers Tryz.func139,Tryz.ntmps139
 go_wp2_with fail
 refine HC.out.mono ?_
 have e0:=Qag w (.cells #[.int .i64 0] 24)
 have hb0:=Qab w (.cells #[.int .i64 0] 24)
 have s0:(w.alloc (.cells #[.int .i64 0] 24)).heap.size=w.heap.size+1:=by simp
 rintro e w1 ⟨hb,⟨rfl,hG⟩ | ⟨v,rfl,hG⟩⟩
 ·have e1:=(hb.block w.heap.size (by omega)).trans e0
  have c1:=Joins.cell_of_block e1 0
  have u1:=Joins.unfrozen_of_block e1 0
  simp only[List.getElem?_toArray,List.getElem?_cons_zero] at c1
  have hB:=Bn hb0 hb
  have hs1:=hb.size
  have hB2:=(hB.alloc hB.size (.cells #[] 169)).setCell (p:=⟨w.heap.size,0,none⟩) (Nat.le_refl _) (.int .i64 70)
  have c2:((w1.alloc (.cells #[] 169)).setCell ⟨w.heap.size,0,none⟩ (.int .i64 70)).cell? ⟨w.heap.size,0,none⟩=some (.int .i64 70):=by
   have e2:=Qai w1 (.cells #[] 169) e1
   have e3:=Joins.block_setCell (v:= .int .i64 70) (i:=0) e2
   simpa using Joins.cell_of_block e3 0
  have HB2:=hid hB2
  have HG:=hid hG
  clear hB2 hB hb hb0 s0 hG HC e0
  refine leaves_cons (f:=156) (args:= #[.pointer (some ⟨w.heap.size,0,none⟩)]) (by simp) (by simp[go_sem]) ?_
  refine(Qt5 ⟨w.heap.size,0,none⟩ 0 w1 c1 u1 (by have:=(Array.getElem?_eq_some_iff.1 e1).1;exact this)).mono ?_
  rintro e u' w'' ⟨rfl,rfl,rfl⟩
  generalize hW:(w1.alloc (.cells #[] 169)).setCell ⟨w.heap.size,0,none⟩ (.int .i64 70)=W at *
  have HW:=hid hW
  clear hW
  simp[Leaves,settle,results,Tryz.results139,go_sem,c2]
  exact⟨HB2.out,w1,HG.out,HW.out.symm⟩
 ·have e1:=(hb.block w.heap.size (by omega)).trans e0
  have c1:=Joins.cell_of_block e1 0
  have u1:=Joins.unfrozen_of_block e1 0
  simp only[List.getElem?_toArray,List.getElem?_cons_zero] at c1
  have hB:=Bn hb0 hb
  have hB2:=hB.setCell (p:=⟨w.heap.size,0,none⟩) (Nat.le_refl _) (.int .i64 0)
  have c2:(w1.setCell ⟨w.heap.size,0,none⟩ (.int .i64 0)).cell? ⟨w.heap.size,0,none⟩=some (.int .i64 0):=by
   have e3:=Joins.block_setCell (v:= .int .i64 0) (i:=0) e1
   simpa using Joins.cell_of_block e3 0
  have HB2:=hid hB2
  have HG:=hid hG
  clear hB2 hB hb hb0 s0 hG HC e0 e1
  go_wp2_with fail
  refine leaves_cons (f:=156) (args:= #[.pointer (some ⟨w.heap.size,0,none⟩)]) (by simp) (by simp[go_sem]) ?_
  refine(Qxj ⟨w.heap.size,0,none⟩ _).mono ?_
  rintro e u' w'' ⟨rfl,rfl,hw⟩
  obtain rfl:=hw.symm
  clear hw
  generalize hW:w1.setCell ⟨w.heap.size,0,none⟩ (.int .i64 0)=W at *
  have HW:=hid hW
  clear hW
  simp[Leaves,settle,results,Tryz.results139,go_sem,c2]
  exact⟨HB2.out,v,w1,HG.out,HW.out.symm,rfl⟩
end
section
open Go.RowKit Hf
def Qyo(zs:List Int):Option (List Tkz):=
 match Qmg zs with
 | none=>none
 | some (l,_)=>if (Qcd l).2=0∧Qb2 l=zs then some l else none
def Qzi(zs:List Int)(w:World)(e:Ending)(w':World):Prop:=
 Below w.heap.size w w'∧match Qyo zs with
 | none=>e= .panicked Qd4
 | some l=>∃a c,e= .returned (.slice a l.length c)∧Rt w' a c l
theorem Xgg(gb:Nat)(a:Option Addr)(cap:Nat)(zs:List Int)(w:World)(hbx:w.cell? ⟨gb,0,none⟩=some (.slice a zs.length cap))(hr:Ri w .u8 a cap zs)(hn:zs.length<=4200):
 Calls Tryz.prog 140 #[.pointer (some ⟨gb,0,none⟩)] w (Qzi zs w):=by
 have HBX:=hid (Qjj hbx)
 have e0:=Qag w (.cells #[.slice none 0 0,.int .u8 0,.int .i64 0] 206)
 have hb0:=Qab w (.cells #[.slice none 0 0,.int .u8 0,.int .i64 0] 206)
 have HR:=hid hr
 have HB0:=hid hb0
 have q63:(Tryz.prog.info? 206).map (·.size)=some (#[Value.slice a zs.length cap,Value.int .u8 0,Value.int .i64 0]:Array Value).size:=by kernel_rfl
 have o63:(#[Value.slice a zs.length cap,Value.int .u8 0,Value.int .i64 0]:Array Value).all (·.oneCell')=true:=by simp[Value.oneCell']
 clear hr hb0
 obtain⟨len,hl⟩:∃n,n=zs.length:=⟨_,rfl⟩
 have HL:=hid hl
 rw[<-hl] at hbx hn q63 o63
 clear hl
 unfold Qzi
 obtain⟨R,hRR⟩:∃R,R=Qyo zs:=⟨_,rfl⟩
 rw[<-hRR]
 have HU:Hid (R=match Qmg zs with | none=>none | some (l,_)=>if (Qcd l).2=0∧Qb2 l=zs then some l else none):=hRR
 clear hRR
 go_enter Tryz.func140,Tryz.ntmps140
 go_wp2_with (refine wpList_store_rowTo rfl 206 _ _ rfl rfl w.heap.size #[.slice a len cap,.int .u8 0,.int .i64 0] rfl rfl 206 _ e0 q63 rfl o63 ?_)
 have hRr:Rr w ((w.alloc (.cells #[.slice none 0 0,.int .u8 0,.int .i64 0] 206)).setRow w.heap.size #[.slice a len cap,.int .u8 0,.int .i64 0]) w.heap.size 206 [.int .u8 0,.int .i64 0] a cap zs:=
  ⟨by rw[<-HL.out];exact setRow_heap _ _ _ _ _ _ e0,HR.out,below_setRow HB0.out (Nat.le_refl _) _,Nat.le_refl _⟩
 have HT:=hid (Qyd w _ w.heap.size a cap zs hRr)
 clear hRr e0
 generalize (w.alloc (.cells #[.slice none 0 0,.int .u8 0,.int .i64 0] 206)).setRow w.heap.size #[.slice a len cap,.int .u8 0,.int .i64 0]=w1 at *
 refine HT.out.mono ?_
 intro e w2 he
 unfold Xby at he
 cases ht:Qmg zs with
 | none=>
   rw[ht] at he HU
   obtain⟨rfl,_,hb⟩:=he
   have hU:=HU.out
   dsimp only at hU
   subst hU
   exact⟨rfl,hb,rfl⟩
 | some ls=>
   obtain⟨l,s'⟩:=ls
   rw[ht] at he HU
   obtain⟨v,rfl,hown,hq,_⟩:=he
   obtain⟨hin,hle⟩:=Qsb ht
   obtain⟨a2,c2,rfl,hrt⟩:=Rt.ownZ hown hin
   have hb2:=hq.bel
   have HP:=hid (Qoa a2 c2 l w2 hrt (by have:=HL.out;omega))
   have HRT:=hid hrt
   have HB2:=hid hb2
   dsimp only at HU
   clear hown hq hin hle hrt hb2 ht HT
   obtain⟨ll,hll⟩:∃n,n=l.length:=⟨_,rfl⟩
   have HLL:=hid hll
   rw[<-hll] at HP|-
   clear hll
   go_wp2_with fail
   refine HP.out.mono ?_
   rintro e w3 ⟨hb3,he⟩
   have hB3:=Bn HB2.out hb3
   have bx3:w3.cell? ⟨gb,0,none⟩=some (.slice a len cap):=(hB3.cell (p:=⟨gb,0,none⟩) HBX.out).trans hbx
   have HB3:=hid hB3
   have HRT3:=hid (HRT.out.later hb3)
   by_cases hz:(Qcd l).2=0
   ·rw[if_pos hz] at he
    obtain⟨a3,c3,rfl,hri⟩:=he
    have HE:=hid (Qs6 a3 a c3 cap (Qb2 l) zs w3 hri (HR.out.later hB3))
    clear hri hb3 hB3 hbx
    rw[<-HL.out] at HE
    generalize hpb:(Qb2 l).length=pl at *
    clear hpb
    go_wp2_with fail
    refine HE.out.mono ?_
    rintro _ w4 ⟨rfl,hw⟩
    obtain rfl:=hw.symm
    clear hw HE
    by_cases hp:Qb2 l=zs
    ·have hpb:(Qb2 l==zs)=true:=beq_iff_eq.2 hp
     have hU:=HU.out
     rw[if_pos ⟨hz,hp⟩] at hU
     subst hU
     rw[hpb]
     clear hpb HU
     go_wp2_with fail
     refine(Qct w3).mono ?_
     rintro _ w4 ⟨rfl,hw⟩
     obtain rfl:=hw.symm
     clear hw
     go_wp2_with fail
     go_ret
     refine⟨HB3.out,a2,c2,?_,HRT3.out⟩
     rw[<-HLL.out]
     rfl
    ·have hpb:(Qb2 l==zs)=false:=beq_eq_false_iff_ne.2 hp
     have hU:=HU.out
     rw[if_neg (fun q=>hp q.2)] at hU
     subst hU
     rw[hpb]
     clear hpb HU
     go_wp2_with fail
     refine(Qd8 w3).mono ?_
     rintro _ w4 ⟨rfl,rfl⟩
     exact⟨rfl,HB3.out,rfl⟩
   ·rw[if_neg hz] at he
    subst he
    have hU:=HU.out
    rw[if_neg (fun q=>hz q.1)] at hU
    subst hU
    generalize (Qcd l).2=z2 at *
    have hbeq:(z2==0)=false:=beq_eq_false_iff_ne.2 hz
    have hbne:decide (z2=0)=false:=decide_eq_false hz
    clear hb3 hB3 hbx HU
    go_wp2_with fail
    refine(Qd8 w3).mono ?_
    rintro _ w4 ⟨rfl,rfl⟩
    exact⟨rfl,HB3.out,rfl⟩
theorem Qju{w:World}{g i:Nat}{cur:Array Value}{t:TypeId}{fr:Nat×Nat}{v:Value}(hg:w.heap[g]?=some (.cells cur t fr))(hv:cur[i]?=some v):w.setCell ⟨g,i,none⟩ v=w:=by
 rw[setCell_eq_setRow w g i cur t fr v hg]
 have e:cur.setIfInBounds i v=cur:=by
  apply Array.ext_getElem?
  intro j
  rw[Array.getElem?_setIfInBounds]
  split
  ·rename_i h
   subst h
   split
   ·exact hv.symm
   ·rename_i h2
    simp[h2] at hv
  ·rfl
 rw[e]
 exact setRow_self w g cur t fr hg
def Qyv(zs:List Int)(w:World)(e:Ending)(w':World):Prop:=
 Below w.heap.size w w'∧match Qyo zs with
 | none=>e= .returned (.tuple #[.slice none 0 0,.int .i64 70])
 | some l=>∃a c,e= .returned (.tuple #[.slice a l.length c,.int .i64 0])∧Rt w' a c l
theorem Quz(a:Option Addr)(cap:Nat)(zs:List Int)(w:World)(hr:Ri w .u8 a cap zs)(hn:zs.length<=4200):
 Calls Tryz.prog 118 #[.slice a zs.length cap] w (Qyv zs w):=by
 have hmf:∀(fn:Fn) (first cap:Array Value) (w:World),(Instr.makeFunc fn first cap).run Tryz.prog w= .ok (.func fn first cap) w:=fun _ _ _ _=>rfl
 have hb1:=Qab w (.cells #[.slice a zs.length cap] 22)
 have e1:=Qag w (.cells #[.slice a zs.length cap] 22)
 have s1:(w.alloc (.cells #[.slice a zs.length cap] 22)).heap.size=w.heap.size+1:=by simp
 generalize hW1:w.alloc (.cells #[.slice a zs.length cap] 22)=w1 at *
 have hb2:=Qab w1 (.cells #[.int .i64 0] 24)
 have e2:=Qag w1 (.cells #[.int .i64 0] 24)
 have hcl:=Xgg w.heap.size a cap zs (w1.alloc (.cells #[.int .i64 0] 24)) ((hb2.cell (p:=⟨w.heap.size,0,none⟩) (by show w.heap.size<w1.heap.size;omega)).trans (by simpa using Joins.cell_of_block e1 0)) ((hr.later hb1).later hb2) hn
 have HCW:=hid (Qsr ⟨w.heap.size,0,none⟩ w1 (fun o w'=>Below (w1.alloc (.cells #[.int .i64 0] 24)).heap.size (w1.alloc (.cells #[.int .i64 0] 24)) w'∧match Qyo zs with | none=>o=none | some l=>∃a c,o=some (.slice a l.length c)∧Rt w' a c l) (hcl.mono (by
  rintro e w' ⟨hb,he⟩
  refine⟨hb,?_⟩
  cases hu:Qyo zs with
  | none=>rw[hu] at he;exact .inl ⟨he,hb,rfl⟩
  | some l=>
    rw[hu] at he
    obtain⟨a2,c2,rfl,hrt⟩:=he
    exact .inr ⟨_,rfl,hb,a2,c2,rfl,hrt⟩)))
 have HB1:=hid hb1
 have HE2:=hid e2
 have HW1:=hid hW1
 have HN:=hid hn
 clear hcl hb2 e2 hb1 s1 hr
 have c1:=Joins.cell_of_block e1 0
 simp only[List.getElem?_toArray,List.getElem?_cons_zero] at c1
 unfold Qyv
 generalize Qyo zs=R at *
 generalize zs.length=len at *
 have hlb:¬(262144:Int)<(len:Int):=by have:=HN.out;omega
 clear hn e1 hW1
 have HC1:=hid c1
 clear c1
 go_enter Tryz.func118,Tryz.ntmps118
 go_wp2_with fail
 rw[HW1.out]
 refine HCW.out.mono ?_
 rintro e w2 ⟨hb,⟨wq,⟨hbq,hG⟩,hw,rfl⟩ | ⟨v,wq,⟨hbq,hG⟩,hw,rfl⟩⟩
 ·have hR:R=none:=by
   cases R with
   | none=>rfl
   | some l=>obtain⟨_,_,h,_⟩:=hG;cases h
  subst hR
  have HB:=hid (Bn HB1.out hb)
  clear hG hbq hw hb HCW
  go_wp2_with fail
  go_ret2
  exact⟨HB.out,rfl⟩
 ·have e3:=(hbq.block w1.heap.size (by simp)).trans HE2.out
  rw[Qju e3 (by simp)] at hw
  subst hw
  cases R with
  | none=>cases hG
  | some l=>
    obtain⟨a2,c2,h,hrt⟩:=hG
    have h':=Option.some.inj h
    subst h'
    have HB:=hid (Bn HB1.out hb)
    have HRT:=hid hrt
    clear hrt hbq hb HCW h e3
    obtain⟨ll,hll⟩:∃n,n=l.length:=⟨_,rfl⟩
    have HLL:=hid hll
    rw[<-hll]
    clear hll
    go_wp2_with fail
    go_ret2
    exact⟨HB.out,a2,c2,by rw[<-HLL.out];rfl,HRT.out⟩
end
end Go.Proofs.YtibjlbcnapoblaaGreatDoor
