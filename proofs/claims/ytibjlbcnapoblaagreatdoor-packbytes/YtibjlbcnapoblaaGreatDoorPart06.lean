/- Contracts and facts. -/
import Derived.Test.YtibjlbcnapoblaaGreatDoorPart05
import Derived.RangeFuncBound
import Derived.RangeFuncCalls
import Derived.RangeFuncLeaves
import Derived.Shelf.Abstract
import Derived.Shelf.RegionOpen
import Derived.OwnWalkIn
import Derived.TacticsInMore
import Derived.LoopNIn
import Derived.LoopIn
import Derived.Maps.OwnIn
import Derived.Maps.Views
import Derived.DeepKeys4
import Derived.WideKeyPair
namespace Go.Proofs.YtibjlbcnapoblaaGreatDoor
set_option maxRecDepth 100000
set_option maxHeartbeats 6400000
section
open Go.RowKit Go.Shelf Lz
attribute [local go_sem] Oper.semAt_some
structure Lv (n:Nat) (v:Value) (q:Nat) (k:Int) (t:Tok) (s:Nat) (W:World):Prop where
 b:W.heap[n]?=some (.cells #[v] 22 (0,0))
 at':W.heap[n+1]?=some (.cells #[.int .i64 (q:Int)] 3 (0,0))
 res:Tb W (n+1+1) (0,0,0)
 tok:Tb W (n+1+1+1) t
 most:W.heap[n+1+1+1+1]?=some (.cells #[.int .i64 k] 3 (0,0))
 beat:W.heap[n+1+1+1+1+1]?=some (.cells #[.int .i64 (s:Int)] 3 (0,0))
theorem Qek{W W':World}{row:Option Nat}{B:Nat}{cs:Array Value}{t:TypeId}{m:Nat×Nat}(h:W.heap[B]?=some (.cells cs t m))(hg:W.grownBy W' row)(hr:∀r,row=some r->∃o:Obj,W.heap[r]?=some o∧o.isCells=false):W'.heap[B]?=some (.cells cs t m):=by
 refine(hg.block B (Array.getElem?_eq_some_iff.1 h).1 (fun e=>?_)).trans h
 obtain⟨o,ho,hc⟩:=hr B e.symm
 rw[h] at ho
 cases ho
 cases hc
theorem Lv.kept{n:Nat}{v:Value}{q:Nat}{k:Int}{t:Tok}{s:Nat}{W W':World}{row:Option Nat}(h:Lv n v q k t s W)(hg:W.grownBy W' row)(hr:∀r,row=some r->∃o:Obj,W.heap[r]?=some o∧o.isCells=false):Lv n v q k t s W':=
 ⟨Qek h.b hg hr,Qek h.at' hg hr,Qek h.res hg hr,Qek h.tok hg hr,Qek h.most hg hr,Qek h.beat hg hr⟩
def Qfc(W:World)(n:Nat)(t:Tok)(s:Nat):World:=(Qna W (n+1+1+1) t).setCell ⟨n+1+1+1+1+1,0,none⟩ (.int .i64 (s:Int))
theorem Lv.put{n:Nat}{v:Value}{q:Nat}{k:Int}{t:Tok}{s:Nat}{W:World}(h:Lv n v q k t s W)(t':Tok)(s':Nat):Lv n v q k t' s' (Qfc W n t' s'):=by
 have hb:(Qna W (n+1+1+1) t').heap[n+1+1+1+1+1]?=_:=h.tok.other (t':=t') (by omega) h.beat
 unfold Qfc
 refine⟨?_,?_,?_,?_,?_,?_⟩
 ·rw[Qa4 hb (by omega)];exact h.tok.other (by omega) h.b
 ·rw[Qa4 hb (by omega)];exact h.tok.other (by omega) h.at'
 ·unfold Tb;rw[Qa4 hb (by omega)];exact h.tok.other (by omega) h.res
 ·unfold Tb;rw[Qa4 hb (by omega)];exact h.tok.set t'
 ·rw[Qa4 hb (by omega)];exact h.tok.other (by omega) h.most
 ·rw[Joins.block_setCell hb];rfl
theorem Lv.putB{n m:Nat}{v:Value}{q:Nat}{k:Int}{t:Tok}{s:Nat}{w W:World}(h:Lv n v q k t s W)(hb:Below m w W)(hm:m<=n)(t':Tok)(s':Nat):Below m w (Qfc W n t' s'):=by
 unfold Qfc
 exact(h.tok.bel hb (by omega) t').setCell (p:=⟨n+1+1+1+1+1,0,none⟩) (show m<=n+1+1+1+1+1 by omega) _
theorem Qnf(W:World)(n:Nat)(t:Tok)(s:Nat):KeepsOthers W (Qfc W n t s):=by
 unfold Qfc Qna
 exact(((KeepsOthers.setCell _ _ _).trans (KeepsOthers.setCell _ _ _)).trans (KeepsOthers.setCell _ _ _)).trans (KeepsOthers.setCell _ _ _)
theorem KeepsOthers.drewN(W:World)(n:Nat):KeepsOthers W (W.drewN n):=⟨Nat.le_refl _,fun _ _ h _=>h⟩
abbrev Xfc (gf:Nat) (lb:Array Value) (q n₀:Nat) (xs:List (Fin q)) (w:World):Prop:=
 SeqStopsK Fence.wide 9 Tryz.prog gf lb (fun x:Fin q=> #[.int .i64 ((x.val:Nat):Int)]) (Below n₀) (fun ys=>ys=xs) (fun pre=>pre <+: xs) (q+1) w
theorem Qe9{W:World}{B D:Nat}{cs:Array Value}{t:TypeId}{m:Nat×Nat}{o:Obj}{o'':_}(h:W.heap[B]?=some (.cells cs t m))(hD:W.heap[D]?=some (.deferred o'')):(W.putObj D o).heap[B]?=some (.cells cs t m):=
 (World.putObj_heap_other (fun e=>by subst e;rw[h] at hD;cases hD)).trans h
theorem Qvq{q:Nat}(pre:List (Fin q))(x:Fin q):(pre++ [x]).map Fin.val=pre.map Fin.val++ [x.val]:=by simp
theorem map_lt{q:Nat}(pre:List (Fin q)):∀p∈pre.map Fin.val,p<q:=fun p hp=>by
 obtain⟨x,_,rfl⟩:=List.mem_map.1 hp
 exact x.isLt
theorem Qnq{q:Nat}{a b:List (Fin q)}(h:a <+: b):a.map Fin.val <+: b.map Fin.val:=by
 obtain⟨r,rfl⟩:=h
 exact⟨r.map Fin.val,by simp⟩
theorem Quf(bs:List Int)(q g off cap:Nat)(w:World)(hq:q<bs.length)(hcap:bs.length<=cap)(hm:cap<=maxLen)(hL:bs.length<=65536)(hg:g<w.heap.size)
 (hc:∀j,j<bs.length->w.cell? ⟨g,off+j,none⟩=some (.int .u8 (bs.getD j 0)))
 (gf:Nat) (lb:Array Value) (xs:List (Fin q)) (hen:∀args w,(callFunc gf args).run Tryz.prog w= .ok (.enter gf args) w) (hseq:∀W,Below w.heap.size w W->Xfc gf lb q w.heap.size xs W) (hway:bs.length-q<=258) :
 Calls Tryz.prog 97 #[.slice (some ⟨g,off,none⟩) bs.length cap,.int .i64 (q:Int),.func (.func gf) #[] lb] w fun e w'=>e= .returned (.agg (Qnk (Qcu bs q (best bs q (most bs q) (xs.map Fin.val)))))∧Below w.heap.size w w':=by
 have cq:=hc q hq
 have HS:=hid hseq
 have HEN:=hid hen
 have HCC:Hid (∀p k,p+k<=bs.length->q+k<=bs.length->∀W,Below w.heap.size w W->Calls Tryz.prog 125 #[.slice (some ⟨g,off+p,none⟩) (bs.length-p) (cap-p),.slice (some ⟨g,off+q,none⟩) k (cap-q)] W fun e w'=>e= .returned (.int .i64 ((com bs p q k:Nat):Int))∧∃m,w'=W.drewN m):=by
  intro p k hp hk W hW
  refine Qkt bs p q k g (off+p) _ _ g (off+q) _ W (by omega) (by omega) (by omega) (fun j hj=>?_) (fun j hj=>?_)
  ·rw[Nat.add_assoc];exact(hW.cell (p:=⟨g,off+(p+j),none⟩) hg).trans (hc _ (by omega))
  ·rw[Nat.add_assoc];exact(hW.cell (p:=⟨g,off+(q+j),none⟩) hg).trans (hc _ (by omega))
 have HC:=hid hc
 have HZ:Hid (∀s:Nat×Nat,Qcu bs q s=if s.1=0 then (0,1,bs.getD q 0) else (s.1,s.2,0)):=fun _=>rfl
 unfold maxLen at hm
 have hk:most bs q=min (bs.length-q) 258:=rfl
 obtain⟨k,hke⟩:∃k,k=most bs q:=⟨_,rfl⟩
 have HK:Hid (k=most bs q):=hke
 have hk1:k<=258:=by omega
 have hk2:q+k<=bs.length:=by omega
 have hkz:(bs.length:Int)-(q:Int)=(k:Int):=by omega
 have hkz2:(k:Int)<=258:=by omega
 rw[<-hke]
 clear hk hke hen hseq hc hway
 obtain⟨z,hz⟩:∃z,z=bs.getD q 0:=⟨_,rfl⟩
 rw[<-hz] at cq HZ
 obtain⟨L,hLe⟩:∃L,L=bs.length:=⟨_,rfl⟩
 have HL:=hid hLe
 rw[<-hLe] at hq hcap hL hk2 hkz HCC|-
 rw[<-hLe] at HC
 have hqz:(q:Int)<(L:Int):=by omega
 clear hz hLe
 have cq3:(((w.alloc (.cells #[.slice (some ⟨g,off,none⟩) L cap] 22)).alloc (.cells #[.int .i64 (q:Int)] 3)).alloc (.cells #[.int .i64 0,.int .i64 0,.int .u8 0] 109)).cell? ⟨g,off+q,none⟩=some (.int .u8 z):=
  ((Bn (Bn (Qaa _ _) (Qaa _ _)) (Qaa _ _)).cell (p:=⟨g,off+q,none⟩) hg).trans cq
 clear cq
 refine(callsIn_wide (n:=10)).1 ?_
 refine callsIn_of_wp_marks Tryz.func97 rfl trivial ?_ rfl
 simp only[Tryz.ntmps97,List.size_toArray,List.length_cons,List.length_nil,Nat.reduceAdd,Nat.reduceSub,Array.replicate_succ,Array.replicate_zero,List.push_toArray,List.append_toArray,List.nil_append,List.cons_append]
 gi_wp2
 clear cq3
 obtain⟨W6,hW6⟩:∃W6,W6=((((((w.alloc (.cells #[.slice (some ⟨g,off,none⟩) L cap] 22)).alloc (.cells #[.int .i64 (q:Int)] 3)).alloc (.cells #[.int .i64 0,.int .i64 0,.int .u8 0] 109)).alloc (.cells #[.int .i64 0,.int .i64 1,.int .u8 z] 109)).alloc (.cells #[.int .i64 (k:Int)] 3)).alloc (.cells #[.int .i64 3] 3)):=⟨_,rfl⟩
 rw[<-hW6]
 have hB6:Below w.heap.size w W6:=by rw[hW6];exact Bn (Bn (Bn (Bn (Bn (Qaa _ _) (Qaa _ _)) (Qaa _ _)) (Qaa _ _)) (Qaa _ _)) (Qaa _ _)
 have hz6:W6.heap.size=w.heap.size+1+1+1+1+1+1:=by rw[hW6];simp only[World.size_alloc]
 have hL6:Lv w.heap.size (.slice (some ⟨g,off,none⟩) L cap) q (k:Int) (0,1,z) 3 W6:=by
  subst hW6
  have e0:=Qaj w (.cells #[.slice (some ⟨g,off,none⟩) L cap] 22)
  have e1:=Qaj (w.alloc (.cells #[.slice (some ⟨g,off,none⟩) L cap] 22)) (.cells #[.int .i64 (q:Int)] 3)
  have e2:=Qaj ((w.alloc (.cells #[.slice (some ⟨g,off,none⟩) L cap] 22)).alloc (.cells #[.int .i64 (q:Int)] 3)) (.cells #[.int .i64 0,.int .i64 0,.int .u8 0] 109)
  have e3:=Qaj (((w.alloc (.cells #[.slice (some ⟨g,off,none⟩) L cap] 22)).alloc (.cells #[.int .i64 (q:Int)] 3)).alloc (.cells #[.int .i64 0,.int .i64 0,.int .u8 0] 109)) (.cells #[.int .i64 0,.int .i64 1,.int .u8 z] 109)
  have e4:=Qaj ((((w.alloc (.cells #[.slice (some ⟨g,off,none⟩) L cap] 22)).alloc (.cells #[.int .i64 (q:Int)] 3)).alloc (.cells #[.int .i64 0,.int .i64 0,.int .u8 0] 109)).alloc (.cells #[.int .i64 0,.int .i64 1,.int .u8 z] 109)) (.cells #[.int .i64 (k:Int)] 3)
  have e5:=Qaj (((((w.alloc (.cells #[.slice (some ⟨g,off,none⟩) L cap] 22)).alloc (.cells #[.int .i64 (q:Int)] 3)).alloc (.cells #[.int .i64 0,.int .i64 0,.int .u8 0] 109)).alloc (.cells #[.int .i64 0,.int .i64 1,.int .u8 z] 109)).alloc (.cells #[.int .i64 (k:Int)] 3)) (.cells #[.int .i64 3] 3)
  simp only[World.size_alloc] at e1 e2 e3 e4 e5
  exact⟨Qai _ _ (Qai _ _ (Qai _ _ (Qai _ _ (Qai _ _ e0)))),Qai _ _ (Qai _ _ (Qai _ _ (Qai _ _ e1))),Qai _ _ (Qai _ _ (Qai _ _ e2)),Qai _ _ (Qai _ _ e3),Qai _ _ e4,e5⟩
 clear hW6
 refine wpIn_rangeFunc_ownG rfl (by omega) (gf:=gf) (lb:=lb) rfl trivial HEN.out (HS.out W6 hB6) belowK_t (belowK_b (by omega)) (Below.refl _ _) (fun _=>rfl)
  (fun pre W=>Lv w.heap.size (.slice (some ⟨g,off,none⟩) L cap) q (k:Int) (Qcu bs q (best bs q k (pre.map Fin.val))) (best bs q k (pre.map Fin.val)).2 W∧Below w.heap.size w W)
  (fun c pre W=>c= .exit 0∧k<=(best bs q k (pre.map Fin.val)).2∧Lv w.heap.size (.slice (some ⟨g,off,none⟩) L cap) q (k:Int) (Qcu bs q (best bs q k (pre.map Fin.val))) (best bs q k (pre.map Fin.val)).2 W∧Below w.heap.size w W)
  (OwnFrom.and (fun s A B row hs hg hr=>hs.kept hg (fun r e=>(hr r e).2)) (ownFrom_below (Nat.le_refl _) (by omega)))
  (fun c=>OwnFrom.and (ownFrom_pure _ (fun _=>c= .exit 0)) (OwnFrom.and (ownFrom_pure _ (fun pre:List (Fin q)=>k<=(best bs q k (pre.map Fin.val)).2)) (OwnFrom.and (fun s A B row hs hg hr=>hs.kept hg (fun r e=>(hr r e).2)) (ownFrom_below (Nat.le_refl _) (by omega)))))
  ⟨by rw[HZ.out];exact hL6,hB6⟩
  (fun x=> {tmps:= #[.slice (some ⟨g,off,none⟩) L cap,.int .i64 (q:Int),.func (.func gf) #[] lb,.pointer (some ⟨w.heap.size,0,none⟩),.pointer (some ⟨w.heap.size+1,0,none⟩),undef,.pointer (some ⟨w.heap.size+1+1,0,none⟩),.pointer (some ⟨w.heap.size+1+1+1,0,none⟩),.pointer (some ⟨w.heap.size+1+1+1+1,0,none⟩),.pointer (some ⟨w.heap.size+1+1+1+1+1,0,none⟩),.int .i64 ((x.val:Nat):Int),undef,.slice (some ⟨g,off,none⟩) L cap,.int .i64 (q:Int),.pointer (some ⟨g,off+q,none⟩),.int .u8 z,.agg #[.int .i64 0,.int .i64 1,.int .u8 z],.slice (some ⟨g,off,none⟩) L cap,.int .i64 (L:Int),.int .i64 (q:Int),.int .i64 (k:Int),.int .i64 (k:Int),.func (.func gf) #[] lb,.int .i64 ((x.val:Nat):Int),undef,undef,undef,undef,undef,undef,undef,undef,undef,undef,undef,undef,undef,undef,undef,undef,undef,undef,undef,undef,undef,undef,undef,undef,undef,undef,undef,undef,undef,undef,undef,undef,undef,undef,undef,undef],defers:= []}) ?assign ?body ?done ?stop
 case assign=>
  intro l x W K hK
  gi_wp2
  exact hK
 case done=>
  rintro D ys W hD rfl ⟨hl,hb⟩ hK
  obtain⟨⟨x0,x1,x2⟩,ht⟩:∃t,Qcu bs q (best bs q k (ys.map Fin.val))=t:=⟨_,rfl⟩
  rw[ht] at hl
  have f60:=hl.res.f 0
  have f61:=hl.res.f 1
  have f62:=hl.res.f 2
  have k60:=hl.res.c0
  have k61:=hl.res.c1
  have k62:=hl.res.c2
  have k70:=hl.tok.c0
  have k71:=hl.tok.c1
  have k72:=hl.tok.c2
  dsimp only at k70 k71 k72
  have HX:=hid (hl.res.set (x0,x1,x2))
  have HXB:=hid (hl.res.bel hb (by omega) (x0,x1,x2))
  have HXK:Hid ((Qna W (w.heap.size+1+1) (x0,x1,x2)).heap[D]?=some (.deferred (some []))):=hl.res.other (fun e=>by rw[e] at hK;have:=hl.res;unfold Tb at this;rw[hK] at this;cases this) hK
  have HT:=hid ht
  clear hl hb ht
  gi_wp2
  refine⟨by simp,.inl ⟨_,_,rfl,run_takeDeferred HXK.out,?_⟩⟩
  refine⟨_,results_cell_row (ty:=109) (cs:=Qnk (x0,x1,x2)) rfl _ _ _ _ _ _ rfl (Qe9 HX.out HXK.out) Tryz.underlying109 rfl (by kernel_rfl),?_⟩
  refine⟨by rw[HT.out],HXB.out.trans (belowK_b (w:=w) (Nat.le_refl _) _ D _ _ (by omega) HXK.out rfl rfl)⟩
 case stop=>
  rintro D c pre W hD hp ⟨rfl,hf,hl,hb⟩ hK
  have HF:=hid (Qkr hf (Qnq hp))
  obtain⟨⟨x0,x1,x2⟩,ht⟩:∃t,Qcu bs q (best bs q k (pre.map Fin.val))=t:=⟨_,rfl⟩
  rw[ht] at hl
  have f60:=hl.res.f 0
  have f61:=hl.res.f 1
  have f62:=hl.res.f 2
  have k60:=hl.res.c0
  have k61:=hl.res.c1
  have k62:=hl.res.c2
  have k70:=hl.tok.c0
  have k71:=hl.tok.c1
  have k72:=hl.tok.c2
  dsimp only at k70 k71 k72
  have HX:=hid (hl.res.set (x0,x1,x2))
  have HXB:=hid (hl.res.bel hb (by omega) (x0,x1,x2))
  have HXK:Hid ((Qna W (w.heap.size+1+1) (x0,x1,x2)).heap[D]?=some (.deferred (some []))):=hl.res.other (fun e=>by rw[e] at hK;have:=hl.res;unfold Tb at this;rw[hK] at this;cases this) hK
  have HT:=hid ht
  clear hl hb ht
  gi_wp2
  refine⟨by simp,.inl ⟨_,_,rfl,run_takeDeferred HXK.out,?_⟩⟩
  refine⟨_,results_cell_row (ty:=109) (cs:=Qnk (x0,x1,x2)) rfl _ _ _ _ _ _ rfl (Qe9 HX.out HXK.out) Tryz.underlying109 rfl (by kernel_rfl),?_⟩
  refine⟨by rw[HF.out,HT.out],HXB.out.trans (belowK_b (w:=w) (Nat.le_refl _) _ D _ _ (by omega) HXK.out rfl rfl)⟩
 case body=>
  rintro l pre x W ⟨hl,hb⟩ hlen
  obtain⟨p,hp⟩:=x
  dsimp only
  have HBS:=hid (Qml bs q k (pre.map Fin.val) p)
  have HGD:=hid (Qip (bs:=bs) (q:=q) (k:=k) (map_lt pre))
  have HMS:=hid (Qvq pre ⟨p,hp⟩)
  have HLV:=hid hl
  have HBB:=hid hb
  generalize best bs q k (pre.map Fin.val)=s at *
  have c3:=Joins.cell_of_block hl.b 0
  have c4:=Joins.cell_of_block hl.at' 0
  have c8:=Joins.cell_of_block hl.most 0
  have c9:=Joins.cell_of_block hl.beat 0
  have f9:=Joins.unfrozen_of_block hl.beat 0
  have f70:=hl.tok.f 0
  have f71:=hl.tok.f 1
  have f72:=hl.tok.f 2
  have k70:=hl.tok.c0
  have k71:=hl.tok.c1
  have k72:=hl.tok.c2
  simp only[List.getElem?_toArray,List.getElem?_cons_zero] at c3 c4 c8 c9
  clear hl hb
  obtain⟨sb,hsb⟩:∃sb,sb=s.2:=⟨_,rfl⟩
  have HSB:=hid hsb
  rw[<-hsb] at c9
  have hsb3:sb<=258:=by
   rw[hsb]
   rcases HGD.out with ⟨_,h⟩ | ⟨_,_,_,h⟩<;>omega
  clear hsb
  by_cases hful:k<=sb
  ·have hfz:(k:Int)<=(sb:Int):=by first | omega | (rw[HK2.out];omega)
   have HB2:=hid (HBS.out.trans (Qh0 (by rw[<-HSB.out];exact hful) p))
   gi_wp2
   refine⟨KeepsFrom.refl _ _,rfl,?_,?_,HBB.out⟩
   ·rw[HMS.out,HB2.out,<-HSB.out];exact hful
   ·rw[HMS.out,HB2.out];exact HLV.out
  ·have hfz:¬(k:Int)<=(sb:Int):=by first | omega | (rw[HK2.out];omega)
   obtain⟨i1,hi1⟩:∃i1,i1=p+sb:=⟨_,rfl⟩
   obtain⟨i2,hi2⟩:∃i2,i2=q+sb:=⟨_,rfl⟩
   have hz1:(p:Int)+(sb:Int)=(i1:Int):=by omega
   have hz2:(q:Int)+(sb:Int)=(i2:Int):=by omega
   have hi1L:i1<L:=by omega
   have hi2L:i2<L:=by omega
   have b1:W.cell? ⟨g,off+i1,none⟩=some (.int .u8 (bs.getD i1 0)):=(HBB.out.cell (p:=⟨g,off+i1,none⟩) hg).trans (HC.out i1 hi1L)
   have b2:W.cell? ⟨g,off+i2,none⟩=some (.int .u8 (bs.getD i2 0)):=(HBB.out.cell (p:=⟨g,off+i2,none⟩) hg).trans (HC.out i2 hi2L)
   by_cases hne:bs.getD i1 0=bs.getD i2 0
   ·rw[<-hne] at b2
    have HCM:=hid (HCC.out p k (by omega) hk2)
    clear hne hi1 hi2
    generalize bs.getD i1 0=y at *
    have hyy:(y != y)=false:=by simp
    gi_wp2_with fail
    refine Qdr (by kernel_rfl) (by kernel_rfl) (by kernel_rfl) (fun _ _ h=>h) ?_
    repeat (go_big_quiet_step (fail))
    refine wpQuiet_nil ?_
    intro _ hw'
    obtain⟨nq,hw''⟩:=hw'
    subst hw''
    have HL2:Hid (Lv w.heap.size (.slice (some ⟨g,off,none⟩) L cap) q (k:Int) (Qcu bs q s) s.2 (W.drewN nq)):=⟨HLV.out.b,HLV.out.at',HLV.out.res,HLV.out.tok,HLV.out.most,HLV.out.beat⟩
    have HB2:=hid (Qap HBB.out nq)
    have HKO:=hid (KeepsOthers.drewN W nq)
    have HBW:=hid (Qap (Below.refl w.heap.size W) nq)
    clear b1 b2 c3 c4 c8 c9 f9 f70 f71 f72 k70 k71 k72 HLV HBB
    generalize W.drewN nq=W2 at *
    have c3:=Joins.cell_of_block HL2.out.b 0
    have c4:=Joins.cell_of_block HL2.out.at' 0
    have c8:=Joins.cell_of_block HL2.out.most 0
    have c9:=Joins.cell_of_block HL2.out.beat 0
    simp only[List.getElem?_toArray,List.getElem?_cons_zero] at c3 c4 c8 c9
    rw[<-HSB.out] at c9
    have hpq:(p:Int)<=(L:Int):=by omega
    obtain⟨qk,hqk⟩:∃qk,qk=q+k:=⟨_,rfl⟩
    have hqkz:(q:Int)+(k:Int)=(qk:Int):=by first | omega | (rw[HK2.out];omega)
    have hqkL:qk<=cap:=by omega
    have hqkq:q<=qk:=by omega
    have HQK:Hid (qk-q=k):=by show _=_;omega
    clear hqk
    gi_wp2_with fail
    refine Qdr (by kernel_rfl) (by kernel_rfl) (by kernel_rfl) (fun _ _ h=>h) ?_
    have HCM2:Hid (∀W,Below w.heap.size w W->Calls Tryz.prog 125 #[.slice (some ⟨g,off+p,none⟩) (L-p) (cap-p),.slice (some ⟨g,off+q,none⟩) (qk-q) (cap-q)] W fun e w'=>e= .returned (.int .i64 ((com bs p q k:Nat):Int))∧∃m,w'=W.drewN m):=by
     show ∀W,_
     rw[HQK.out]
     exact HCM.out
    have HCL:=hid (Qjs bs k p q)
    have HBT:Hid (best bs q k ((pre++ [(⟨p,hp⟩:Fin q)]).map Fin.val)=if sb<com bs p q k then (q-p,com bs p q k) else s):=by
     show _=_
     rw[HMS.out,HBS.out,better,<-HSB.out]
    clear HCM
    generalize com bs p q k=n at *
    repeat (go_big_quiet_step (exact Calls.quiet_of (HCM2.out _ (Qap HB2.out _))))
    refine wpQuiet_nil ?_
    intro _ hw'
    obtain⟨nq,hw''⟩:=hw'
    subst hw''
    have HL3:Hid (Lv w.heap.size (.slice (some ⟨g,off,none⟩) L cap) q (k:Int) (Qcu bs q s) s.2 (W2.drewN nq)):=⟨HL2.out.b,HL2.out.at',HL2.out.res,HL2.out.tok,HL2.out.most,HL2.out.beat⟩
    have HB3:=hid (Qap HB2.out nq)
    have HKO3:=hid (HKO.out.trans (KeepsOthers.drewN W2 nq))
    have HBW3:=hid (Qap HBW.out nq)
    clear c3 c4 c8 c9 HL2 HB2 HKO HBW HCM2
    generalize W2.drewN nq=W3 at *
    have c4:=Joins.cell_of_block HL3.out.at' 0
    have c9:=Joins.cell_of_block HL3.out.beat 0
    have f9:=Joins.unfrozen_of_block HL3.out.beat 0
    have f70:=HL3.out.tok.f 0
    have f71:=HL3.out.tok.f 1
    have f72:=HL3.out.tok.f 2
    have k70:=HL3.out.tok.c0
    have k71:=HL3.out.tok.c1
    have k72:=HL3.out.tok.c2
    simp only[List.getElem?_toArray,List.getElem?_cons_zero] at c4 c9
    rw[<-HSB.out] at c9
    by_cases hhit:sb<n
    ·have hhz:(sb:Int)<(n:Int):=by omega
     rw[if_pos hhit] at HBT
     obtain⟨d,hd⟩:∃d,d=q-p:=⟨_,rfl⟩
     have hdz:(q:Int)-(p:Int)=(d:Int):=by omega
     rw[<-hd] at HBT
     have HTK:Hid (Qcu bs q (d,n)=(d,n,0)):=by show _=_;rw[HZ.out,if_neg (by simp;omega)]
     have HPL:=hid (HL3.out.put (d,n,0) n)
     have HPB:=hid (HL3.out.putB HB3.out (Nat.le_refl _) (d,n,0) n)
     have HPW:=hid (HL3.out.putB HBW3.out (Nat.le_refl _) (d,n,0) n)
     have HPK:=hid (HKO3.out.trans (Qnf W3 w.heap.size (d,n,0) n))
     clear hd
     gi_wp2
     refine⟨HPK.out.from _,HPW.out,?_,HPB.out⟩
     rw[HBT.out]
     simp only[HTK.out]
     exact HPL.out
    ·have hhz:¬(sb:Int)<(n:Int):=by omega
     rw[if_neg hhit] at HBT
     gi_wp2
     refine⟨HKO3.out.from _,HBW3.out,?_,HB3.out⟩
     rw[HBT.out]
     exact HL3.out
   ·have HB2:Hid (best bs q k ((pre++ [(⟨p,hp⟩:Fin q)]).map Fin.val)=s):=by
     show _=_
     rw[HMS.out,HBS.out,better,if_neg]
     intro hlt
     rw[<-HSB.out] at hlt
     have:=Qeh bs k p q sb hlt
     rw[<-hi1,<-hi2] at this
     exact hne this
    clear hi1 hi2
    have hyy:(bs.getD i1 0 != bs.getD i2 0)=true:=by simpa using hne
    generalize bs.getD i1 0=y at *
    generalize bs.getD i2 0=y2 at *
    clear hne
    gi_wp2_with fail
    refine Qdr (by kernel_rfl) (by kernel_rfl) (by kernel_rfl) (fun _ _ h=>h) ?_
    repeat (go_big_quiet_step (fail))
    refine wpQuiet_nil ?_
    intro _ hw'
    obtain⟨nq,hw''⟩:=hw'
    subst hw''
    gi_wp2
    refine⟨(KeepsOthers.drewN _ _).from _,Qap (Below.refl _ _) _,?_,Qap HBB.out _⟩
    rw[HB2.out]
    exact⟨HLV.out.b,HLV.out.at',HLV.out.res,HLV.out.tok,HLV.out.most,HLV.out.beat⟩
theorem Qql(bs:List Int)(q g off cap:Nat)(w:World)(hq:q<bs.length)(hcap:bs.length<=cap)(hm:cap<=maxLen)(hL:bs.length<=65536)(hg:g<w.heap.size)
 (hc:∀j,j<bs.length->w.cell? ⟨g,off+j,none⟩=some (.int .u8 (bs.getD j 0)))
 (gf:Nat) (lb:Array Value) (xs:List (Fin q)) (hen:∀args w,(callFunc gf args).run Tryz.prog w= .ok (.enter gf args) w) (hseq:∀W,Below w.heap.size w W->Xfc gf lb q w.heap.size xs W) (hway:258<bs.length-q) :
 Calls Tryz.prog 97 #[.slice (some ⟨g,off,none⟩) bs.length cap,.int .i64 (q:Int),.func (.func gf) #[] lb] w fun e w'=>e= .returned (.agg (Qnk (Qcu bs q (best bs q (most bs q) (xs.map Fin.val)))))∧Below w.heap.size w w':=by
 have cq:=hc q hq
 have HS:=hid hseq
 have HEN:=hid hen
 have HCC:Hid (∀p k,p+k<=bs.length->q+k<=bs.length->∀W,Below w.heap.size w W->Calls Tryz.prog 125 #[.slice (some ⟨g,off+p,none⟩) (bs.length-p) (cap-p),.slice (some ⟨g,off+q,none⟩) k (cap-q)] W fun e w'=>e= .returned (.int .i64 ((com bs p q k:Nat):Int))∧∃m,w'=W.drewN m):=by
  intro p k hp hk W hW
  refine Qkt bs p q k g (off+p) _ _ g (off+q) _ W (by omega) (by omega) (by omega) (fun j hj=>?_) (fun j hj=>?_)
  ·rw[Nat.add_assoc];exact(hW.cell (p:=⟨g,off+(p+j),none⟩) hg).trans (hc _ (by omega))
  ·rw[Nat.add_assoc];exact(hW.cell (p:=⟨g,off+(q+j),none⟩) hg).trans (hc _ (by omega))
 have HC:=hid hc
 have HZ:Hid (∀s:Nat×Nat,Qcu bs q s=if s.1=0 then (0,1,bs.getD q 0) else (s.1,s.2,0)):=fun _=>rfl
 unfold maxLen at hm
 have hk:most bs q=min (bs.length-q) 258:=rfl
 obtain⟨k,hke⟩:∃k,k=most bs q:=⟨_,rfl⟩
 have HK:Hid (k=most bs q):=hke
 have hk1:k<=258:=by omega
 have hk2:q+k<=bs.length:=by omega
 have HK2:Hid ((258:Int)=(k:Int)):=by show _=_;omega
 have hkz2:(258:Int)<(bs.length:Int)-(q:Int):=by omega
 rw[<-hke]
 clear hk hke hen hseq hc hway
 obtain⟨z,hz⟩:∃z,z=bs.getD q 0:=⟨_,rfl⟩
 rw[<-hz] at cq HZ
 obtain⟨L,hLe⟩:∃L,L=bs.length:=⟨_,rfl⟩
 have HL:=hid hLe
 rw[<-hLe] at hq hcap hL hk2 hkz2 HCC|-
 rw[<-hLe] at HC
 have hqz:(q:Int)<(L:Int):=by omega
 clear hz hLe
 have cq3:(((w.alloc (.cells #[.slice (some ⟨g,off,none⟩) L cap] 22)).alloc (.cells #[.int .i64 (q:Int)] 3)).alloc (.cells #[.int .i64 0,.int .i64 0,.int .u8 0] 109)).cell? ⟨g,off+q,none⟩=some (.int .u8 z):=
  ((Bn (Bn (Qaa _ _) (Qaa _ _)) (Qaa _ _)).cell (p:=⟨g,off+q,none⟩) hg).trans cq
 clear cq
 refine(callsIn_wide (n:=10)).1 ?_
 refine callsIn_of_wp_marks Tryz.func97 rfl trivial ?_ rfl
 simp only[Tryz.ntmps97,List.size_toArray,List.length_cons,List.length_nil,Nat.reduceAdd,Nat.reduceSub,Array.replicate_succ,Array.replicate_zero,List.push_toArray,List.append_toArray,List.nil_append,List.cons_append]
 gi_wp2
 clear cq3
 obtain⟨W6,hW6⟩:∃W6,W6=((((((w.alloc (.cells #[.slice (some ⟨g,off,none⟩) L cap] 22)).alloc (.cells #[.int .i64 (q:Int)] 3)).alloc (.cells #[.int .i64 0,.int .i64 0,.int .u8 0] 109)).alloc (.cells #[.int .i64 0,.int .i64 1,.int .u8 z] 109)).alloc (.cells #[.int .i64 258] 3)).alloc (.cells #[.int .i64 3] 3)):=⟨_,rfl⟩
 rw[<-hW6]
 have hB6:Below w.heap.size w W6:=by rw[hW6];exact Bn (Bn (Bn (Bn (Bn (Qaa _ _) (Qaa _ _)) (Qaa _ _)) (Qaa _ _)) (Qaa _ _)) (Qaa _ _)
 have hz6:W6.heap.size=w.heap.size+1+1+1+1+1+1:=by rw[hW6];simp only[World.size_alloc]
 have hL6:Lv w.heap.size (.slice (some ⟨g,off,none⟩) L cap) q 258 (0,1,z) 3 W6:=by
  subst hW6
  have e0:=Qaj w (.cells #[.slice (some ⟨g,off,none⟩) L cap] 22)
  have e1:=Qaj (w.alloc (.cells #[.slice (some ⟨g,off,none⟩) L cap] 22)) (.cells #[.int .i64 (q:Int)] 3)
  have e2:=Qaj ((w.alloc (.cells #[.slice (some ⟨g,off,none⟩) L cap] 22)).alloc (.cells #[.int .i64 (q:Int)] 3)) (.cells #[.int .i64 0,.int .i64 0,.int .u8 0] 109)
  have e3:=Qaj (((w.alloc (.cells #[.slice (some ⟨g,off,none⟩) L cap] 22)).alloc (.cells #[.int .i64 (q:Int)] 3)).alloc (.cells #[.int .i64 0,.int .i64 0,.int .u8 0] 109)) (.cells #[.int .i64 0,.int .i64 1,.int .u8 z] 109)
  have e4:=Qaj ((((w.alloc (.cells #[.slice (some ⟨g,off,none⟩) L cap] 22)).alloc (.cells #[.int .i64 (q:Int)] 3)).alloc (.cells #[.int .i64 0,.int .i64 0,.int .u8 0] 109)).alloc (.cells #[.int .i64 0,.int .i64 1,.int .u8 z] 109)) (.cells #[.int .i64 258] 3)
  have e5:=Qaj (((((w.alloc (.cells #[.slice (some ⟨g,off,none⟩) L cap] 22)).alloc (.cells #[.int .i64 (q:Int)] 3)).alloc (.cells #[.int .i64 0,.int .i64 0,.int .u8 0] 109)).alloc (.cells #[.int .i64 0,.int .i64 1,.int .u8 z] 109)).alloc (.cells #[.int .i64 258] 3)) (.cells #[.int .i64 3] 3)
  simp only[World.size_alloc] at e1 e2 e3 e4 e5
  exact⟨Qai _ _ (Qai _ _ (Qai _ _ (Qai _ _ (Qai _ _ e0)))),Qai _ _ (Qai _ _ (Qai _ _ (Qai _ _ e1))),Qai _ _ (Qai _ _ (Qai _ _ e2)),Qai _ _ (Qai _ _ e3),Qai _ _ e4,e5⟩
 clear hW6
 refine wpIn_rangeFunc_ownG rfl (by omega) (gf:=gf) (lb:=lb) rfl trivial HEN.out (HS.out W6 hB6) belowK_t (belowK_b (by omega)) (Below.refl _ _) (fun _=>rfl)
  (fun pre W=>Lv w.heap.size (.slice (some ⟨g,off,none⟩) L cap) q 258 (Qcu bs q (best bs q k (pre.map Fin.val))) (best bs q k (pre.map Fin.val)).2 W∧Below w.heap.size w W)
  (fun c pre W=>c= .exit 0∧k<=(best bs q k (pre.map Fin.val)).2∧Lv w.heap.size (.slice (some ⟨g,off,none⟩) L cap) q 258 (Qcu bs q (best bs q k (pre.map Fin.val))) (best bs q k (pre.map Fin.val)).2 W∧Below w.heap.size w W)
  (OwnFrom.and (fun s A B row hs hg hr=>hs.kept hg (fun r e=>(hr r e).2)) (ownFrom_below (Nat.le_refl _) (by omega)))
  (fun c=>OwnFrom.and (ownFrom_pure _ (fun _=>c= .exit 0)) (OwnFrom.and (ownFrom_pure _ (fun pre:List (Fin q)=>k<=(best bs q k (pre.map Fin.val)).2)) (OwnFrom.and (fun s A B row hs hg hr=>hs.kept hg (fun r e=>(hr r e).2)) (ownFrom_below (Nat.le_refl _) (by omega)))))
  ⟨by rw[HZ.out];exact hL6,hB6⟩
  (fun x=> {tmps:= #[.slice (some ⟨g,off,none⟩) L cap,.int .i64 (q:Int),.func (.func gf) #[] lb,.pointer (some ⟨w.heap.size,0,none⟩),.pointer (some ⟨w.heap.size+1,0,none⟩),undef,.pointer (some ⟨w.heap.size+1+1,0,none⟩),.pointer (some ⟨w.heap.size+1+1+1,0,none⟩),.pointer (some ⟨w.heap.size+1+1+1+1,0,none⟩),.pointer (some ⟨w.heap.size+1+1+1+1+1,0,none⟩),.int .i64 ((x.val:Nat):Int),undef,.slice (some ⟨g,off,none⟩) L cap,.int .i64 (q:Int),.pointer (some ⟨g,off+q,none⟩),.int .u8 z,.agg #[.int .i64 0,.int .i64 1,.int .u8 z],.slice (some ⟨g,off,none⟩) L cap,.int .i64 (L:Int),.int .i64 (q:Int),.int .i64 ((L:Int)-(q:Int)),.int .i64 258,.func (.func gf) #[] lb,.int .i64 ((x.val:Nat):Int),undef,undef,undef,undef,undef,undef,undef,undef,undef,undef,undef,undef,undef,undef,undef,undef,undef,undef,undef,undef,undef,undef,undef,undef,undef,undef,undef,undef,undef,undef,undef,undef,undef,undef,undef,undef],defers:= []}) ?assign ?body ?done ?stop
 case assign=>
  intro l x W K hK
  gi_wp2
  exact hK
 case done=>
  rintro D ys W hD rfl ⟨hl,hb⟩ hK
  obtain⟨⟨x0,x1,x2⟩,ht⟩:∃t,Qcu bs q (best bs q k (ys.map Fin.val))=t:=⟨_,rfl⟩
  rw[ht] at hl
  have f60:=hl.res.f 0
  have f61:=hl.res.f 1
  have f62:=hl.res.f 2
  have k60:=hl.res.c0
  have k61:=hl.res.c1
  have k62:=hl.res.c2
  have k70:=hl.tok.c0
  have k71:=hl.tok.c1
  have k72:=hl.tok.c2
  dsimp only at k70 k71 k72
  have HX:=hid (hl.res.set (x0,x1,x2))
  have HXB:=hid (hl.res.bel hb (by omega) (x0,x1,x2))
  have HXK:Hid ((Qna W (w.heap.size+1+1) (x0,x1,x2)).heap[D]?=some (.deferred (some []))):=hl.res.other (fun e=>by rw[e] at hK;have:=hl.res;unfold Tb at this;rw[hK] at this;cases this) hK
  have HT:=hid ht
  clear hl hb ht
  gi_wp2
  refine⟨by simp,.inl ⟨_,_,rfl,run_takeDeferred HXK.out,?_⟩⟩
  refine⟨_,results_cell_row (ty:=109) (cs:=Qnk (x0,x1,x2)) rfl _ _ _ _ _ _ rfl (Qe9 HX.out HXK.out) Tryz.underlying109 rfl (by kernel_rfl),?_⟩
  refine⟨by rw[HT.out],HXB.out.trans (belowK_b (w:=w) (Nat.le_refl _) _ D _ _ (by omega) HXK.out rfl rfl)⟩
 case stop=>
  rintro D c pre W hD hp ⟨rfl,hf,hl,hb⟩ hK
  have HF:=hid (Qkr hf (Qnq hp))
  obtain⟨⟨x0,x1,x2⟩,ht⟩:∃t,Qcu bs q (best bs q k (pre.map Fin.val))=t:=⟨_,rfl⟩
  rw[ht] at hl
  have f60:=hl.res.f 0
  have f61:=hl.res.f 1
  have f62:=hl.res.f 2
  have k60:=hl.res.c0
  have k61:=hl.res.c1
  have k62:=hl.res.c2
  have k70:=hl.tok.c0
  have k71:=hl.tok.c1
  have k72:=hl.tok.c2
  dsimp only at k70 k71 k72
  have HX:=hid (hl.res.set (x0,x1,x2))
  have HXB:=hid (hl.res.bel hb (by omega) (x0,x1,x2))
  have HXK:Hid ((Qna W (w.heap.size+1+1) (x0,x1,x2)).heap[D]?=some (.deferred (some []))):=hl.res.other (fun e=>by rw[e] at hK;have:=hl.res;unfold Tb at this;rw[hK] at this;cases this) hK
  have HT:=hid ht
  clear hl hb ht
  gi_wp2
  refine⟨by simp,.inl ⟨_,_,rfl,run_takeDeferred HXK.out,?_⟩⟩
  refine⟨_,results_cell_row (ty:=109) (cs:=Qnk (x0,x1,x2)) rfl _ _ _ _ _ _ rfl (Qe9 HX.out HXK.out) Tryz.underlying109 rfl (by kernel_rfl),?_⟩
  refine⟨by rw[HF.out,HT.out],HXB.out.trans (belowK_b (w:=w) (Nat.le_refl _) _ D _ _ (by omega) HXK.out rfl rfl)⟩
 case body=>
  rintro l pre x W ⟨hl,hb⟩ hlen
  obtain⟨p,hp⟩:=x
  dsimp only
  have HBS:=hid (Qml bs q k (pre.map Fin.val) p)
  have HGD:=hid (Qip (bs:=bs) (q:=q) (k:=k) (map_lt pre))
  have HMS:=hid (Qvq pre ⟨p,hp⟩)
  have HLV:=hid hl
  have HBB:=hid hb
  generalize best bs q k (pre.map Fin.val)=s at *
  have c3:=Joins.cell_of_block hl.b 0
  have c4:=Joins.cell_of_block hl.at' 0
  have c8:=Joins.cell_of_block hl.most 0
  have c9:=Joins.cell_of_block hl.beat 0
  have f9:=Joins.unfrozen_of_block hl.beat 0
  have f70:=hl.tok.f 0
  have f71:=hl.tok.f 1
  have f72:=hl.tok.f 2
  have k70:=hl.tok.c0
  have k71:=hl.tok.c1
  have k72:=hl.tok.c2
  simp only[List.getElem?_toArray,List.getElem?_cons_zero] at c3 c4 c8 c9
  clear hl hb
  obtain⟨sb,hsb⟩:∃sb,sb=s.2:=⟨_,rfl⟩
  have HSB:=hid hsb
  rw[<-hsb] at c9
  have hsb3:sb<=258:=by
   rw[hsb]
   rcases HGD.out with ⟨_,h⟩ | ⟨_,_,_,h⟩<;>omega
  clear hsb
  by_cases hful:k<=sb
  ·have hfz:258<=(sb:Int):=by first | omega | (rw[HK2.out];omega)
   have HB2:=hid (HBS.out.trans (Qh0 (by rw[<-HSB.out];exact hful) p))
   gi_wp2
   refine⟨KeepsFrom.refl _ _,rfl,?_,?_,HBB.out⟩
   ·rw[HMS.out,HB2.out,<-HSB.out];exact hful
   ·rw[HMS.out,HB2.out];exact HLV.out
  ·have hfz:¬258<=(sb:Int):=by first | omega | (rw[HK2.out];omega)
   obtain⟨i1,hi1⟩:∃i1,i1=p+sb:=⟨_,rfl⟩
   obtain⟨i2,hi2⟩:∃i2,i2=q+sb:=⟨_,rfl⟩
   have hz1:(p:Int)+(sb:Int)=(i1:Int):=by omega
   have hz2:(q:Int)+(sb:Int)=(i2:Int):=by omega
   have hi1L:i1<L:=by omega
   have hi2L:i2<L:=by omega
   have b1:W.cell? ⟨g,off+i1,none⟩=some (.int .u8 (bs.getD i1 0)):=(HBB.out.cell (p:=⟨g,off+i1,none⟩) hg).trans (HC.out i1 hi1L)
   have b2:W.cell? ⟨g,off+i2,none⟩=some (.int .u8 (bs.getD i2 0)):=(HBB.out.cell (p:=⟨g,off+i2,none⟩) hg).trans (HC.out i2 hi2L)
   by_cases hne:bs.getD i1 0=bs.getD i2 0
   ·rw[<-hne] at b2
    have HCM:=hid (HCC.out p k (by omega) hk2)
    clear hne hi1 hi2
    generalize bs.getD i1 0=y at *
    have hyy:(y != y)=false:=by simp
    gi_wp2_with fail
    refine Qdr (by kernel_rfl) (by kernel_rfl) (by kernel_rfl) (fun _ _ h=>h) ?_
    repeat (go_big_quiet_step (fail))
    refine wpQuiet_nil ?_
    intro _ hw'
    obtain⟨nq,hw''⟩:=hw'
    subst hw''
    have HL2:Hid (Lv w.heap.size (.slice (some ⟨g,off,none⟩) L cap) q 258 (Qcu bs q s) s.2 (W.drewN nq)):=⟨HLV.out.b,HLV.out.at',HLV.out.res,HLV.out.tok,HLV.out.most,HLV.out.beat⟩
    have HB2:=hid (Qap HBB.out nq)
    have HKO:=hid (KeepsOthers.drewN W nq)
    have HBW:=hid (Qap (Below.refl w.heap.size W) nq)
    clear b1 b2 c3 c4 c8 c9 f9 f70 f71 f72 k70 k71 k72 HLV HBB
    generalize W.drewN nq=W2 at *
    have c3:=Joins.cell_of_block HL2.out.b 0
    have c4:=Joins.cell_of_block HL2.out.at' 0
    have c8:=Joins.cell_of_block HL2.out.most 0
    have c9:=Joins.cell_of_block HL2.out.beat 0
    simp only[List.getElem?_toArray,List.getElem?_cons_zero] at c3 c4 c8 c9
    rw[<-HSB.out] at c9
    have hpq:(p:Int)<=(L:Int):=by omega
    obtain⟨qk,hqk⟩:∃qk,qk=q+k:=⟨_,rfl⟩
    have hqkz:(q:Int)+258=(qk:Int):=by first | omega | (rw[HK2.out];omega)
    have hqkL:qk<=cap:=by omega
    have hqkq:q<=qk:=by omega
    have HQK:Hid (qk-q=k):=by show _=_;omega
    clear hqk
    gi_wp2_with fail
    refine Qdr (by kernel_rfl) (by kernel_rfl) (by kernel_rfl) (fun _ _ h=>h) ?_
    have HCM2:Hid (∀W,Below w.heap.size w W->Calls Tryz.prog 125 #[.slice (some ⟨g,off+p,none⟩) (L-p) (cap-p),.slice (some ⟨g,off+q,none⟩) (qk-q) (cap-q)] W fun e w'=>e= .returned (.int .i64 ((com bs p q k:Nat):Int))∧∃m,w'=W.drewN m):=by
     show ∀W,_
     rw[HQK.out]
     exact HCM.out
    have HCL:=hid (Qjs bs k p q)
    have HBT:Hid (best bs q k ((pre++ [(⟨p,hp⟩:Fin q)]).map Fin.val)=if sb<com bs p q k then (q-p,com bs p q k) else s):=by
     show _=_
     rw[HMS.out,HBS.out,better,<-HSB.out]
    clear HCM
    generalize com bs p q k=n at *
    repeat (go_big_quiet_step (exact Calls.quiet_of (HCM2.out _ (Qap HB2.out _))))
    refine wpQuiet_nil ?_
    intro _ hw'
    obtain⟨nq,hw''⟩:=hw'
    subst hw''
    have HL3:Hid (Lv w.heap.size (.slice (some ⟨g,off,none⟩) L cap) q 258 (Qcu bs q s) s.2 (W2.drewN nq)):=⟨HL2.out.b,HL2.out.at',HL2.out.res,HL2.out.tok,HL2.out.most,HL2.out.beat⟩
    have HB3:=hid (Qap HB2.out nq)
    have HKO3:=hid (HKO.out.trans (KeepsOthers.drewN W2 nq))
    have HBW3:=hid (Qap HBW.out nq)
    clear c3 c4 c8 c9 HL2 HB2 HKO HBW HCM2
    generalize W2.drewN nq=W3 at *
    have c4:=Joins.cell_of_block HL3.out.at' 0
    have c9:=Joins.cell_of_block HL3.out.beat 0
    have f9:=Joins.unfrozen_of_block HL3.out.beat 0
    have f70:=HL3.out.tok.f 0
    have f71:=HL3.out.tok.f 1
    have f72:=HL3.out.tok.f 2
    have k70:=HL3.out.tok.c0
    have k71:=HL3.out.tok.c1
    have k72:=HL3.out.tok.c2
    simp only[List.getElem?_toArray,List.getElem?_cons_zero] at c4 c9
    rw[<-HSB.out] at c9
    by_cases hhit:sb<n
    ·have hhz:(sb:Int)<(n:Int):=by omega
     rw[if_pos hhit] at HBT
     obtain⟨d,hd⟩:∃d,d=q-p:=⟨_,rfl⟩
     have hdz:(q:Int)-(p:Int)=(d:Int):=by omega
     rw[<-hd] at HBT
     have HTK:Hid (Qcu bs q (d,n)=(d,n,0)):=by show _=_;rw[HZ.out,if_neg (by simp;omega)]
     have HPL:=hid (HL3.out.put (d,n,0) n)
     have HPB:=hid (HL3.out.putB HB3.out (Nat.le_refl _) (d,n,0) n)
     have HPW:=hid (HL3.out.putB HBW3.out (Nat.le_refl _) (d,n,0) n)
     have HPK:=hid (HKO3.out.trans (Qnf W3 w.heap.size (d,n,0) n))
     clear hd
     gi_wp2
     refine⟨HPK.out.from _,HPW.out,?_,HPB.out⟩
     rw[HBT.out]
     simp only[HTK.out]
     exact HPL.out
    ·have hhz:¬(sb:Int)<(n:Int):=by omega
     rw[if_neg hhit] at HBT
     gi_wp2
     refine⟨HKO3.out.from _,HBW3.out,?_,HB3.out⟩
     rw[HBT.out]
     exact HL3.out
   ·have HB2:Hid (best bs q k ((pre++ [(⟨p,hp⟩:Fin q)]).map Fin.val)=s):=by
     show _=_
     rw[HMS.out,HBS.out,better,if_neg]
     intro hlt
     rw[<-HSB.out] at hlt
     have:=Qeh bs k p q sb hlt
     rw[<-hi1,<-hi2] at this
     exact hne this
    clear hi1 hi2
    have hyy:(bs.getD i1 0 != bs.getD i2 0)=true:=by simpa using hne
    generalize bs.getD i1 0=y at *
    generalize bs.getD i2 0=y2 at *
    clear hne
    gi_wp2_with fail
    refine Qdr (by kernel_rfl) (by kernel_rfl) (by kernel_rfl) (fun _ _ h=>h) ?_
    repeat (go_big_quiet_step (fail))
    refine wpQuiet_nil ?_
    intro _ hw'
    obtain⟨nq,hw''⟩:=hw'
    subst hw''
    gi_wp2
    refine⟨(KeepsOthers.drewN _ _).from _,Qap (Below.refl _ _) _,?_,Qap HBB.out _⟩
    rw[HB2.out]
    exact⟨HLV.out.b,HLV.out.at',HLV.out.res,HLV.out.tok,HLV.out.most,HLV.out.beat⟩
theorem Qqs(bs:List Int)(q g off cap:Nat)(w:World)(hq:q<bs.length)(hcap:bs.length<=cap)(hm:cap<=maxLen)(hL:bs.length<=65536)(hg:g<w.heap.size)
 (hc:∀j,j<bs.length->w.cell? ⟨g,off+j,none⟩=some (.int .u8 (bs.getD j 0)))
 (gf:Nat) (lb:Array Value) (xs:List (Fin q)) (hen:∀args w,(callFunc gf args).run Tryz.prog w= .ok (.enter gf args) w) (hseq:∀W,Below w.heap.size w W->Xfc gf lb q w.heap.size xs W) :
 Calls Tryz.prog 97 #[.slice (some ⟨g,off,none⟩) bs.length cap,.int .i64 (q:Int),.func (.func gf) #[] lb] w fun e w'=>e= .returned (.agg (Qnk (Qcu bs q (best bs q (most bs q) (xs.map Fin.val)))))∧Below w.heap.size w w':=by
 by_cases h:bs.length-q<=258
 ·exact Quf bs q g off cap w hq hcap hm hL hg hc gf lb xs hen hseq h
 ·exact Qql bs q g off cap w hq hcap hm hL hg hc gf lb xs hen hseq (by omega)
attribute [local go_sem] Oper.semAt_some
def Xh8(q:Nat)(l:List Nat)(h:∀p∈l,p<q):List (Fin q):=l.pmap (fun p hp=>⟨p,hp⟩) h
theorem Qvf{q:Nat}{l:List Nat}(h:∀p∈l,p<q):(Xh8 q l h).map Fin.val=l:=by
 unfold Xh8;rw[List.map_pmap];simp
theorem Xep{q:Nat}{l:List Nat}(h:∀p∈l,p<q):(Xh8 q l h).length=l.length:=by unfold Xh8;simp
theorem Quh{q:Nat}{rest:List (Fin q)}{a:Nat}{l:List Nat}(h:rest.map Fin.val=a::l):∃(x:Fin q) (r:List (Fin q)),rest=x::r∧x.val=a∧r.map Fin.val=l:=by
 cases rest with
 | nil=>cases h
 | cons x r=>
   simp only[List.map_cons,List.cons.injEq] at h
   exact⟨x,r,rfl,h.1,h.2⟩
theorem Qm8{q:Nat}{rest:List (Fin q)}(h:rest.map Fin.val= []):rest= []:=by
 cases rest with
 | nil=>rfl
 | cons x r=>cases h
theorem Qd9{P:Program}{fn:Func}{p u:Tmp}{ty:TypeId}(h:fn.results= #[.cell p ty,.tmp u])(tmps:Array Value)(w:World)(g:Nat)(v:Value)(hp:tmps.getD p undef= .pointer (some ⟨g,0,none⟩))(hl:(loadVar ty ⟨g,0,none⟩).run P w= .ok v w):
 (results fn tmps).run P w= .ok (.tuple #[v,tmps.getD u undef]) w:=by
 rw[results_cell_tmp h,hp]
 simp[asAddr,hl]
end
section
open Go.RowKit Go.Shelf Lz Go.WideMaps
theorem Tryz.cells189:Tryz.prog.cellsOf 189=4:=by kernel_rfl
theorem Tryz.row67:(189:TypeId)<Tryz.prog.types.size:=of_decide_eq_true (by kernel_rfl)
theorem Tryz.wide67:(match Tryz.prog.underlying 189 with | some (.array _ _) | some (.struct _)=>true | _=>false)=true:=by rw[Tryz.underlying189]
theorem Tryz.law67:KeyLaw Tryz.prog 189:=deep_law_laid Tryz.laidOut (m:=2) (by omega) Tryz.row67 (by kernel_rfl) Tryz.wide67
theorem Tryz.keyed67:Maps.Keyed Tryz.prog 189:=Maps.Keyed.of_law Tryz.law67
theorem Tryz.arr67:ArrKey Tryz.prog 189 5 4:=⟨Tryz.underlying189,by kernel_rfl,Tryz.cells5,Tryz.cells189⟩
def four(a b c d:Int):Value:= .agg #[.int .u8 a,.int .u8 b,.int .u8 c,.int .u8 d]
def Qw8(a b c d:Int):Lit:= .string (keyBytes [.int .u8 a,.int .u8 b,.int .u8 c,.int .u8 d])
theorem Qyl{a b c d:Int}(wa:(Lit.int .u8 a).wf=true)(wb:(Lit.int .u8 b).wf=true)(wc:(Lit.int .u8 c).wf=true)(wd:(Lit.int .u8 d).wf=true):keyOf Tryz.prog 189 (four a b c d)=some (Qw8 a b c d):=by
 have hkt:=Tryz.arr67.keyType ⟨266,by kernel_rfl⟩
 have hm:Tryz.prog.types.size=266+1:=by kernel_rfl
 unfold keyOf four
 simp only[Tryz.arr67.hu]
 rw[if_pos (by simp[hkt,Value.formed,Tryz.arr67.hu,Tryz.arr67.size]),hm]
 unfold Program.keyLits
 simp only[Tryz.arr67.hu,Value.cells]
 rw[if_pos (by rw[Tryz.arr67.size];rfl),show List.range 4= [0,1,2,3] from rfl,List.mapM_cons,List.mapM_cons,List.mapM_cons,List.mapM_cons,List.mapM_nil]
 simp[Tryz.arr67.one,Program.keyLits,Tryz.underlying5,wa,wb,wc,wd,Qw8]
theorem Qcp{a:Int}(h:0<=a∧a<=255):Lit.keyBytes (.int .u8 a)= [UInt8.ofNat a.toNat]:=by
 show [UInt8.ofNat ((a%2^8).toNat%256)]=_
 have h2:a%2^8=a:=Int.emod_eq_of_lt h.1 (by omega)
 rw[h2,Nat.mod_eq_of_lt (by omega)]
theorem Qki{a b:Int}(ha:0<=a∧a<=255)(hb:0<=b∧b<=255)(h:UInt8.ofNat a.toNat=UInt8.ofNat b.toNat):a=b:=by
 have:=congrArg UInt8.toNat h
 simp only[UInt8.toNat_ofNat'] at this
 omega
theorem Qz2{a b c d a' b' c' d':Int}(ha:0<=a∧a<=255)(hb:0<=b∧b<=255)(hc:0<=c∧c<=255)(hd:0<=d∧d<=255)(ha':0<=a'∧a'<=255)(hb':0<=b'∧b'<=255)(hc':0<=c'∧c'<=255)(hd':0<=d'∧d'<=255)
 (h:Qw8 a b c d=Qw8 a' b' c' d'):a=a'∧b=b'∧c=c'∧d=d':=by
 unfold Qw8 keyBytes at h
 simp only[List.flatMap_cons,List.flatMap_nil,Qcp ha,Qcp hb,Qcp hc,Qcp hd,Qcp ha',Qcp hb',Qcp hc',Qcp hd',Lit.string.injEq,List.cons_append,List.nil_append,List.cons.injEq] at h
 exact⟨Qki ha ha' h.1,Qki hb hb' h.2.1,Qki hc hc' h.2.2.1,Qki hd hd' h.2.2.2.1⟩
def Xjh(bs:List Int)(p:Nat):Value:=four (bs.getD p 0) (bs.getD (p+1) 0) (bs.getD (p+2) 0) (bs.getD (p+3) 0)
def Xj0(bs:List Int)(p:Nat):Lit:=Qw8 (bs.getD p 0) (bs.getD (p+1) 0) (bs.getD (p+2) 0) (bs.getD (p+3) 0)
def Qce(bs:List Int):Prop:=∀j,(Lit.int .u8 (bs.getD j 0)).wf=true
theorem Xhi{bs:List Int}(h:Qce bs)(p:Nat):keyOf Tryz.prog 189 (Xjh bs p)=some (Xj0 bs p):=Qyl (h _) (h _) (h _) (h _)
theorem Qqd{bs:List Int}(h:Qce bs)(p q:Nat):(Xj0 bs p=Xj0 bs q)↔Qeu bs p q=true:=by
 unfold Qeu
 simp only[Bool.and_eq_true,beq_iff_eq]
 constructor
 ·intro e
  exact Qz2 (wf_u8 (h _)) (wf_u8 (h _)) (wf_u8 (h _)) (wf_u8 (h _)) (wf_u8 (h _)) (wf_u8 (h _)) (wf_u8 (h _)) (wf_u8 (h _)) e
 ·rintro ⟨e0,e1,e2,e3⟩
  unfold Xj0
  rw[e0,e1,e2,e3]
theorem Xik(bs:List Int)(p:Nat):WideAt.IsKeyLit (Xj0 bs p):=trivial
theorem Xgj{bs:List Int}{p q:Nat}(h:Qeu bs p q=true)(x:Nat):Qeu bs x p=Qeu bs x q:=by
 unfold Qeu at *
 simp only[Bool.and_eq_true,beq_iff_eq] at h
 obtain⟨e0,e1,e2,e3⟩:=h
 rw[e0,e1,e2,e3]
theorem Xha{bs:List Int}{p q:Nat}(h:Qeu bs p q=true):∀m,nxt bs p m=nxt bs q m
 | 0=>rfl
 | m+1=>by unfold nxt;rw[Xgj h m,Xha h m]
def Mp(W:World)(b:Nat)(bs:List Int)(m:Nat):Prop:=
 ∃D:DataW Unit,W.ownsMap Tryz.prog 189 (plainElem Tryz.prog 3) b m D∧∀q,m<=q->q+4<=bs.length->D.atKey (Xj0 bs q) (.lit (.int .i64 0))= .lit (.int .i64 ((nxt bs q m:Nat):Int))
theorem Mp.new(w:World)(bs:List Int):Mp (w.alloc (.map #[] 0)) w.heap.size bs 0:=
 ⟨.map [],World.ownsMap_made w _ _ _,fun _ _ _=>rfl⟩
theorem Mp.kept{W W':World}{b m:Nat}{bs:List Int}{row:Option Nat}(h:Mp W b bs m)(hg:W.grownBy W' row)(hne:some b≠row):Mp W' b bs m:=by
 obtain⟨D,hD,hq⟩:=h
 exact⟨D,hD.kept hg hne,hq⟩
theorem Mp.below{W W':World}{b m n:Nat}{bs:List Int}(h:Mp W b bs m)(hb:Below n W W')(hn:b<n):Mp W' b bs m:=by
 obtain⟨D,⟨es,clock,hh,F,hs,hD⟩,hq⟩:=h
 exact⟨D,⟨es,clock,(hb.block b hn).trans hh,F,hs,hD⟩,hq⟩
theorem Mp.look{W:World}{b m:Nat}{bs:List Int}(h:Mp W b bs m)(h8:Qce bs)(q:Nat)(hq:m<=q)(hl:q+4<=bs.length):(Instr.lookup 185 (.map (some b)) (Xjh bs q) false).run Tryz.prog W= .ok (.int .i64 ((nxt bs q m:Nat):Int)) W:=by
 obtain⟨D,hD,hat⟩:=h
 obtain⟨c,hrun,hc,_⟩:=hD.lookup_int Tryz.keyed67 Tryz.underlying185 Tryz.underlying3 (Tryz.zeroValue3 _) (Xhi h8 q)
 rw[hat q hq hl] at hc
 simp only[DataW.lit.injEq,Lit.int.injEq,true_and] at hc
 rw[hc]
 exact hrun
theorem Mp.put{W:World}{b m:Nat}{bs:List Int}(h:Mp W b bs m)(h8:Qce bs)(hm:m<70000):∃W',(Instr.mapUpdate 185 (.map (some b)) (Xjh bs m) (.int .i64 (((m+1:Nat)):Int))).run Tryz.prog W= .ok () W'∧Mp W' b bs (m+1)∧W.grownBy W' (some b):=by
 obtain⟨D,hD,hat⟩:=h
 obtain⟨W',hrun,hown,hg⟩:=hD.update Tryz.keyed67 Tryz.underlying185 (by unfold maxLen;omega) (Xhi h8 m) (plainElem_int Tryz.underlying3 (a:=((m+1:Nat):Int)) (Qby (by omega) (by omega)))
 refine⟨W',hrun,⟨_,hown,fun q hq hl=>?_⟩,hg⟩
 have hmap:Maps.IsMap D:=by
  obtain⟨_,_,_,_,_,rfl⟩:=hD
  exact⟨_,rfl⟩
 by_cases hs:Qeu bs m q=true
 ·rw[<-(Qqd h8 m q).2 hs,Maps.atKey_put_same hmap (Xik bs m)]
  unfold nxt
  rw[if_pos hs]
 ·rw[Maps.atKey_put_other (fun e=>hs ((Qqd h8 m q).1 e.symm)),hat q (by omega) hl]
  show _=DataW.lit (.int .i64 (((if Qeu bs m q=true then m+1 else nxt bs q m):Nat):Int))
  rw[if_neg hs]
end
end Go.Proofs.YtibjlbcnapoblaaGreatDoor
