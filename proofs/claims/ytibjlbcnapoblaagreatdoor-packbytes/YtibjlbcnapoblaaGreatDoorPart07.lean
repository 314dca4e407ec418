/- Contracts and facts. -/
import Derived.Test.YtibjlbcnapoblaaGreatDoorPart06
import Derived.Laws.Cover3
import Derived.StillTailTactics
namespace Go.Proofs.YtibjlbcnapoblaaGreatDoor
set_option maxRecDepth 100000
set_option maxHeartbeats 6400000
section
open Go.RowKit Go.Shelf Lz Go.WideMaps
theorem Qlo{W:World}{B:Nat}{a b c d:Value}(h:W.heap[B]?=some (.cells #[a,b,c,d] 189 (0,0))):(loadVar 189 ⟨B,0,none⟩).run Tryz.prog W= .ok (.agg #[a,b,c,d]) W:=
 run_loadVar_row W B 189 189 #[a,b,c,d] (0,0) _ h Tryz.underlying189 rfl (by kernel_rfl)
theorem Qwe(bs:List Int)(q g gb off cap:Nat)(x1 x2:Value)(w:World)(hq:q<=bs.length)(hcap:bs.length<=cap)(hm:cap<=maxLen)(hL:bs.length<=65536)(hgb:gb<w.heap.size)
 (hblk:w.heap[g]?=some (.cells #[.slice (some ⟨gb,off,none⟩) bs.length cap,x1,x2] 187 (0,0)))
 (hc:∀j,j<bs.length->w.cell? ⟨gb,off+j,none⟩=some (.int .u8 (bs.getD j 0))) :
 Calls Tryz.prog 127 #[.pointer (some ⟨g,0,none⟩),.int .i64 (q:Int)] w fun e w'=>e= .returned (.tuple #[if q+4<=bs.length then Xjh bs q else four 0 0 0 0,.bool (decide (q+4<=bs.length))])∧Below w.heap.size w w':=by
 have hgw:g<w.heap.size:=(Array.getElem?_eq_some_iff.1 hblk).1
 unfold maxLen at hm
 have hbA:=Qaa w (.cells #[.int .u8 0,.int .u8 0,.int .u8 0,.int .u8 0] 189)
 have e0:(w.alloc (.cells #[.int .u8 0,.int .u8 0,.int .u8 0,.int .u8 0] 189)).heap[w.heap.size]?=some (.cells #[.int .u8 0,.int .u8 0,.int .u8 0,.int .u8 0] 189 (0,0)):=Qaj w _
 have c0:=Joins.cell_of_block (Qai _ (.cells #[.int .u8 0,.int .u8 0,.int .u8 0,.int .u8 0] 189) hblk) 0
 simp only[List.getElem?_toArray,List.getElem?_cons_zero] at c0
 obtain⟨L,hLe⟩:∃L,L=bs.length:=⟨_,rfl⟩
 have HL:=hid hLe
 have HBA:=hid hbA
 by_cases h4:q+4<=bs.length
 ·rw[if_pos h4]
  have b0:=(hbA.cell (p:=⟨gb,off+q,none⟩) hgb).trans (hc q (by omega))
  have b1:=(hbA.cell (p:=⟨gb,off+(q+1),none⟩) hgb).trans (hc (q+1) (by omega))
  have b2:=(hbA.cell (p:=⟨gb,off+(q+2),none⟩) hgb).trans (hc (q+2) (by omega))
  have b3:=(hbA.cell (p:=⟨gb,off+(q+3),none⟩) hgb).trans (hc (q+3) (by omega))
  have hd:decide (q+4<=bs.length)=true:=by simpa using h4
  rw[hd]
  clear hd hc hbA
  unfold Xjh
  generalize bs.getD q 0=y0 at *
  generalize bs.getD (q+1) 0=y1 at *
  generalize bs.getD (q+2) 0=y2 at *
  generalize bs.getD (q+3) 0=y3 at *
  rw[<-hLe] at c0 hq hcap hL h4
  have hz:¬(L:Int)-(q:Int)<4:=by omega
  have hq4:q+4<=cap:=by omega
  have harr:=run_arrayAt (P:=Tryz.prog) (w.alloc (.cells #[.int .u8 0,.int .u8 0,.int .u8 0,.int .u8 0] 189)) 189 5 4 (some ⟨gb,off+q,none⟩) 4 (cap-q) Tryz.underlying189 (by omega)
  have f0:=Joins.unfrozen_of_block e0 0
  have f1:=Joins.unfrozen_of_block e0 1
  have f2:=Joins.unfrozen_of_block e0 2
  have f3:=Joins.unfrozen_of_block e0 3
  have k0:=Joins.cell_of_block e0 0
  have k1:=Joins.cell_of_block e0 1
  have k2:=Joins.cell_of_block e0 2
  have k3:=Joins.cell_of_block e0 3
  simp only[List.getElem?_toArray,List.getElem?_cons_zero,List.getElem?_cons_succ] at k0 k1 k2 k3
  have HE0:=hid e0
  have l0:=b0
  have l1:(w.alloc (.cells #[.int .u8 0,.int .u8 0,.int .u8 0,.int .u8 0] 189)).cell? ⟨gb,off+q+1,none⟩=some (.int .u8 y1):=b1
  have l2:(w.alloc (.cells #[.int .u8 0,.int .u8 0,.int .u8 0,.int .u8 0] 189)).cell? ⟨gb,off+q+2,none⟩=some (.int .u8 y2):=b2
  have l3:(w.alloc (.cells #[.int .u8 0,.int .u8 0,.int .u8 0,.int .u8 0] 189)).cell? ⟨gb,off+q+3,none⟩=some (.int .u8 y3):=b3
  clear hblk hLe e0 b0 b1 b2 b3
  go_enter Tryz.func127,Tryz.ntmps127
  go_wp2
  refine bodyPost_ret (Qd9 (ty:=189) rfl _ _ w.heap.size _ rfl (Qlo (Qaj w _))) rfl ?_
  exact⟨rfl,Qaa _ _⟩
 ·rw[if_neg h4]
  have hd:decide (q+4<=bs.length)=false:=by simpa using h4
  rw[hd]
  rw[<-hLe] at c0 hq hcap hL h4
  have hz:(L:Int)-(q:Int)<4:=by omega
  clear hd hc hbA hblk hLe e0
  go_enter Tryz.func127,Tryz.ntmps127
  go_wp2
  refine bodyPost_ret (Qd9 (ty:=189) rfl _ _ w.heap.size _ rfl (Qlo (Qaj w _))) rfl ?_
  exact⟨rfl,Qaa _ _⟩
structure Pl (W:World) (n₀ g mb pb:Nat) (v:Value) (bs:List Int) (m:Nat) (ps:List Int):Prop where
 blk:W.heap[g]?=some (.cells #[v,.map (some mb),.slice (some ⟨pb,0,none⟩) bs.length bs.length] 187 (0,0))
 map:Mp W mb bs m
 row:W.ownsRow n₀ 3 1 (.slice (some ⟨pb,0,none⟩) bs.length bs.length) bs.length (ps.map (Value.int .i64))
 len:ps.length=bs.length
 vals:∀p,p<m->p+4<=bs.length->ps.getD p 0=((nxt bs p p:Nat):Int)
 bg:n₀<=g
 bm:n₀<=mb
 bp:n₀<=pb
theorem Pl.below{W W':World}{n₀ g mb pb:Nat}{v:Value}{bs:List Int}{m:Nat}{ps:List Int}(h:Pl W n₀ g mb pb v bs m ps)(hb:Below W.heap.size W W'):Pl W' n₀ g mb pb v bs m ps:=by
 have hg:=(Array.getElem?_eq_some_iff.1 h.blk).1
 have hmb:mb<W.heap.size:=by obtain⟨D,hD,_⟩:=h.map;exact hD.lt
 refine⟨(hb.block g hg).trans h.blk,h.map.below hb hmb,?_,h.len,h.vals,h.bg,h.bm,h.bp⟩
 refine⟨h.row.1,?_⟩
 rcases h.row.2 with hn | ⟨g',cap,cur,hv,hbs,hgg,rest⟩
 ·exact .inl hn
 ·exact .inr ⟨g',cap,cur,hv,hbs,(hb.block g' (Array.getElem?_eq_some_iff.1 hgg).1).trans hgg,rest⟩
theorem Tryz.info3Z:(Tryz.prog.info? 3).map (fun i=>(i.zero,i.size,i.bytes))=some (some (.int .i64 0),1,8):=by kernel_rfl
theorem Qoe(bs:List Int)(v0:Option Addr)(cap:Nat)(w:World)(hL:bs.length<=65536):
 Calls Tryz.prog 96 #[.slice v0 bs.length cap] w fun e w'=>∃g mb pb,e= .returned (.pointer (some ⟨g,0,none⟩))∧Pl w' w.heap.size g mb pb (.slice v0 bs.length cap) bs 0 (List.replicate bs.length 0)∧Below w.heap.size w w':=by
 obtain⟨L,hLe⟩:∃L,L=bs.length:=⟨_,rfl⟩
 have HL:=hid hLe
 rw[<-hLe] at hL|-
 obtain⟨i0,hi,hz0,hz1,hz2⟩:=info_parts Tryz.info3Z
 have hmm:=@run_makeMap Tryz.prog
 clear hLe
 go_enter Tryz.func96,Tryz.ntmps96
 go_wp2_with (first
  | (at_make;refine wpList_make_full _ rfl _ _ 112 rfl w.heap.size 3 i0 (.int .i64 0) 1 Tryz.underlying112 hi hz0 hz1 .i64 .i64 _ _ L rfl rfl (by first | rfl | omega) (by first | rfl | omega) ?b2 ?b3 ?b4 ?_))
 case b2=>rw[hz2];omega
 case b3=>unfold maxLen;omega
 case b4=>simp
 intro w5 hown0 hgrow
 have hsz:=hgrow.size
 have hB1:Below w.heap.size w w5:=(Qaa w _).grown hgrow (by simp) (fun k hk=>by cases hk)
 have hmap:Mp w5 w.heap.size bs 0:=(Mp.new w bs).kept hgrow (by simp)
 rw[toList_madeCells_one,HL.out] at hown0
 have hrow:w5.ownsRow w.heap.size 3 1 (.slice (some ⟨w.heap.size+1,0,none⟩) bs.length bs.length) bs.length ((List.replicate bs.length (0:Int)).map (Value.int .i64)):=by simpa using hown0
 have HF:Hid (Pl (w5.alloc (.cells #[.slice v0 L cap,.map (some w.heap.size),.slice (some ⟨w.heap.size+1,0,none⟩) L L] 187)) w.heap.size w5.heap.size w.heap.size (w.heap.size+1) (.slice v0 L cap) bs 0 (List.replicate L 0)):=by
  show Pl _ _ _ _ _ _ _ _ _
  rw[HL.out]
  exact⟨Qaj _ _,hmap.kept (World.grownBy_alloc w5 _ none) (by simp),hrow.kept (World.grownBy_alloc w5 _ none) (by simp[Value.ownBlock]),by simp,fun p hp=>absurd hp (by omega),by simp at hsz;omega,Nat.le_refl _,by omega⟩
 have HB:=hid (Bn hB1 (Qaa w5 (.cells #[.slice v0 L cap,.map (some w.heap.size),.slice (some ⟨w.heap.size+1,0,none⟩) L L] 187)))
 clear hown0 hgrow hsz hB1 hmap hrow
 go_wp2
 go_ret
 exact⟨_,_,_,rfl,HF.out,HB.out⟩
structure But (a b:Nat) (w w':World):Prop where
 size:w.heap.size<=w'.heap.size
 same:∀i,i<w.heap.size->i≠a->i≠b->w'.heap[i]?=w.heap[i]?
theorem But.trans{a b:Nat}{x y z:World}(h:But a b x y)(k:But a b y z):But a b x z:=
 ⟨Nat.le_trans h.size k.size,fun i hi h1 h2=>(k.same i (Nat.lt_of_lt_of_le hi h.size) h1 h2).trans (h.same i hi h1 h2)⟩
theorem But.of_below{a b:Nat}{w w':World}(h:Below w.heap.size w w'):But a b w w':=⟨h.size,fun i hi _ _=>h.block i hi⟩
theorem But.of_grown{a b:Nat}{w w':World}{row:Option Nat}(h:w.grownBy w' row)(hr:row=some a∨row=some b):But a b w w':=
 ⟨h.size,fun i hi h1 h2=>h.block i hi (fun e=>by rcases hr with r | r<;>rw[r] at e<;>injection e with e<;>omega)⟩
theorem But.row{a b:Nat}{w w':World}(h:But a b w w'){base:Nat}{e:TypeId}{size:Nat}{v:Value}{n:Nat}{xs:List Value}(ho:w.ownsRow base e size v n xs)(h1:v.ownBlock≠some a)(h2:v.ownBlock≠some b):w'.ownsRow base e size v n xs:=by
 refine⟨ho.1,?_⟩
 rcases ho.2 with hn | ⟨g,cap,cur,rfl,hb,hg,rest⟩
 ·exact .inl hn
 ·refine .inr ⟨g,cap,cur,rfl,hb,(h.same g (Array.getElem?_eq_some_iff.1 hg).1 (fun e=>h1 (by rw[e];rfl)) (fun e=>h2 (by rw[e];rfl))).trans hg,rest⟩
theorem Pl.ne1{W:World}{n₀ g mb pb:Nat}{v:Value}{bs:List Int}{m:Nat}{ps:List Int}(h:Pl W n₀ g mb pb v bs m ps):(∃cur,W.heap[pb]?=some (.cells cur 3 (0,0)))∧g≠pb∧mb≠pb∧g≠mb:=by
 have hp:∃cur,W.heap[pb]?=some (.cells cur 3 (0,0)):=by
  rcases h.row.2 with ⟨hv,_⟩ | ⟨g',cap,cur,hv,_,hg,_⟩
  ·cases hv
  ·injection hv with hv
   injection hv with hv
   injection hv with hv _
   subst hv
   exact⟨cur,hg⟩
 obtain⟨cur,hp⟩:=hp
 obtain⟨D,⟨es,clock,hh,_⟩,_⟩:=h.map
 refine⟨⟨cur,hp⟩,fun e=>?_,fun e=>?_,fun e=>?_⟩
 ·have hb:=h.blk;rw[e,hp] at hb;cases hb
 ·rw[e,hp] at hh;cases hh
 ·have hb:=h.blk;rw[e,hh] at hb;cases hb
theorem Pl.store{W:World}{n₀ g mb pb:Nat}{v:Value}{bs:List Int}{m:Nat}{ps:List Int}(h:Pl W n₀ g mb pb v bs m ps)(x:Int):Pl (W.setCell ⟨pb,m,none⟩ (.int .i64 x)) n₀ g mb pb v bs m (ps.set m x):=by
 obtain⟨⟨cur,hp⟩,n1,n2,n3⟩:=h.ne1
 have hst:=h.row.stored m (.int .i64 x)
 refine⟨by rw[Qa4 hp n1];exact h.blk,h.map.kept hst.2 (fun e=>n2 (by injection e)),?_,by rw[List.length_set];exact h.len,fun p hpm hl=>?_,h.bg,h.bm,h.bp⟩
 ·rw[List.map_set];exact hst.1
 ·rw[<-h.vals p hpm hl]
  simp[List.getD,List.getElem?_set_ne (show m≠p by omega)]
theorem Pl.mapped{W W':World}{n₀ g mb pb:Nat}{v:Value}{bs:List Int}{m:Nat}{ps:List Int}(h:Pl W n₀ g mb pb v bs m ps)(hv:ps.getD m 0=((nxt bs m m:Nat):Int))(hm:Mp W' mb bs (m+1))(hg:W.grownBy W' (some mb)):Pl W' n₀ g mb pb v bs (m+1) ps:=by
 obtain⟨⟨cur,hp⟩,n1,n2,n3⟩:=h.ne1
 have hgl:=(Array.getElem?_eq_some_iff.1 h.blk).1
 refine⟨(hg.block g hgl (fun e=>n3 (by injection e))).trans h.blk,hm,h.row.kept hg (.inr (fun e=>n2 (by simp[Value.ownBlock] at e;exact e.symm))),h.len,fun p hpm hl=>?_,h.bg,h.bm,h.bp⟩
 by_cases e:p=m
 ·subst e;exact hv
 ·exact h.vals p (by omega) hl
theorem Pl.skip{W:World}{n₀ g mb pb:Nat}{v:Value}{bs:List Int}{m:Nat}{ps:List Int}(h:Pl W n₀ g mb pb v bs m ps)(hm:bs.length<m+4):Pl W n₀ g mb pb v bs (m+1) ps:=by
 refine⟨h.blk,?_,h.row,h.len,fun p hp hl=>h.vals p (by omega) hl,h.bg,h.bm,h.bp⟩
 obtain⟨D,hD,_⟩:=h.map
 exact⟨D,hD.mono (by omega),fun q hq hl=>by omega⟩
theorem Qom(bs:List Int)(m n₀ g mb pb gb off cap:Nat)(ps:List Int)(w:World)(h8:Qce bs)(hP:Pl w n₀ g mb pb (.slice (some ⟨gb,off,none⟩) bs.length cap) bs m ps)(hm:m<bs.length)(hcap:bs.length<=cap)(hmx:cap<=maxLen)(hL:bs.length<=65536)(hgb:gb<w.heap.size)
 (hc:∀j,j<bs.length->w.cell? ⟨gb,off+j,none⟩=some (.int .u8 (bs.getD j 0))) :
 Calls Tryz.prog 99 #[.pointer (some ⟨g,0,none⟩),.int .i64 (m:Int)] w fun e w'=>(∃v,e= .returned v)∧(∃ps',Pl w' n₀ g mb pb (.slice (some ⟨gb,off,none⟩) bs.length cap) bs (m+1) ps')∧Below n₀ w w'∧But mb pb w w':=by
 have HK:=hid (Qwe bs m g gb off cap _ _ w (by omega) hcap hmx hL hgb hP.blk hc)
 have hn0:n₀<=w.heap.size:=by have:=(Array.getElem?_eq_some_iff.1 hP.blk).1;have:=hP.bg;omega
 have HP:=hid hP
 by_cases h4:m+4<=bs.length
 ·rw[if_pos h4,show decide (m+4<=bs.length)=true from by simpa using h4] at HK
  obtain⟨L,hLe⟩:∃L,L=bs.length:=⟨_,rfl⟩
  have HL:=hid hLe
  have hKV:Xjh bs m= .agg #[.int .u8 (bs.getD m 0),.int .u8 (bs.getD (m+1) 0),.int .u8 (bs.getD (m+2) 0),.int .u8 (bs.getD (m+3) 0)]:=rfl
  rw[hKV] at HK
  have HLK:Hid (∀W,Mp W mb bs m->(Instr.lookup 185 (.map (some mb)) (.agg #[.int .u8 (bs.getD m 0),.int .u8 (bs.getD (m+1) 0),.int .u8 (bs.getD (m+2) 0),.int .u8 (bs.getD (m+3) 0)]) false).run Tryz.prog W= .ok (.int .i64 ((nxt bs m m:Nat):Int)) W):=fun W hW=>hW.look h8 m (Nat.le_refl _) h4
  have HUP:Hid (∀W,Mp W mb bs m->∃W',(Instr.mapUpdate 185 (.map (some mb)) (.agg #[.int .u8 (bs.getD m 0),.int .u8 (bs.getD (m+1) 0),.int .u8 (bs.getD (m+2) 0),.int .u8 (bs.getD (m+3) 0)]) (.int .i64 (((m+1:Nat)):Int))).run Tryz.prog W= .ok () W'∧Mp W' mb bs (m+1)∧W.grownBy W' (some mb)):=fun W hW=>hW.put h8 (by omega)
  generalize bs.getD m 0=y0 at *
  generalize bs.getD (m+1) 0=y1 at *
  generalize bs.getD (m+2) 0=y2 at *
  generalize bs.getD (m+3) 0=y3 at *
  clear hP hc hKV
  go_enter Tryz.func99,Tryz.ntmps99
  go_wp2_with fail
  refine HK.out.mono ?_
  rintro _ w1 ⟨rfl,hb1⟩
  have hP1:=HP.out.below hb1
  clear HK
  go_wp2_with fail
  have hbA:=Qaa w1 (.cells #[.int .u8 y0,.int .u8 y1,.int .u8 y2,.int .u8 y3] 189)
  have e0:(w1.alloc (.cells #[.int .u8 y0,.int .u8 y1,.int .u8 y2,.int .u8 y3] 189)).heap[w1.heap.size]?=some (.cells #[.int .u8 y0,.int .u8 y1,.int .u8 y2,.int .u8 y3] 189 (0,0)):=Qaj w1 _
  have hP2:=hP1.below hbA
  have HB2:=hid (Bn hb1 hbA)
  clear hb1 hP1 hbA
  generalize w1.alloc (.cells #[.int .u8 y0,.int .u8 y1,.int .u8 y2,.int .u8 y3] 189)=W at *
  generalize w1.heap.size=kb at *
  have c1:=Joins.cell_of_block hP2.blk 1
  have c2:=Joins.cell_of_block hP2.blk 2
  have k0:=Joins.cell_of_block e0 0
  have k1:=Joins.cell_of_block e0 1
  have k2:=Joins.cell_of_block e0 2
  have k3:=Joins.cell_of_block e0 3
  simp only[List.getElem?_toArray,List.getElem?_cons_zero,List.getElem?_cons_succ] at c1 c2 k0 k1 k2 k3
  rw[<-hLe] at c2
  have hlk:=HLK.out W.drew hP2.map
  have hcell:∃u,W.cell? ⟨pb,m,none⟩=some u:=by
   rw[hP2.row.cellAt _ (by omega)]
   exact⟨_,List.getElem?_eq_getElem (by rw[List.length_map,hP2.len];exact hm)⟩
  obtain⟨u,hu⟩:=hcell
  have fu:=hP2.row.frozenAt m
  have hmL:(m:Int)<(L:Int):=by omega
  have HP2:=hid hP2
  have HE0:=hid e0
  clear hP2 e0 hLe
  have hmo:Tryz.prog.follows .mixedOrders=true:=by kernel_rfl
  go_still_tail 12,hmo
  go_wp2_with fail
  have hne:kb≠pb:=by
   obtain⟨⟨cur,hp⟩,_⟩:=HP2.out.ne1
   intro e
   have:=HE0.out
   rw[e,hp] at this
   cases this
  have hP3:Pl (W.setCell ⟨pb,m,none⟩ (.int .i64 ((nxt bs m m:Nat):Int))).drew n₀ g mb pb (.slice (some ⟨gb,off,none⟩) bs.length cap) bs m (ps.set m ((nxt bs m m:Nat):Int)):=by
   have h:=HP2.out.store ((nxt bs m m:Nat):Int)
   exact⟨h.blk,h.map,h.row,h.len,h.vals,h.bg,h.bm,h.bp⟩
  have e3:(W.setCell ⟨pb,m,none⟩ (.int .i64 ((nxt bs m m:Nat):Int))).drew.heap[kb]?=some (.cells #[.int .u8 y0,.int .u8 y1,.int .u8 y2,.int .u8 y3] 189 (0,0)):=by
   obtain⟨⟨cur,hp⟩,_⟩:=HP2.out.ne1
   exact(Qa4 hp hne _).trans HE0.out
  have hbut:But mb pb W (W.setCell ⟨pb,m,none⟩ (.int .i64 ((nxt bs m m:Nat):Int))).drew:=by
   have:=But.of_grown (a:=mb) (b:=pb) (HP2.out.row.stored m (.int .i64 ((nxt bs m m:Nat):Int))).2 (.inr rfl)
   exact⟨this.size,this.same⟩
  have hbl:Below n₀ W (W.setCell ⟨pb,m,none⟩ (.int .i64 ((nxt bs m m:Nat):Int))).drew:=((Below.refl n₀ W).setCell (p:=⟨pb,m,none⟩) HP2.out.bp _).drew
  have hv:(ps.set m ((nxt bs m m:Nat):Int)).getD m 0=((nxt bs m m:Nat):Int):=by
   have:m<ps.length:=by rw[HP2.out.len];exact hm
   simp[List.getD,List.getElem?_set_self this]
  have HV:=hid hv
  have HBUT:=hid hbut
  have HBL:=hid hbl
  clear hlk hu fu c1 c2 k0 k1 k2 k3 hne hv hbut hbl HE0 HP2
  generalize (W.setCell ⟨pb,m,none⟩ (.int .i64 ((nxt bs m m:Nat):Int))).drew=W3 at *
  have c1:=Joins.cell_of_block hP3.blk 1
  have k0:=Joins.cell_of_block e3 0
  have k1:=Joins.cell_of_block e3 1
  have k2:=Joins.cell_of_block e3 2
  have k3:=Joins.cell_of_block e3 3
  simp only[List.getElem?_toArray,List.getElem?_cons_zero,List.getElem?_cons_succ] at c1 k0 k1 k2 k3
  obtain⟨W4,hup,hM4,hg4⟩:=HUP.out W3.drew hP3.map
  rw[show(((m+1:Nat)):Int)=(m:Int)+1 from by omega] at hup
  have HP4:Hid (Pl W4 n₀ g mb pb (.slice (some ⟨gb,off,none⟩) bs.length cap) bs (m+1) (ps.set m ((nxt bs m m:Nat):Int))):=
   (show Pl W3.drew n₀ g mb pb (.slice (some ⟨gb,off,none⟩) bs.length cap) bs m (ps.set m ((nxt bs m m:Nat):Int)) from⟨hP3.blk,hP3.map,hP3.row,hP3.len,hP3.vals,hP3.bg,hP3.bm,hP3.bp⟩).mapped HV.out hM4 hg4
  have hbm:=hP3.bm
  have HB4:Hid (But mb pb w W4):=((But.of_below HB2.out).trans HBUT.out).trans ((⟨Nat.le_refl _,fun _ _ _ _=>rfl⟩:But mb pb W3 W3.drew).trans (But.of_grown hg4 (.inl rfl)))
  have hsz:n₀<=W3.drew.heap.size:=by have:=(Array.getElem?_eq_some_iff.1 hP3.blk).1;have:=hP3.bg;show n₀<=W3.heap.size;omega
  have HL4:Hid (Below n₀ w W4):=((HB2.out.mono hn0).trans HBL.out).trans ((Below.refl n₀ W3).drew.grown hg4 hsz (fun k hk=>by injection hk with hk;omega))
  clear hP3 e3 hM4 hg4 HV HBUT HBL HB2 hsz hbm
  have hm6:m<=65536:=by omega
  go_still_tail 7,hmo
  rw[IntWalk.i64_in _ ⟨by omega,by omega⟩]
  change wpList _ _ _ _ _ W3.drew
  go_wp2
  go_end0
  exact⟨⟨_,rfl⟩,⟨_,HP4.out⟩,HL4.out,HB4.out⟩
 ·rw[if_neg h4,show decide (m+4<=bs.length)=false from by simpa using h4] at HK
  clear hP hc
  go_enter Tryz.func99,Tryz.ntmps99
  go_wp2_with fail
  refine HK.out.mono ?_
  rintro _ w1 ⟨rfl,hb1⟩
  have HB1:=hid (Bn hb1 (Qaa w1 (.cells #[.int .u8 0,.int .u8 0,.int .u8 0,.int .u8 0] 189)))
  clear hb1 HK
  unfold four
  go_wp2
  go_end0
  exact⟨⟨_,rfl⟩,⟨ps,(HP.out.below HB1.out).skip (by omega)⟩,HB1.out.mono hn0,But.of_below HB1.out⟩
attribute [local go_sem] Oper.semAt_some
theorem Qnj(g q:Nat)(w:World):Calls Tryz.prog 98 #[.pointer (some ⟨g,0,none⟩),.int .i64 (q:Int)] w fun e w'=>e= .returned (.func (.func 126) #[] #[.pointer (some ⟨w.heap.size,0,none⟩),.pointer (some ⟨w.heap.size+1,0,none⟩)])∧w'=(w.alloc (.cells #[.pointer (some ⟨g,0,none⟩)] 144)).alloc (.cells #[.int .i64 (q:Int)] 3):=by
 go_enter Tryz.func98,Tryz.ntmps98
 go_wp2
 go_ret
 exact⟨rfl,rfl⟩
theorem Qdw{w w':World}(h:Below w.heap.size w w'):w.grownBy w' none:=⟨h.os,h.tape,h.output,h.size,fun k hk _=>h.block k hk⟩
theorem Qn5{bs:List Int}{q p:Nat}(h:p∈Qe3 bs q):p<q:=by
 unfold Qe3 at h
 split at h
 ·exact(Qha (List.mem_filter.1 h).1).1
 ·cases h
theorem Xa1(bs:List Int)(q:Nat):(Qe3 bs q).length<=q:=by
 unfold Qe3
 split
 ·refine Nat.le_trans (List.length_filter_le _ _) ?_
  simp[Qbv];omega
 ·simp
theorem Qtx(bs:List Int)(q n₁ g mb pb gb off cap sB aB:Nat)(ps:List Int)(w W0:World)(h8:Qce bs)(hP:Pl w n₁ g mb pb (.slice (some ⟨gb,off,none⟩) bs.length cap) bs q ps)(hq:q<bs.length)(hcap:bs.length<=cap)(hmx:cap<=maxLen)(hL:bs.length<=65536)
 (hgb:gb<w.heap.size) (hc:∀j,j<bs.length->w.cell? ⟨gb,off+j,none⟩=some (.int .u8 (bs.getD j 0)))
 (hsB:w.cell? ⟨sB,0,none⟩=some (.pointer (some ⟨g,0,none⟩))) (haB:w.cell? ⟨aB,0,none⟩=some (.int .i64 (q:Int))) (hs:sB<w.heap.size) (ha:aB<w.heap.size) (hW0:Below w.heap.size w W0) :
 Xfc 126 #[.pointer (some ⟨sB,0,none⟩),.pointer (some ⟨aB,0,none⟩)] q w.heap.size (Xh8 q (Qe3 bs q) (fun _ hp=>Qn5 hp)) W0:=fun l J Jx W hW hJ _ hY h0=>by
 have hbW:Below w.heap.size w W:=Bn hW0 hW
 obtain⟨xs,hxs⟩:∃xs,xs=Xh8 q (Qe3 bs q) (fun _ hp=>Qn5 hp):=⟨_,rfl⟩
 have hv:xs.map Fin.val=Qe3 bs q:=by rw[hxs];exact Qvf _
 have hl:xs.length<=q:=by rw[hxs,Xep];exact Xa1 bs q
 rw[<-hxs]
 have HV:=hid hv
 have HY:=hid hY
 have HL:=hid hl
 have HJ:=hid hJ
 have hs0:W.cell? ⟨sB,0,none⟩=some (.pointer (some ⟨g,0,none⟩)):=(hbW.cell (p:=⟨sB,0,none⟩) hs).trans hsB
 have ha0:W.cell? ⟨aB,0,none⟩=some (.int .i64 (q:Int)):=(hbW.cell (p:=⟨aB,0,none⟩) ha).trans haB
 have HSB:=hid hsB
 have HAB:=hid haB
 have HBW:=hid hbW
 have HP:=hid hP
 have hPW:=hP.below hbW
 have HK:=hid (Qwe bs q g gb off cap _ _ W (by omega) hcap hmx hL (Nat.lt_of_lt_of_le hgb hbW.size) hPW.blk (fun j hj=>(hbW.cell (p:=⟨gb,off+j,none⟩) hgb).trans (hc j hj)))
 have HPW:=hid hPW
 clear hY hxs hv hl hsB haB hW hW0 hJ hc hPW hP
 refine callsIn_of_wp Tryz.func126 rfl trivial ?_ rfl
 simp only[Tryz.ntmps126,List.size_toArray,List.length_cons,List.length_nil,Nat.reduceAdd,Nat.reduceSub,Array.replicate_succ,Array.replicate_zero,List.push_toArray,List.append_toArray,List.nil_append,List.cons_append]
 by_cases h4:q+4<=bs.length
 ·have HVV:Hid (xs.map Fin.val=chain bs q q):=by show _=_;rw[Qtm h4];exact HV.out
  rw[if_pos h4,show decide (q+4<=bs.length)=true from by simpa using h4] at HK
  have hKV:Xjh bs q= .agg #[.int .u8 (bs.getD q 0),.int .u8 (bs.getD (q+1) 0),.int .u8 (bs.getD (q+2) 0),.int .u8 (bs.getD (q+3) 0)]:=rfl
  rw[hKV] at HK
  have HLK:Hid (∀W,Mp W mb bs q->(Instr.lookup 185 (.map (some mb)) (.agg #[.int .u8 (bs.getD q 0),.int .u8 (bs.getD (q+1) 0),.int .u8 (bs.getD (q+2) 0),.int .u8 (bs.getD (q+3) 0)]) false).run Tryz.prog W= .ok (.int .i64 ((nxt bs q q:Nat):Int)) W):=fun W hW=>hW.look h8 q (Nat.le_refl _) h4
  generalize bs.getD q 0=y0 at *
  generalize bs.getD (q+1) 0=y1 at *
  generalize bs.getD (q+2) 0=y2 at *
  generalize bs.getD (q+3) 0=y3 at *
  clear hKV
  gi_wp2_with fail
  refine⟨trivial,?_⟩
  refine(callsIn_wide.2 HK.out).mono ?_
  rintro _ w1 ⟨rfl,hb1⟩
  clear HK hs0 ha0
  gi_wp2_with fail
  have hbA:=Qaa w1 (.cells #[.int .u8 y0,.int .u8 y1,.int .u8 y2,.int .u8 y3] 189)
  have e0:(w1.alloc (.cells #[.int .u8 y0,.int .u8 y1,.int .u8 y2,.int .u8 y3] 189)).heap[w1.heap.size]?=some (.cells #[.int .u8 y0,.int .u8 y1,.int .u8 y2,.int .u8 y3] 189 (0,0)):=Qaj w1 _
  have hb2:=Bn hb1 hbA
  have hP2:=HPW.out.below hb2
  have HB2:=hid (Bn HBW.out hb2)
  have HJ2:=hid (HJ.out [] W _ none h0 (Qdw hb2) (fun r e=>by cases e))
  clear hb1 hbA hb2 HPW h0 HBW hbW
  generalize w1.alloc (.cells #[.int .u8 y0,.int .u8 y1,.int .u8 y2,.int .u8 y3] 189)=W2 at *
  generalize w1.heap.size=kb at *
  have hs0:W2.cell? ⟨sB,0,none⟩=some (.pointer (some ⟨g,0,none⟩)):=(HB2.out.cell (p:=⟨sB,0,none⟩) hs).trans HSB.out
  have c1:=Joins.cell_of_block hP2.blk 1
  have k0:=Joins.cell_of_block e0 0
  have k1:=Joins.cell_of_block e0 1
  have k2:=Joins.cell_of_block e0 2
  have k3:=Joins.cell_of_block e0 3
  simp only[List.getElem?_toArray,List.getElem?_cons_zero,List.getElem?_cons_succ] at c1 k0 k1 k2 k3
  have hlk:∀n,(Instr.lookup 185 (.map (some mb)) (.agg #[.int .u8 y0,.int .u8 y1,.int .u8 y2,.int .u8 y3]) false).run Tryz.prog (W2.drewN n)= .ok (.int .i64 ((nxt bs q q:Nat):Int)) (W2.drewN n):=fun n=>HLK.out _ hP2.map
  clear hP2 e0
  refine wpIn_wide.2 ?_
  refine wp_region_quiet_lit (by kernel_rfl) (by kernel_rfl) ?_
  repeat (go_big_quiet_step (fail))
  refine wpQuiet_nil ?_
  intro _ hw'
  obtain⟨nq,hw''⟩:=hw'
  subst hw''
  have HB3:=hid (Qap HB2.out nq)
  have HJ3:=hid (HJ.out [] W2 (W2.drewN nq) none HJ2.out (Qdw (Qws W2 nq)) (fun r e=>by cases e))
  clear hlk hs0 c1 k0 k1 k2 k3 HB2 HJ2 HLK
  generalize W2.drewN nq=W4 at *
  gi_wp2_with fail
  have HNQ:Hid (nxt bs q q<=q):=Qvp bs q q
  gi_loopw [6] (fun p wr=>∃(pre rest:List (Fin q)) (m:Nat),m<=q∧p= .int .i64 ((nxt bs q m:Nat):Int)∧Hid (xs=pre++rest)∧Hid (rest.map Fin.val=chain bs q m)∧J pre wr∧Below w.heap.size w wr)
   (fun p _=>(intOf p).toNat)
  case atStart=>exact⟨[],xs,q,Nat.le_refl _,rfl,rfl,HVV.out,HJ3.out,HB3.out⟩
  case round=>
   clear HNQ HB3 HJ3
   obtain⟨pre,rest,m,hm,rfl,HX,HR,hJs,hb⟩:=hrel
   have hca:wr.cell? ⟨aB,0,none⟩=some (.int .i64 (q:Int)):=(hb.cell (p:=⟨aB,0,none⟩) ha).trans HAB.out
   have HC:=HR.out
   rw[Qro] at HC
   have hle:=Qvp bs q m
   have HSM:=hid (fun h=>Qv0 (bs:=bs) (q:=q) (m:=m) h)
   have HPV:=hid HP.out.vals
   generalize nxt bs q m=x at *
   by_cases hlt:0<x∧q-(x-1)<=4096
   ·obtain⟨hx1,hx2⟩:=hlt
    rw[if_pos ⟨hx1,hx2⟩] at HC
    obtain⟨y,r,rfl,hy,hr⟩:=Quh HC
    obtain⟨fn,tmps,assign,body,hyd,hRd⟩:=HY.out pre y wr hJs (by have:=HL.out;rw[HX.out] at this;simp at this;omega)
    rw[hy] at hyd
    obtain⟨i,hi⟩:∃i,i=x-1:=⟨_,rfl⟩
    rw[<-hi] at hyd hr
    have hiz:(x:Int)-1=(i:Int):=by omega
    have hx0:(0:Int)<(x:Int):=by omega
    have hiz2:(q:Int)-(i:Int)<=4096:=by omega
    have hsm:=HSM.out hx1
    rw[<-hi] at hsm
    have HNX:Hid ((ps.getD i 0:Int)=((nxt bs q i:Nat):Int)):=by
     show _=_
     rw[HPV.out i (by omega) (by omega),Xha hsm]
    have hiq:i<q:=by omega
    have hxi:x=i+1:=by omega
    have HXI:=hid hxi
    clear hi HC hsm hxi HSM hy
    gi_wp2
    refine hRd.mono ?_
    rintro e W3 (⟨rfl,hJ3,hk3⟩ | ⟨rfl,hJx3⟩)
    ·have hb3:=hb.trans hk3
     have hP3:=HP.out.below hb3
     have cs:=(hb3.cell (p:=⟨sB,0,none⟩) hs).trans HSB.out
     have c2:=Joins.cell_of_block hP3.blk 2
     simp only[List.getElem?_toArray,List.getElem?_cons_zero,List.getElem?_cons_succ] at c2
     have cp:W3.cell? ⟨pb,i,none⟩=some (.int .i64 ((nxt bs q i:Nat):Int)):=by
      rw[hP3.row.cellAt _ (by omega),List.getElem?_map,List.getElem?_eq_getElem (by rw[hP3.len];omega)]
      rw[<-HNX.out]
      simp[List.getD,List.getElem?_eq_getElem (show i<ps.length by rw[hP3.len];omega)]
     have hiL:(i:Int)<(bs.length:Int):=by omega
     have HB5:=hid hb3
     clear hP3 hb3 hk3 hb hca hRd hyd
     have hnl:=Qvp bs q i
     gi_wp2
     exact⟨⟨pre++ [y],r,i,by omega,rfl,hid (by rw[HX.out];simp),hid hr,hJ3,HB5.out⟩,by have:=HXI.out;simp[intOf];omega⟩
    ·gi_wp2
     refine bodyPost_ret (results_none rfl _ _ _) rfl ?_
     exact⟨⟨_,rfl⟩,.inr ⟨pre++ [y],⟨r,by rw[HX.out];simp⟩,hJx3⟩⟩
   ·rw[if_neg hlt] at HC
    obtain rfl:=Qm8 HC
    by_cases hx1:0<x
    ·have hz1:(0:Int)<(x:Int):=by omega
     have hz2:¬(q:Int)-((x:Int)-1)<=4096:=by omega
     gi_wp2
     go_end0
     exact⟨⟨_,rfl⟩,.inl (by rw[HX.out,List.append_nil];exact hJs)⟩
    ·have hz1:¬(0:Int)<(x:Int):=by omega
     gi_wp2
     go_end0
     exact⟨⟨_,rfl⟩,.inl (by rw[HX.out,List.append_nil];exact hJs)⟩
 ·rw[if_neg h4,show decide (q+4<=bs.length)=false from by simpa using h4] at HK
  have HVV:Hid (xs= []):=by
   refine Qm8 ?_
   rw[HV.out]
   unfold Qe3
   rw[if_neg h4]
  gi_wp2_with fail
  refine⟨trivial,?_⟩
  refine(callsIn_wide.2 HK.out).mono ?_
  rintro _ w1 ⟨rfl,hb1⟩
  unfold four
  have hbA:=Qaa w1 (.cells #[.int .u8 0,.int .u8 0,.int .u8 0,.int .u8 0] 189)
  have HJ2:=hid (HJ.out [] W _ none h0 (Qdw (Bn hb1 hbA)) (fun r e=>by cases e))
  clear HK hs0 ha0 hb1 hbA
  gi_wp2
  refine bodyPost_ret (results_none rfl _ _ _) rfl ?_
  exact⟨⟨_,rfl⟩,.inl ⟨[],HVV.out.symm,HJ2.out⟩⟩
end
section
open Go.RowKit Go.Shelf Lz Go.ChangeShapes Go.WideShapes
def Qj5(t:Tok):List Value:= [.int .i64 (t.1:Int),.int .i64 (t.2.1:Int),.int .u8 t.2.2]
theorem Qod(t:Tok):∀u∈Qj5 t,u.oneCell'=true:=by
 intro u hu
 simp[Qj5] at hu
 rcases hu with rfl | rfl | rfl<;>rfl
theorem Qq9(l:List Tok)(t:Tok):(l++ [t]).flatMap Qj5=l.flatMap Qj5++Qj5 t:=by simp
def Qm4(bs:List Int):List Tok×Int:=if 65536<bs.length then ([],2) else (Qgh bs,0)
def Qga(bs:List Int)(w:World)(e:Ending)(w':World):Prop:=
 ∃v,e= .returned (.tuple #[v,.int .i64 (Qm4 bs).2])∧w'.ownsRow w.heap.size 109 3 v (Qm4 bs).1.length ((Qm4 bs).1.flatMap Qj5)∧Below w.heap.size w w'
theorem Tryz.info109:(Tryz.prog.info? 109).map (fun i=>(i.zero,i.size,i.bytes))=some (some (.agg #[.int .i64 0,.int .i64 0,.int .u8 0]),3,24):=by kernel_rfl
theorem Qk4(w:World)(base:Nat):w.ownsRow base 109 3 (.slice none 0 0) 0 []:=⟨rfl,.inl ⟨rfl,rfl⟩⟩
theorem Qsu(w:World)(t:Tok)(j:Nat)(u:Value)(h:(Qj5 t)[j]?=some u):(w.alloc (.cells (Qnk t) 109)).cell? ((⟨w.heap.size,0,none⟩:Addr).add j)=some u:=by
 have e:=Joins.cell_of_block (Qaj w (.cells (Qnk t) 109)) j
 rw[add_plain,Nat.zero_add,e]
 unfold Qnk Qj5 at *
 rw[List.getElem?_toArray]
 exact h
theorem Qbx{w w':World}{base:Nat}{e:TypeId}{size:Nat}{v:Value}{n:Nat}{xs:List Value}(h:w.ownsRow base e size v n xs)(hb:Below w.heap.size w w'):w'.ownsRow base e size v n xs:=
 h.kept (Qdw hb) (by cases v.ownBlock<;>simp)
theorem Qiv{w:World}{base:Nat}{e:TypeId}{size:Nat}{v:Value}{n:Nat}{xs:List Value}(h:w.ownsRow base e size v n xs):∀g,v.ownBlock=some g->base<=g∧g<w.heap.size:=by
 intro g hg
 rcases h.2 with ⟨rfl,_⟩ | ⟨g',cap,cur,rfl,hb,hh,_⟩
 ·cases hg
 ·simp only[Value.ownBlock,Option.some.injEq] at hg
  subst hg
  exact⟨hb,(Array.getElem?_eq_some_iff.1 hh).1⟩
end
section
open Go.RowKit Go.Shelf Lz
theorem Pl.apart{W:World}{n₀ g mb pb:Nat}{v:Value}{bs:List Int}{m:Nat}{ps:List Int}(h:Pl W n₀ g mb pb v bs m ps){x:Value}{n:Nat}{xs:List Value}(ho:W.ownsRow n₀ 109 3 x n xs):x.ownBlock≠some mb∧x.ownBlock≠some pb:=by
 obtain⟨⟨cur,hp⟩,_⟩:=h.ne1
 obtain⟨D,⟨es,clock,hh,_⟩,_⟩:=h.map
 rcases ho.2 with ⟨rfl,_⟩ | ⟨g',cap,cur',rfl,_,hg,_⟩
 ·exact⟨by simp[Value.ownBlock],by simp[Value.ownBlock]⟩
 ·constructor
  ·intro e
   simp only[Value.ownBlock,Option.some.injEq] at e
   rw[e,hh] at hg
   cases hg
  ·intro e
   simp only[Value.ownBlock,Option.some.injEq] at e
   rw[e,hp] at hg
   cases hg
theorem Qry(bs:List Int)(q n₁ g mb pb gb off cap:Nat)(ps:List Int)(w:World)(h8:Qce bs)(hP:Pl w n₁ g mb pb (.slice (some ⟨gb,off,none⟩) bs.length cap) bs q ps)(hq:q<bs.length)(hcap:bs.length<=cap)(hmx:cap<=maxLen)(hL:bs.length<=65536)
 (hgb:gb<w.heap.size) (hc:∀j,j<bs.length->w.cell? ⟨gb,off+j,none⟩=some (.int .u8 (bs.getD j 0))) :
 Calls Tryz.prog 97 #[.slice (some ⟨gb,off,none⟩) bs.length cap,.int .i64 (q:Int),.func (.func 126) #[] #[.pointer (some ⟨w.heap.size,0,none⟩),.pointer (some ⟨w.heap.size+1,0,none⟩)]] ((w.alloc (.cells #[.pointer (some ⟨g,0,none⟩)] 144)).alloc (.cells #[.int .i64 (q:Int)] 3)) fun e w'=>e= .returned (.agg (Qnk (Qb7 bs q)))∧Below w.heap.size w w':=by
 have hb:=Bn (Qaa w (.cells #[.pointer (some ⟨g,0,none⟩)] 144)) (Qaa (w.alloc (.cells #[.pointer (some ⟨g,0,none⟩)] 144)) (.cells #[.int .i64 (q:Int)] 3))
 have hP2:=hP.below hb
 have e0:=Qai (w.alloc (.cells #[.pointer (some ⟨g,0,none⟩)] 144)) (.cells #[.int .i64 (q:Int)] 3) (Qaj w (.cells #[.pointer (some ⟨g,0,none⟩)] 144))
 have e1:=Qaj (w.alloc (.cells #[.pointer (some ⟨g,0,none⟩)] 144)) (.cells #[.int .i64 (q:Int)] 3)
 rw[World.size_alloc] at e1
 have hc2:∀j,j<bs.length->((w.alloc (.cells #[.pointer (some ⟨g,0,none⟩)] 144)).alloc (.cells #[.int .i64 (q:Int)] 3)).cell? ⟨gb,off+j,none⟩=some (.int .u8 (bs.getD j 0)):=fun j hj=>(hb.cell (p:=⟨gb,off+j,none⟩) hgb).trans (hc j hj)
 have hsz:((w.alloc (.cells #[.pointer (some ⟨g,0,none⟩)] 144)).alloc (.cells #[.int .i64 (q:Int)] 3)).heap.size=w.heap.size+1+1:=by simp only[World.size_alloc]
 have h:=Qqs bs q gb off cap ((w.alloc (.cells #[.pointer (some ⟨g,0,none⟩)] 144)).alloc (.cells #[.int .i64 (q:Int)] 3)) hq hcap hmx hL (by omega) hc2
  126 #[.pointer (some ⟨w.heap.size,0,none⟩),.pointer (some ⟨w.heap.size+1,0,none⟩)] (Xh8 q (Qe3 bs q) (fun _ hp=>Qn5 hp)) (enters_of Tryz.func126 (by kernel_rfl) rfl)
  (fun W hW=>Qtx bs q n₁ g mb pb gb off cap w.heap.size (w.heap.size+1) ps _ W h8 hP2 hq hcap hmx hL (by omega) hc2 (Joins.cell_of_block e0 0) (Joins.cell_of_block e1 0) (by omega) (by omega) hW)
 rw[Qvf,Qui] at h
 exact h.mono fun e w' ⟨he,hw⟩=>⟨he,Bn hb hw⟩
theorem Qte(a:Option Addr)(cap:Nat)(bs:List Int)(w:World)(hr:Ri w .u8 a cap bs):
 Calls Tryz.prog 65 #[.slice a bs.length cap] w (Qga bs w):=by
 have hroom:=hr.room
 have hmx:=hr.most
 have hmost:=hr.most
 have h8:Qce bs:=hr.fits
 unfold maxLen at hmost
 have HMX:=hid hmx
 have HR:=hid hr
 have H8:=hid h8
 clear hr h8 hmx
 unfold Qga
 by_cases hlong:65536<bs.length
 ·have HO:Hid (Qm4 bs=([],2)):=by show _=_;unfold Qm4;rw[if_pos hlong]
  have hz0:(65536:Int)<(bs.length:Int):=by omega
  generalize bs.length=L at *
  go_enter Tryz.func65,Tryz.ntmps65
  go_wp2
  go_ret2
  exact⟨.slice none 0 0,by rw[HO.out];rfl,by rw[HO.out];exact Qk4 _ _,Below.refl _ _⟩
 ·have HO:Hid (Qm4 bs=(from_ bs 0,0)):=by show _=_;unfold Qm4;rw[if_neg hlong,Qej]
  have hz0:¬(65536:Int)<(bs.length:Int):=by omega
  obtain⟨i0,hi,hi0,hi1,hi2⟩:=info_parts Tryz.info109
  have HNEW:=hid (Qoe bs a cap w (by omega))
  have HLG:Hid (∀q,q<bs.length->∀W g mb pb ps,Below w.heap.size w W->Pl W w.heap.size g mb pb (.slice a bs.length cap) bs q ps ->
   Calls Tryz.prog 97 #[.slice a bs.length cap,.int .i64 (q:Int),.func (.func 126) #[] #[.pointer (some ⟨W.heap.size,0,none⟩),.pointer (some ⟨W.heap.size+1,0,none⟩)]] ((W.alloc (.cells #[.pointer (some ⟨g,0,none⟩)] 144)).alloc (.cells #[.int .i64 (q:Int)] 3)) fun e w'=>e= .returned (.agg (Qnk (Qb7 bs q)))∧Below W.heap.size W w'):=fun q hq W g mb pb ps hW hP=>by
   obtain⟨gb,off,rfl,hgw,hc⟩:=(HR.out.later hW).cells (by omega)
   exact Qry bs q w.heap.size g mb pb gb off cap ps W H8.out hP hq hroom HMX.out (by omega) hgw hc
  have HADD:Hid (∀m,m<bs.length->∀W g mb pb ps,Below w.heap.size w W->Pl W w.heap.size g mb pb (.slice a bs.length cap) bs m ps ->
   Calls Tryz.prog 99 #[.pointer (some ⟨g,0,none⟩),.int .i64 (m:Int)] W fun e w'=>(∃v,e= .returned v)∧(∃ps',Pl w' w.heap.size g mb pb (.slice a bs.length cap) bs (m+1) ps')∧Below w.heap.size W w'∧But mb pb W w'):=fun m hm W g mb pb ps hW hP=>by
   obtain⟨gb,off,rfl,hgw,hc⟩:=(HR.out.later hW).cells (by omega)
   exact Qom bs m w.heap.size g mb pb gb off cap ps W H8.out hP hm hroom HMX.out (by omega) hgw hc
  have HLN:Hid (∀q,q<bs.length->1<=(Qb7 bs q).2.1∧q+(Qb7 bs q).2.1<=bs.length∧(Qb7 bs q).2.1<=258):=fun q hq=>Qfw bs q hq
  have HST:Hid (∀q,q<bs.length->from_ bs q=Qb7 bs q::from_ bs (q+(Qb7 bs q).2.1)):=fun q hq=>Qfi hq
  have HEN:Hid (∀q,¬q<bs.length->from_ bs q= []):=fun q hq=>Qe5 hq
  obtain⟨L,hLe⟩:∃L,L=bs.length:=⟨_,rfl⟩
  rw[<-hLe] at hz0 hlong hroom HLG HLN HST HEN HNEW HADD|-
  clear hLe HR
  go_enter Tryz.func65,Tryz.ntmps65
  go_wp2_with fail
  refine HNEW.out.mono ?_
  rintro _ w0 ⟨g,mb,pb,rfl,hP0,hb0⟩
  have HP0:=hid hP0
  have HB0:=hid hb0
  clear HNEW hP0 hb0
  go_wp2_with fail
  go_loopw [4,6] (fun x4 x6 wr=>∃(q:Nat) (dn:List Tok) (ps:List Int),q<=L∧x6= .int .i64 (q:Int)∧dn.length<=q∧wr.ownsRow w.heap.size 109 3 x4 dn.length (dn.flatMap Qj5)∧Below w.heap.size w wr∧Pl wr w.heap.size g mb pb (.slice a L cap) bs q ps∧Hid (from_ bs 0=dn++from_ bs q)) (fun _ x6 _=>L-(intOf x6).toNat)
  case atStart=>exact⟨0,[],_,by omega,rfl,by simp,Qk4 _ _,HB0.out,HP0.out,rfl⟩
  case round=>
   clear HP0 HB0
   obtain⟨q,dn,ps,hq,rfl,hdn,hown,hbel,hP,HF⟩:=hrel
   by_cases hlt:q<L
   ·have hqz:(q:Int)<(L:Int):=by omega
    have HC:=hid (HLG.out q hlt wr g mb pb ps hbel hP)
    obtain⟨h1,h2,h3⟩:=HLN.out q hlt
    have HS:=hid (HST.out q hlt)
    obtain⟨⟨x0,x1,x2⟩,ht⟩:∃t,Qb7 bs q=t:=⟨_,rfl⟩
    rw[ht] at HC HS h1 h2 h3
    clear ht
    dsimp only at h1 h2 h3 HS
    have hw0:=hbel.size
    have HPP:=hid hP
    clear hP
    go_wp2_with fail
    refine(Qnj g q wr).mono ?_
    rintro _ wz ⟨rfl,rfl⟩
    go_wp2_with fail
    refine HC.out.mono ?_
    rintro _ w1 ⟨rfl,hb1⟩
    simp only[Qnk]
    have hown1:=Qbx (Qbx hown hb1) (Qaa w1 (.cells #[.int .i64 (x0:Int),.int .i64 (x1:Int),.int .u8 x2] 109))
    have hw1:=hb1.size
    have HNW:=hid (fun j u h=>Qsu (w1.alloc (.cells #[.int .i64 (x0:Int),.int .i64 (x1:Int),.int .u8 x2] 109)) (x0,x1,x2) j u h)
    simp only[World.size_alloc] at HNW
    have eT:(w1.alloc (.cells #[.int .i64 (x0:Int),.int .i64 (x1:Int),.int .u8 x2] 109)).heap[w1.heap.size]?=some (.cells #[.int .i64 (x0:Int),.int .i64 (x1:Int),.int .u8 x2] 109 (0,0)):=Qaj _ _
    go_wp2_with (at_builtin;refine wpList_append_own _ rfl _ _ 81 rfl w.heap.size 109 i0 (.agg #[.int .i64 0,.int .i64 0,.int .u8 0]) 3 24 Tryz.underlying81 hi hi0 hi1 hi2 rfl (by decide) _ _ _ rfl (hown1.alloc _) ⟨w1.heap.size+1,0,none⟩ 1 1 (Qj5 (x0,x1,x2)) rfl rfl HNW.out (Qod _) (by unfold maxLen;omega) (by omega) (by simp;omega) ?_)
    intro v' w3 hown3 hgrow3 _
    have hob:=Qiv hown
    have e3:Tb w3 w1.heap.size (x0,x1,x2):=by
     refine(hgrow3.block w1.heap.size (by simp;omega) (fun e=>?_)).trans (Qai _ _ eT)
     have:=(hob _ e.symm).2
     omega
    have c1:=e3.c1
    dsimp only at c1
    have hbT:=Bn (Bn hb1 (Qaa w1 (.cells #[.int .i64 (x0:Int),.int .i64 (x1:Int),.int .u8 x2] 109))) (Qaa (w1.alloc (.cells #[.int .i64 (x0:Int),.int .i64 (x1:Int),.int .u8 x2] 109)) (.cells #[.int .i64 (x0:Int),.int .i64 (x1:Int),.int .u8 x2] 109))
    have HB3:Hid (Below w.heap.size w w3):=(Bn hbel hbT).grown hgrow3 (by simp;omega) (fun g hg=>(hob g hg).1)
    have HO3:Hid (w3.ownsRow w.heap.size 109 3 v' (dn++ [(x0,x1,x2)]).length ((dn++ [(x0,x1,x2)]).flatMap Qj5)):=by
     show World.ownsRow _ _ _ _ _ _ _
     rw[Qq9,List.length_append]
     exact hown3
    have HP3:Hid (Pl w3 w.heap.size g mb pb (.slice a L cap) bs q ps):=by
     have hPT:=HPP.out.below hbT
     obtain⟨n1,n2⟩:=HPP.out.apart hown
     have hgl:=(Array.getElem?_eq_some_iff.1 hPT.blk).1
     have hng:u4.ownBlock≠some g:=fun e=>by
      have hk:=HPP.out.blk
      rcases hown.2 with ⟨hv,_⟩ | ⟨g',cap',cur',hv,_,hg',_⟩
      ·rw[hv] at e;cases e
      ·rw[hv] at e
       simp only[Value.ownBlock,Option.some.injEq] at e
       rw[e,hk] at hg'
       cases hg'
     exact⟨(hgrow3.block g hgl (fun e=>hng e.symm)).trans hPT.blk,hPT.map.kept hgrow3 (fun e=>n1 e.symm),hPT.row.kept hgrow3 (.inr (fun e=>n2 e.symm)),hPT.len,hPT.vals,hPT.bg,hPT.bm,hPT.bp⟩
    clear hown3 hgrow3 e3 eT hown1 hown hob HNW HC HPP hbT hb1 hbel
    generalize hdd:dn++ [(x0,x1,x2)]=dd at *
    have HDD:=hid hdd
    clear hdd
    go_wp2_with fail
    clear c1
    go_loopw [6,29] (fun y6 y29 wi=>∃(j:Nat) (ps':List Int),j<=x1∧y6= .int .i64 ((q+j:Nat):Int)∧y29= .int .i64 (j:Int)∧wi.ownsRow w.heap.size 109 3 v' dd.length (dd.flatMap Qj5)∧Below w.heap.size w wi∧Pl wi w.heap.size g mb pb (.slice a L cap) bs (q+j) ps') (fun _ y29 _=>x1-(intOf y29).toNat)
    case atStart=>exact⟨0,ps,by omega,rfl,rfl,HO3.out,HB3.out,HP3.out⟩
    case round=>
     clear HO3 HB3 HP3
     obtain⟨j,ps',hj,rfl,rfl,howni,hbi,hPi⟩:=hrel
     by_cases hji:j<x1
     ·have hjz:(j:Int)<(x1:Int):=by omega
      have HA:=hid (HADD.out (q+j) (by omega) wr g mb pb ps' hbi hPi)
      obtain⟨n1,n2⟩:=hPi.apart howni
      have HOI:=hid howni
      have HBI:=hid hbi
      have hqj:q+j<=65536:=by omega
      have HQ:Hid (((q+j:Nat):Int)+1=((q+(j+1):Nat):Int)):=by show _=_;omega
      clear howni hbi hPi
      obtain⟨m,hm⟩:∃m,m=q+j:=⟨_,rfl⟩
      have HM:Hid (m+1=q+(j+1)):=by show _=_;omega
      rw[<-hm] at HA HQ hqj|-
      clear hm
      go_wp2_with fail
      refine HA.out.mono ?_
      rintro _ w5 ⟨⟨v,rfl⟩,⟨ps2,hP5⟩,hb5,hbut5⟩
      have HO5:=hid (hbut5.row HOI.out n1 n2)
      have HB5:=hid (HBI.out.trans hb5)
      have HP5:=hid hP5
      clear hP5 hb5 hbut5 HA n1 n2
      go_wp2
      exact⟨⟨j+1,ps2,by omega,by rw[HQ.out],by go_num,HO5.out,HB5.out,HM.out ▸ HP5.out⟩,by simp[intOf];omega⟩
     ·obtain rfl:j=x1:=by omega
      have hjz:¬(j:Int)<(j:Int):=by omega
      go_wp2
      have hdl:dd.length=dn.length+1:=by rw[<-HDD.out];simp
      exact⟨⟨q+j,dd,ps',by omega,rfl,by omega,howni,hbi,hPi,hid (by rw[HF.out,HS.out,<-HDD.out];simp)⟩,by simp[intOf];omega⟩
   ·rw[HEN.out q hlt,List.append_nil] at HF
    have hqz:¬(q:Int)<(L:Int):=by omega
    go_wp2
    go_ret2
    exact⟨_,by rw[HO.out];rfl,by rw[HO.out,HF.out];exact hown,hbel⟩
end
end Go.Proofs.YtibjlbcnapoblaaGreatDoor
