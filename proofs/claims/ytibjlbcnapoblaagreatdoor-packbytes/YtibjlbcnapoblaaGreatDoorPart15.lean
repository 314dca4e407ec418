/- Contracts and facts. -/
import Derived.Test.YtibjlbcnapoblaaGreatDoorPart14
namespace Go.Proofs.YtibjlbcnapoblaaGreatDoor
set_option maxRecDepth 100000
set_option maxHeartbeats 6400000
section
open Go.RowKit Hf
structure TM (w wr:World) (gy gN gl gp gr capN n:Nat) (vy:Value) (s:TS):Prop where
 sy:wr.heap[gy]?=some (.cells #[vy] 112 (0,0))
 nd:wr.heap[gN]?=some (.cells #[.slice (some ⟨gr,0,none⟩) s.N.length capN] 231 (0,0))
 lf:wr.heap[gl]?=some (.cells #[.int .i64 (s.l:Int)] 3 (0,0))
 pr:wr.heap[gp]?=some (.cells #[.int .i64 (s.p:Int)] 3 (0,0))
 row:wr.ownsRow w.heap.size 234 2 (.slice (some ⟨gr,0,none⟩) s.N.length capN) s.N.length ((Qc4 s.N).map (Value.int .i64))
 ne:gl≠gp
 by':w.heap.size<=gy
 bN:w.heap.size<=gN
 bl:w.heap.size<=gl
 bp:w.heap.size<=gp
 bel:Below w.heap.size w wr
theorem TM.wtCell{w wr:World}{gy gN gl gp gr capN n:Nat}{vy:Value}{s:TS}(h:TM w wr gy gN gl gp gr capN n vy s)(i:Nat)(hi:i<s.N.length):wr.cell? ⟨gr,i*2,none⟩=some (.int .i64 (wt s.N i)):=by
 rw[Nat.mul_comm i 2,h.row.cellAt (2*i) (by omega),List.getElem?_map,<-Qog]
 have hl:=Qd2 s.N
 simp[List.getD,List.getElem?_eq_getElem (show 2*i<(Qc4 s.N).length from by omega)]
theorem TM.rowBlk{w wr:World}{gy gN gl gp gr capN n:Nat}{vy:Value}{s:TS}(h:TM w wr gy gN gl gp gr capN n vy s):∃cur,wr.heap[gr]?=some (.cells cur 234 (0,0)):=by
 rcases h.row.2 with ⟨hv,_⟩ | ⟨g,cap,cur,hv,hb,hg,_⟩
 ·cases hv
 ·injection hv with hv
  injection hv with hv
  injection hv with hv _
  subst hv
  exact⟨cur,hg⟩
theorem Qaw{wr:World}{a b:Nat}{c1 c2:Array Value}{t1 t2:TypeId}{m1 m2:Nat×Nat}(h1:wr.heap[a]?=some (.cells c1 t1 m1))(h2:wr.heap[b]?=some (.cells c2 t2 m2))(ht:t1≠t2):a≠b:=by
 intro e;subst e
 rw[h1] at h2
 injection h2 with h2
 injection h2 with _ h3 _
 exact ht h3
theorem TM.drew{w wr:World}{gy gN gl gp gr capN n:Nat}{vy:Value}{s:TS}(h:TM w wr gy gN gl gp gr capN n vy s):TM w wr.drew gy gN gl gp gr capN n vy s:=
 ⟨h.sy,h.nd,h.lf,h.pr,h.row,h.ne,h.by',h.bN,h.bl,h.bp,h.bel.drew⟩
theorem TM.setL{w wr:World}{gy gN gl gp gr capN n:Nat}{vy:Value}{s:TS}(h:TM w wr gy gN gl gp gr capN n vy s)(x:Nat):TM w (wr.setCell ⟨gl,0,none⟩ (.int .i64 (x:Int))) gy gN gl gp gr capN n vy ⟨s.N,x,s.p⟩:=by
 obtain⟨cur,hcur⟩:=h.rowBlk
 have n1:gy≠gl:=Qaw h.sy h.lf (by decide)
 have n2:gN≠gl:=Qaw h.nd h.lf (by decide)
 have n3:gr≠gl:=Qaw hcur h.lf (by decide)
 refine⟨by rw[Qac h.lf n1];exact h.sy,by rw[Qac h.lf n2];exact h.nd,by rw[Joins.block_setCell h.lf];rfl,by rw[Qac h.lf (Ne.symm h.ne)];exact h.pr,?_,h.ne,h.by',h.bN,h.bl,h.bp,h.bel.setCell (show w.heap.size<=(Addr.mk gl 0 none).block from h.bl) _⟩
 exact ownsRow_setCell_other h.row (by simp[Value.ownBlock];exact n3) _
theorem TM.setP{w wr:World}{gy gN gl gp gr capN n:Nat}{vy:Value}{s:TS}(h:TM w wr gy gN gl gp gr capN n vy s)(x:Nat):TM w (wr.setCell ⟨gp,0,none⟩ (.int .i64 (x:Int))) gy gN gl gp gr capN n vy ⟨s.N,s.l,x⟩:=by
 obtain⟨cur,hcur⟩:=h.rowBlk
 have n1:gy≠gp:=Qaw h.sy h.pr (by decide)
 have n2:gN≠gp:=Qaw h.nd h.pr (by decide)
 have n3:gr≠gp:=Qaw hcur h.pr (by decide)
 refine⟨by rw[Qac h.pr n1];exact h.sy,by rw[Qac h.pr n2];exact h.nd,by rw[Qac h.pr h.ne];exact h.lf,by rw[Joins.block_setCell h.pr];rfl,?_,h.ne,h.by',h.bN,h.bl,h.bp,h.bel.setCell (show w.heap.size<=(Addr.mk gp 0 none).block from h.bp) _⟩
 exact ownsRow_setCell_other h.row (by simp[Value.ownBlock];exact n3) _
theorem Qgy(gy gN gl gp gr capN n:Nat)(ay:Option Addr)(cy:Nat)(s:TS)(w wr:World)(h:TM w wr gy gN gl gp gr capN n (.slice ay n cy) s)(hn:n<=100000)(hlen:s.N.length<=200000)(ln:s.l<=n)(np:n<=s.p)(pl:s.p<=s.N.length)(hfree:0<(n-s.l)+(s.N.length-s.p)):
 Calls Tryz.prog 176 #[.pointer (some ⟨gp,0,none⟩),.pointer (some ⟨gN,0,none⟩),.pointer (some ⟨gl,0,none⟩),.pointer (some ⟨gy,0,none⟩)] wr fun e w'=>e= .returned (.int .i64 ((takeA n s.N s.l s.p:Nat):Int))∧TM w w' gy gN gl gp gr capN n (.slice ay n cy) ⟨s.N,Qa0 n s.N s.l s.p,Qay n s.N s.l s.p⟩:=by
 have c1:wr.cell? ⟨gp,0,none⟩=some (.int .i64 (s.p:Int)):=by have:=Joins.cell_of_block h.pr 0;simpa using this
 have c2:wr.cell? ⟨gN,0,none⟩=some (.slice (some ⟨gr,0,none⟩) s.N.length capN):=by have:=Joins.cell_of_block h.nd 0;simpa using this
 have c3:wr.cell? ⟨gl,0,none⟩=some (.int .i64 (s.l:Int)):=by have:=Joins.cell_of_block h.lf 0;simpa using this
 have c4:wr.cell? ⟨gy,0,none⟩=some (.slice ay n cy):=by have:=Joins.cell_of_block h.sy 0;simpa using this
 have f1:=Joins.unfrozen_of_block h.pr 0
 have f3:=Joins.unfrozen_of_block h.lf 0
 have hro:=h.row.1
 by_cases hp:s.p=s.N.length
 ·have hu:Qb5 n s.N s.l s.p=true:=by unfold Qb5;rw[hp];simp
  have hll:s.l<n:=by omega
  unfold takeA Qa0 Qay
  rw[hu]
  simp only[if_true]
  have HT:=hid (h.drew.setL (s.l+1))
  clear h hu hro
  rw[hp] at c1
  generalize s.N.length=len at *
  have hb:((len:Int)==(len:Int))=true:=by simp
  generalize s.l=l at *
  clear hp
  go_enter Tryz.func176,Tryz.ntmps176
  go_wp2_with fail
  go_region
  have d1:wr.drew.cell? ⟨gp,0,none⟩=some (.int .i64 (len:Int)):=c1
  have d3:wr.drew.cell? ⟨gl,0,none⟩=some (.int .i64 (l:Int)):=c3
  have g1:wr.drew.frozen? ⟨gp,0,none⟩=false:=f1
  have g3:wr.drew.frozen? ⟨gl,0,none⟩=false:=f3
  clear c1 c2 c3 c4 f1 f3
  generalize wr.drew=W at *
  go_wp2
  go_ret
  exact⟨rfl,HT.out⟩
 ·have hpl:s.p<s.N.length:=by omega
  have hpb:((s.p:Int)==(s.N.length:Int))=false:=by simp;omega
  have w2:=h.wtCell s.p hpl
  by_cases hll:s.l<n
  ·have w1:=h.wtCell s.l (by omega)
   have hlN:s.l<s.N.length:=by omega
   by_cases hw:wt s.N s.l<=wt s.N s.p
   ·have hu:Qb5 n s.N s.l s.p=true:=by unfold Qb5;simp[hll,hw]
    unfold takeA Qa0 Qay
    rw[hu]
    simp only[if_true]
    have HT:=hid (h.drew.setL (s.l+1))
    clear h hu hro hp
    generalize wt s.N s.l=x at *
    generalize wt s.N s.p=y at *
    generalize s.N.length=len at *
    generalize s.l=l at *
    generalize s.p=pp at *
    have hz1:(l:Int)<(len:Int):=by omega
    have hz2:(pp:Int)<(len:Int):=by omega
    have hz3:(l:Int)<(n:Int):=by omega
    go_enter Tryz.func176,Tryz.ntmps176
    go_wp2_with fail
    go_region
    have d1:wr.drew.cell? ⟨gp,0,none⟩=some (.int .i64 (pp:Int)):=c1
    have d3:wr.drew.cell? ⟨gl,0,none⟩=some (.int .i64 (l:Int)):=c3
    have g1:wr.drew.frozen? ⟨gp,0,none⟩=false:=f1
    have g3:wr.drew.frozen? ⟨gl,0,none⟩=false:=f3
    clear c1 c2 c3 c4 f1 f3 w1 w2
    generalize wr.drew=W at *
    go_wp2
    go_ret
    exact⟨rfl,HT.out⟩
   ·have hu:Qb5 n s.N s.l s.p=false:=by
     unfold Qb5
     rw[decide_eq_false hw,Bool.and_false,Bool.or_false]
     simpa using hp
    unfold takeA Qa0 Qay
    rw[hu]
    simp only[Bool.false_eq_true,if_false]
    have HT:=hid (h.drew.setP (s.p+1))
    clear h hu hro hp
    generalize wt s.N s.l=x at *
    generalize wt s.N s.p=y at *
    generalize s.N.length=len at *
    generalize s.l=l at *
    generalize s.p=pp at *
    have hz1:(l:Int)<(len:Int):=by omega
    have hz2:(pp:Int)<(len:Int):=by omega
    have hz3:(l:Int)<(n:Int):=by omega
    go_enter Tryz.func176,Tryz.ntmps176
    go_wp2_with fail
    go_region
    have d1:wr.drew.cell? ⟨gp,0,none⟩=some (.int .i64 (pp:Int)):=c1
    have d3:wr.drew.cell? ⟨gl,0,none⟩=some (.int .i64 (l:Int)):=c3
    have g1:wr.drew.frozen? ⟨gp,0,none⟩=false:=f1
    have g3:wr.drew.frozen? ⟨gl,0,none⟩=false:=f3
    clear c1 c2 c3 c4 f1 f3 w1 w2
    generalize wr.drew=W at *
    go_wp2
    go_ret
    exact⟨rfl,HT.out⟩
  ·have hu:Qb5 n s.N s.l s.p=false:=by
    unfold Qb5
    rw[decide_eq_false hll,Bool.false_and,Bool.or_false]
    simpa using hp
   unfold takeA Qa0 Qay
   rw[hu]
   simp only[Bool.false_eq_true,if_false]
   have HT:=hid (h.drew.setP (s.p+1))
   clear h hu hro hp
   generalize wt s.N s.p=y at *
   generalize s.N.length=len at *
   generalize s.l=l at *
   generalize s.p=pp at *
   have hz2:(pp:Int)<(len:Int):=by omega
   have hz3:¬(l:Int)<(n:Int):=by omega
   go_enter Tryz.func176,Tryz.ntmps176
   go_wp2_with fail
   go_region
   have d1:wr.drew.cell? ⟨gp,0,none⟩=some (.int .i64 (pp:Int)):=c1
   have d3:wr.drew.cell? ⟨gl,0,none⟩=some (.int .i64 (l:Int)):=c3
   have g1:wr.drew.frozen? ⟨gp,0,none⟩=false:=f1
   have g3:wr.drew.frozen? ⟨gl,0,none⟩=false:=f3
   clear c1 c2 c3 c4 f1 f3 w2
   generalize wr.drew=W at *
   go_wp2
   go_ret
   exact⟨rfl,HT.out⟩
theorem Tryz.info234:(Tryz.prog.info? 234).map (fun i=>(i.zero,i.size,i.bytes))=some (some (.agg #[.int .i64 0,.int .i64 0]),2,16):=by kernel_rfl
structure T0 (w wr:World) (gy gN gr capN:Nat) (vy:Value) (N:Nodes):Prop where
 sy:wr.heap[gy]?=some (.cells #[vy] 112 (0,0))
 nd:wr.heap[gN]?=some (.cells #[.slice (some ⟨gr,0,none⟩) N.length capN] 231 (0,0))
 row:wr.ownsRow w.heap.size 234 2 (.slice (some ⟨gr,0,none⟩) N.length capN) N.length ((Qc4 N).map (Value.int .i64))
 by':w.heap.size<=gy
 bN:w.heap.size<=gN
 bel:Below w.heap.size w wr
theorem TM.zero{w wr:World}{gy gN gl gp gr capN n:Nat}{vy:Value}{s:TS}(h:TM w wr gy gN gl gp gr capN n vy s):T0 w wr gy gN gr capN vy s.N:=⟨h.sy,h.nd,h.row,h.by',h.bN,h.bel⟩
theorem T0.drew{w wr:World}{gy gN gr capN:Nat}{vy:Value}{N:Nodes}(h:T0 w wr gy gN gr capN vy N):T0 w wr.drew gy gN gr capN vy N:=⟨h.sy,h.nd,h.row,h.by',h.bN,h.bel.drew⟩
theorem T0.box{w wr:World}{gy gN gr capN:Nat}{vy:Value}{N:Nodes}(h:T0 w wr gy gN gr capN vy N):wr.cell? ⟨gN,0,none⟩=some (.slice (some ⟨gr,0,none⟩) N.length capN):=by
 have:=Joins.cell_of_block h.nd 0;simpa using this
theorem T0.sym{w wr:World}{gy gN gr capN:Nat}{vy:Value}{N:Nodes}(h:T0 w wr gy gN gr capN vy N):wr.cell? ⟨gy,0,none⟩=some vy:=by
 have:=Joins.cell_of_block h.sy 0;simpa using this
theorem Qft{w:World}{B e n size:Nat}{v:Value}{xs:List Value}(h:w.ownsRow B e size v n xs)(hn:0<n):∃g cap,v= .slice (some ⟨g,0,none⟩) n cap∧B<=g∧∃cur,w.heap[g]?=some (.cells cur e (0,0)):=by
 rcases h.2 with ⟨_,h0⟩ | ⟨g,cap,cur,hv,hb,hg,hnc,_⟩
 ·omega
 ·exact⟨g,cap,hv,hb,cur,hg⟩
structure App (w wr w2:World) (gy gN gr capN:Nat) (vy:Value) (N:Nodes) (x:Int):Prop where
 row:w2.ownsRow w.heap.size 234 2 (.slice (some ⟨gr,0,none⟩) (N++ [(x,0)]).length capN) (N++ [(x,0)]).length ((Qc4 (N++ [(x,0)])).map (Value.int .i64))
 nd:w2.heap[gN]?=some (.cells #[.slice (some ⟨gr,0,none⟩) N.length capN] 231 (0,0))
 sy:w2.heap[gy]?=some (.cells #[vy] 112 (0,0))
 bel:Below w.heap.size w w2
 oth:∀k,k<wr.heap.size->k≠gr->w2.heap[k]?=wr.heap[k]?
theorem T0.rowBlk{w wr:World}{gy gN gr capN:Nat}{vy:Value}{N:Nodes}(h:T0 w wr gy gN gr capN vy N):∃cur,wr.heap[gr]?=some (.cells cur 234 (0,0)):=by
 rcases h.row.2 with ⟨hv,_⟩ | ⟨g,cap,cur,hv,hb,hg,_⟩
 ·cases hv
 ·injection hv with hv
  injection hv with hv
  injection hv with hv _
  subst hv
  exact⟨cur,hg⟩
theorem T0.app{w wr w2:World}{gy gN gr capN:Nat}{vy:Value}{N:Nodes}{x:Int}{o:Obj}(h:T0 w wr gy gN gr capN vy N)(hg:(wr.alloc o).grownBy w2 (some gr))
 (hown2:w2.ownsRow w.heap.size 234 2 (.slice (some ⟨gr,0,none⟩) (N++ [(x,0)]).length capN) (N++ [(x,0)]).length ((Qc4 (N++ [(x,0)])).map (Value.int .i64))):App w wr w2 gy gN gr capN vy N x:=by
 obtain⟨cur,hcur⟩:=h.rowBlk
 have n1:gN≠gr:=Qaw h.nd hcur (by decide)
 have n2:gy≠gr:=Qaw h.sy hcur (by decide)
 have hl:∀k,k<wr.heap.size->k≠gr->w2.heap[k]?=wr.heap[k]?:=fun k hk hne=>by
  rw[hg.block k (by simp;omega) (by simp;exact hne)]
  exact(Qab wr o).block k hk
 exact⟨hown2,by rw[hl gN (Array.getElem?_eq_some_iff.1 h.nd).1 n1];exact h.nd,by rw[hl gy (Array.getElem?_eq_some_iff.1 h.sy).1 n2];exact h.sy,
  (h.bel.alloc h.bel.size o).grown hg (by simp;have:=h.bel.size;omega) (fun k hk=>by injection hk with hk;subst hk;exact(h.row.lt gr rfl).1),hl⟩
theorem App.box{w wr w2:World}{gy gN gr capN:Nat}{vy:Value}{N:Nodes}{x:Int}(h:App w wr w2 gy gN gr capN vy N x):w2.cell? ⟨gN,0,none⟩=some (.slice (some ⟨gr,0,none⟩) N.length capN):=by
 have:=Joins.cell_of_block h.nd 0;simpa using this
theorem App.froz{w wr w2:World}{gy gN gr capN:Nat}{vy:Value}{N:Nodes}{x:Int}(h:App w wr w2 gy gN gr capN vy N x):w2.frozen? ⟨gN,0,none⟩=false:=Joins.unfrozen_of_block h.nd 0
theorem App.wt{w wr w2:World}{gy gN gr capN:Nat}{vy:Value}{N:Nodes}{x:Int}(h:App w wr w2 gy gN gr capN vy N x)(i:Nat)(hi:i<N.length):w2.cell? ⟨gr,i*2,none⟩=some (.int .i64 (Hf.wt N i)):=by
 have hl:=Qd2 (N++ [(x,0)])
 have hl2:(N++ [(x,0)]).length=N.length+1:=by simp
 rw[Nat.mul_comm i 2,h.row.cellAt (2*i) (by omega),List.getElem?_map,<-Xac N (x,0) i hi,<-Qog]
 simp[List.getD,List.getElem?_eq_getElem (show 2*i<(Qc4 (N++ [(x,0)])).length from by omega)]
theorem App.store{w wr w2:World}{gy gN gr capN:Nat}{vy:Value}{N:Nodes}{x:Int}(h:App w wr w2 gy gN gr capN vy N x)(h0:T0 w wr gy gN gr capN vy N):
 T0 w (w2.setCell ⟨gN,0,none⟩ (.slice (some ⟨gr,0,none⟩) (N++ [(x,0)]).length capN)) gy gN gr capN vy (N++ [(x,0)])∧(∀k,k<wr.heap.size->k≠gr->k≠gN->(w2.setCell ⟨gN,0,none⟩ (.slice (some ⟨gr,0,none⟩) (N++ [(x,0)]).length capN)).heap[k]?=wr.heap[k]?):=by
 have n3:gy≠gN:=Qaw h.sy h.nd (by decide)
 have hrow:∃cur,w2.heap[gr]?=some (.cells cur 234 (0,0)):=by
  rcases h.row.2 with ⟨hv,_⟩ | ⟨g,cap,cur,hv,hb,hg,_⟩
  ·cases hv
  ·injection hv with hv
   injection hv with hv
   injection hv with hv _
   subst hv
   exact⟨cur,hg⟩
 obtain⟨cur,hcur⟩:=hrow
 have n4:gr≠gN:=Qaw hcur h.nd (by decide)
 refine⟨⟨by rw[Qac h.nd n3];exact h.sy,by rw[Joins.block_setCell h.nd];rfl,ownsRow_setCell_other h.row (by simp[Value.ownBlock];exact n4) _,h0.by',h0.bN,h.bel.setCell (show w.heap.size<=(Addr.mk gN 0 none).block from h0.bN) _⟩,fun k hk h1 h2=>?_⟩
 rw[Qac h.nd h2,h.oth k hk h1]
theorem Qma(w w0:World){o:Oper}{ac:Act}{K:Act->World->Prop}{Q:Exit->Act->World->Prop}(s x:Operand)
 (ho:o.op= .call {callee:= .builtin .append,args:= #[s,x],argTypes:= #[231,231]}) (B gr capN:Nat) (N:Nodes) (z:Int) (hs:ac.eval s= .slice (some ⟨gr,0,none⟩) N.length capN) (hown:w0.ownsRow B 234 2 (.slice (some ⟨gr,0,none⟩) N.length capN) N.length ((Qc4 N).map (Value.int .i64)))
 (hw:w=w0.alloc (.cells #[.int .i64 z,.int .i64 0] 234)) (hx:ac.eval x= .slice (some ⟨w0.heap.size,0,none⟩) 1 1) (hbd:N.length+1<=capN)
 (h:∀w',w'.ownsRow B 234 2 (.slice (some ⟨gr,0,none⟩) (N++ [(z,0)]).length capN) (N++ [(z,0)]).length ((Qc4 (N++ [(z,0)])).map (Value.int .i64))->w.grownBy w' (some gr)->K (ac.put o.dst (.slice (some ⟨gr,0,none⟩) (N++ [(z,0)]).length capN)) w'):o.wp Tryz.prog ac w K Q:=by
 obtain⟨i0,hi,hz0,hz1,hz2⟩:=info_parts Tryz.info234
 subst hw
 obtain⟨w',hr,h2,h3⟩:=run_append_fits (P:=Tryz.prog) (w0.alloc (.cells #[.int .i64 z,.int .i64 0] 234)) B 231 o.type 234 i0 2 Tryz.underlying231 hi hz1 gr N.length capN _ (hown.alloc _) ⟨w0.heap.size,0,none⟩ 1 1 [.int .i64 z,.int .i64 0] rfl (by
  intro j u hj
  match j,hj with
  | 0,hj=>simp at hj;subst hj;simp[Addr.add]
  | 1,hj=>simp at hj;subst hj;simp[Addr.add]) (by
  intro u hu
  simp at hu
  rcases hu with rfl | rfl<;>rfl) hbd
 unfold Oper.wp execOp
 simp only[ho,resolve,invoke,builtin,Sem.run_bind,Sem.run_pure,Result.andThen_ok,List.map_toArray,List.map_cons,List.map_nil,hs,hx,hr]
 have hl:(N++ [(z,0)]).length=N.length+1:=by simp
 have:=h w' (by rw[hl,Qrs,List.map_append];exact h2) h3
 rw[hl] at this
 exact this
def Qcb(cs sy:List Int):List Int:=sy.map (key cs)
theorem Qgr(cs sy:List Int)(k:Nat)(hk:k<sy.length):(Qcb cs sy).getD k 0=key cs (sy.getD k 0):=by
 unfold Qcb
 simp[List.getD,hk]
def Qeb(ws:List Int)(k:Nat):Nodes:=(ws.take k).map (fun x=>(x,0))
theorem Qn7(ws:List Int)(k:Nat)(hk:k<=ws.length):(Qeb ws k).length=k:=by simp[Qeb];omega
theorem Qtq(ws:List Int)(k:Nat)(hk:k<ws.length):Qeb ws (k+1)=Qeb ws k++ [(ws.getD k 0,0)]:=by
 unfold Qeb
 rw[Qbq ws k hk,List.map_append]
 rfl
end
end Go.Proofs.YtibjlbcnapoblaaGreatDoor
