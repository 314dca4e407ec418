/-
 Steps through a region that draws its order: as in Ord, but behind one operation that waits for all that are taken nothing is asked of the world.
-/
import Derived.Test.YtibjlbcnapoblaaGreatDoorPart04
import Derived.Deep.RegionHeld
import Derived.OrdersHeld
import Derived.Test.YtibjlbcnapoblaaGreatDoorPart00
import Derived.Lib.SmallJoins
import Derived.RangeFuncNested
import Derived.TacticsIn
import Derived.OrdersIn
import Derived.Deep.Quiet
import Derived.Test.YtibjlbcnapoblaaGreatDoorRows
import Derived.RangeFuncBound
import Derived.RangeFuncCalls
import Derived.RangeFuncLeaves
import Derived.Shelf.Abstract
import Derived.Shelf.RegionOpen
import Derived.OwnWalkIn
import Derived.TacticsInMore
import Derived.LoopNIn
import Derived.LoopIn
import Derived.Maps.OwnIn
import Derived.Maps.Views
import Derived.DeepKeys4
import Derived.WideKeyPair
import Derived.Laws.Cover3
import Derived.StillTailTactics
namespace Go.Proofs.YtibjlbcnapoblaaGreatDoor
set_option maxRecDepth 100000
set_option maxHeartbeats 6400000
namespace OrdE
open Go.RowKit
section
variable {P : Program} {md : Region.Mode} {ops : Array Oper} {Q : Exit → Act → World → Prop} {S : World → Prop} {f : Nat}
def Goes(P:Program)(md:Region.Mode)(ops:Array Oper)(Q:Exit->Act->World->Prop)(S:World->Prop)(f:Nat):Nat->Array Bool->Act->World->Prop
 | 0,l,a,w=>Region.ready md ops l= []∧Q .normal a w
 | n+1,l,a,w=>(Region.ready md ops l= []->Q .normal a w)∧∀i∈Region.ready md ops l,wpOp P ops Q i (fun a' w'=>(i≠f->S w')∧Goes P md ops Q S f n (l.setIfInBounds i true) a' w') a w
theorem Goes.any:∀(n:Nat) (l:Array Bool) (a:Act) (w:World),Goes P md ops Q S f n l a w->wpAny P md ops Q n l a w
 | 0,_,_,_,h=>h
 | n+1,_,_,_,h=>⟨h.1,fun i hi=>wpOp_mono (fun a' w' h'=>Goes.any n _ a' w' h'.2) (h.2 i hi)⟩
theorem first{i:Nat}{oi of':Oper}{v:Value}(hi:ops[i]?=some oi)(hf:ops[f]?=some of')(hdep:(of'.after.any fun e=>Region.binds md e&&e.on==i)=true)(hsel:∀(j:Nat) (o:Oper) cs b,ops[j]?=some o->o.op≠ .select cs b)
 (hQ:∀c a w,Q (.panic c) (a.put oi.dst v) w->Q (.panic c) a w) :
 ∀(n:Nat) (l:Array Bool) (a:Act) (w:World),
  (∀j oj,ops[j]?=some oj->j≠i->l.getD j true=false->(∀e∈oj.after,Region.binds md e=true->e.on≠i)->oi.apart ops oj=true) ->
  i∈Region.ready md ops l->YieldsIf P ops S oi v a->S w ->
  Goes P md ops Q S f n (l.setIfInBounds i true) (a.put oi.dst v) w->Goes P md ops Q S f (n+1) l a w:=by
 intro n
 induction n with
 | zero=>
   intro l a w _ hr hy hS H
   refine⟨fun h=>absurd hr (by rw[h];simp),fun j hj=>?_⟩
   by_cases e:j=i
   ·subst e;exact hy.wpOp hi hS ⟨fun _=>hS,H⟩
   ·exact absurd (ready_mono hj e) (by rw[H.1];simp)
 | succ n ih=>
   intro l a w hfree hr hy hS H
   refine⟨fun h=>absurd hr (by rw[h];simp),fun j hj=>?_⟩
   by_cases e:j=i
   ·subst e;exact hy.wpOp hi hS ⟨fun _=>hS,H⟩
   ·obtain⟨hun,oj,hoj,hall⟩:=mem_ready.1 hj
    have hnot:∀x∈oj.after,Region.binds md x=true->x.on≠i:=fun x hx hb hq=>by
     have h1:=hall x hx hb
     have h0:=(mem_ready.1 hr).1
     rw[hq] at h1
     rcases Nat.lt_or_ge i l.size with h' | h'
     ·simp[h'] at h0 h1;rw[h0] at h1;cases h1
     ·simp[Array.getElem?_eq_none h'] at h1
    have hjf:j≠f:=fun hq=>by
     subst hq
     rw[hf] at hoj
     injection hoj with hoj
     subst hoj
     obtain⟨x,hx,hxx⟩:=Array.any_eq_true'.1 hdep
     rw[Bool.and_eq_true,beq_iff_eq] at hxx
     exact hnot x hx hxx.1 hxx.2
    have h2:=wpOp_putIf hoj (hfree j oj hoj e hun hnot) (fun cs b=>hsel i oi cs b hi) (fun cs b=>hsel j oj cs b hoj) hQ hy (H.2 j (ready_mono hj e))
    refine wpOp_mono (fun a' w' h3=>⟨fun _=>h3.2.1 hjf,ih (l.setIfInBounds j true) a' w' (fun k ok hk hki hu hno=>hfree k ok hk hki ?_ hno) (ready_mono hr (Ne.symm e)) h3.1 (h3.2.1 hjf) ?_⟩) h2
    ·by_cases hjk:j=k
     ·subst hjk;exact hun
     ·rw[getD_set_ne true hjk] at hu;exact hu
    ·rw[Array.setIfInBounds_comm _ _ e]
     exact h3.2.2
theorem take{i d:Nat}{oi of':Oper}{v:Value}{n:Nat}{l:Array Bool}{ts:Array Value}{df:List Deferred}{w:World}(hi:ops[i]?=some oi)(hd:oi.dst=some d)(hf':ops[f]?=some of')(hdep:(of'.after.any fun e=>Region.binds md e&&e.on==i)=true)
 (hs:Region.noSelect ops=true) (hf:Region.free md ops l i=true) (hr:(Region.ready md ops l).contains i=true)
 (hQ:∀c a w,Q (.panic c) (a.put oi.dst v) w->Q (.panic c) a w) (hw:Region.wanted oi (yielded ops ts)=true)
 (hy:∀w,S w->(execOp (Act.eval ⟨ts,df⟩) oi).run P w= .ok (.value v) w) (hS:S w)
 (h:Goes P md ops Q S f n (l.setIfInBounds i true) ⟨ts.setIfInBounds d v,df⟩ w):Goes P md ops Q S f (n+1) l ⟨ts,df⟩ w:=
 first hi hf' hdep (Region.noSelect_spec hs) hQ n l _ w (Region.free_spec hi hf) (by simpa using hr) (Or.inl ⟨hw,hy⟩) hS (by rw[hd];exact h)
theorem one{i:Nat}{o:Oper}{n:Nat}{l:Array Bool}{a:Act}{w:World}(hr:Region.ready md ops l= [i])(ho:ops[i]?=some o)
 (h:∀K':Act->World->Prop,Shut (∀a w,(i≠f->S w)->Goes P md ops Q S f n (l.setIfInBounds i true) a w->K' a w)->if Region.wanted o (yielded ops a.tmps)=true then Oper.wp P o a w K' Q else K' (a.put o.dst undef) w) :
 Goes P md ops Q S f (n+1) l a w:=by
 refine⟨fun h0=>absurd h0 (by rw[hr];simp),fun j hj=>?_⟩
 rw[hr,List.mem_singleton] at hj
 subst hj
 exact wpOp_step ho (fun K' hK=>h K' (fun a w h1 h2=>hK a w ⟨h1,h2⟩))
theorem done{l:Array Bool}{a:Act}{w:World}(hr:Region.ready md ops l= [])(h:Q .normal a w):∀n,Goes P md ops Q S f n l a w
 | 0=>⟨hr,h⟩
 | _+1=>⟨fun _=>h,by rw[hr];simp⟩
theorem put{d:Nat}{o:Oper}(hd:o.dst=some d){n:Nat}{l:Array Bool}{ts:Array Value}{df:List Deferred}{v:Value}{w:World}
 (h:Goes P md ops Q S f n l ⟨ts.setIfInBounds d v,df⟩ w):Goes P md ops Q S f n l (Act.put ⟨ts,df⟩ o.dst v) w:=by
 rw[hd];exact h
end
theorem region{P:Program}{ops:Array Oper}{Q:Exit->Act->World->Prop}{id:Nat}{a:Act}{w:World}(S:World->Prop)(f:Nat)(hm:P.follows .mixedOrders=true)(hS:S w.drew)
 (h:S w.drew->Goes P .any ops Q S f ops.size (Array.replicate ops.size false) a w.drew):(Code.region id ops true).wp P Q a w:=
 wp_region_any hm (Goes.any _ _ _ _ (h hS))
end OrdE
/-
 Pack's small functions: isChunk, and a head's blocks, behind and may.
-/
section
open Go.RowKit
def hdL(n k:Int)(d:List Int):List Value:= .int .i64 n:: .int .i64 k::d.map (Value.int .u8)
theorem Qtr(n k:Int)(d:List Int)(h:d.length=32):(hdL n k d).toArray.size=34:=by simp[hdL,h]
theorem Xfr(n k:Int)(d:List Int):(hdL n k d).toArray.all (·.oneCell')=true:=by
 rw[List.all_toArray,List.all_eq_true]
 intro v hv
 simp only[hdL,List.mem_cons,List.mem_map] at hv
 rcases hv with rfl | rfl | ⟨z,_,rfl⟩<;>rfl
def blkN(k:Nat):Nat:=(44+k+511)/512
theorem Qbq(w:World)(o:Obj):Below w.heap.size w (w.alloc o):=(Below.refl _ _).alloc (Nat.le_refl _) o
theorem Qbd(w:World)(o:Obj):(w.alloc o).heap[w.heap.size]?=some o:=by
 show(w.heap.push o)[w.heap.size]?=_
 simp
theorem Tryz.size53:(Tryz.prog.info? 53).map (·.size)=some 34:=by kernel_rfl
theorem Qf7{P:Program}{w:World}{o:Oper}{ρ:Operand->Value}(ty:TypeId)(x:Operand)(ho:o.op= .load ty x)(b off:Nat)(hx:ρ x= .pointer (some ⟨b,off,none⟩)){v:Value}(hl:(loadVar ty ⟨b,off,none⟩).run P w= .ok v w):
 (execOp ρ o).run P w= .ok (.value v) w:=by
 unfold execOp
 simp only[ho,hx,Instr.loadAt,Instr.sureAddr,Sem.run_bind,Sem.run_pure,Result.andThen_ok,hl]
theorem Qd4(n:Nat)(w:World)(hn:n<=10000000):Calls Tryz.prog 42 #[.int .i64 (n:Int)] w fun e w'=>e= .returned (.bool (decide (1<=n∧n<=4096)))∧w'=w:=by
 by_cases h1:1<=n
 ·have e1:(1:Int)<=(n:Int):=by omega
  by_cases h2:n<=4096
  ·have e2:(n:Int)<=4096:=by omega
   rw[decide_eq_true (show 1<=n∧n<=4096 from⟨h1,h2⟩)]
   go_enter Tryz.func42,Tryz.ntmps42
   go_wp2
   go_ret
   exact⟨rfl,rfl⟩
  ·have e2:¬(n:Int)<=4096:=by omega
   rw[decide_eq_false (show ¬(1<=n∧n<=4096) from fun h=>h2 h.2)]
   go_enter Tryz.func42,Tryz.ntmps42
   go_wp2
   go_ret
   exact⟨rfl,rfl⟩
 ·have e1:¬(1:Int)<=(n:Int):=by omega
  rw[decide_eq_false (show ¬(1<=n∧n<=4096) from fun h=>h1 h.1)]
  go_enter Tryz.func42,Tryz.ntmps42
  go_wp2
  go_ret
  exact⟨rfl,rfl⟩
theorem Qhe(n:Int)(k:Nat)(d:List Int)(w:World)(hk:k<=100000):Calls Tryz.prog 25 #[.agg (hdL n k d).toArray] w fun e w'=>e= .returned (.int .i64 (blkN k:Int))∧Below w.heap.size w w':=by
 have hb:=Qbq w (.cells (hdL n k d).toArray 53)
 have e1:=Joins.cell_of_block (Qbd w (.cells (hdL n k d).toArray 53)) 1
 rw[show(hdL n k d).toArray[1]?=some (.int .i64 (k:Int)) from rfl] at e1
 have hq:((44:Int)+k+512-1)/512=(blkN k:Int):=by unfold blkN;omega
 have HQ:=hid hq
 generalize (hdL n k d).toArray=H at *
 clear hq
 go_enter Tryz.func25,Tryz.ntmps25
 go_wp2
 go_ret
 exact⟨congrArg (fun z=>Ending.returned (Value.int .i64 z)) HQ.out,hb⟩
theorem Qk4(n:Int)(k:Nat)(d:List Int)(w:World)(hk:k<=100000)(hd:d.length=32):Calls Tryz.prog 28 #[.agg (hdL n k d).toArray] w fun e w'=>e= .returned (.int .i64 ((512*blkN k-44-k:Nat):Int))∧Below w.heap.size w w':=by
 have hb:=Qbq w (.cells (hdL n k d).toArray 53)
 have e0:=Qbd w (.cells (hdL n k d).toArray 53)
 have hsz:=Qtr n k d hd
 have e1:∀V,Below (w.alloc (.cells (hdL n k d).toArray 53)).heap.size (w.alloc (.cells (hdL n k d).toArray 53)) V->V.cell? ⟨w.heap.size,1,none⟩=some (.int .i64 (k:Int)):=fun V hV=>by
  rw[hV.cell (p:=⟨w.heap.size,1,none⟩) (by simp)]
  exact Joins.cell_of_block e0 1
 have HBW:Hid (∀V,Calls Tryz.prog 25 #[.agg (hdL n k d).toArray] V fun e w'=>e= .returned (.int .i64 (blkN k:Int))∧Below V.heap.size V w'):=fun V=>Qhe n k d V hk
 have HL:Hid (∀V,Below (w.alloc (.cells (hdL n k d).toArray 53)).heap.size (w.alloc (.cells (hdL n k d).toArray 53)) V->(loadVar 53 ⟨w.heap.size,0,none⟩).run Tryz.prog V= .ok (.agg (hdL n k d).toArray) V):=fun V hV=>by
  exact run_loadVar_row (P:=Tryz.prog) V w.heap.size 53 53 (hdL n k d).toArray (0,0) _ ((hV.block _ (by simp)).trans e0) Tryz.underlying53 rfl (by rw[hsz];exact Tryz.size53)
 have hq:(512:Nat)*blkN k ≥ 44+k∧blkN k<=100000:=by unfold blkN;omega
 have HB:=hid hb
 have HE1:=hid e1
 clear e0 e1 hb
 generalize (hdL n k d).toArray=H at *
 obtain⟨q,hq2⟩:∃q,q=blkN k:=⟨_,rfl⟩
 rw[<-hq2] at hq HBW
 have HQ:=hid hq2
 have hq0:=hq.1
 have hq1:=hq.2
 have HF:Hid (((512*blkN k-44-k:Nat):Int)=(q:Int)*512-44-(k:Int)):=by show _=_;rw[<-hq2];omega
 clear hq2 hq hsz
 go_enter Tryz.func28,Tryz.ntmps28
 go_wp2_with fail
 generalize w.alloc (.cells H 53)=w1 at *
 have hgw:w.heap.size<=w1.heap.size:=HB.out.size
 generalize hgg:w.heap.size=g at *
 refine wp_region_held_drew (S:=fun V=>Below w1.heap.size w1 V) (by kernel_rfl) (Below.refl _ _).drew (fun hS0=>?_)
 generalize w1.drew=v0 at *
 simp only[List.size_toArray,List.length_cons,List.length_nil,Nat.reduceAdd]
 refine Ord.tk (i:=0) (d:=3) (v:= .agg H) rfl rfl ?hA0 (by assumption) ?_
 case hA0=>intro w hSw;exact Qf7 53 (.tmp 1) rfl g 0 rfl (HL.out w hSw)
 simp only[Ord.s1,Ord.s2,Ord.s3]
 refine Ord.tk (i:=4) (d:=7) (v:=?vA4) rfl rfl ?hA4 (by assumption) ?_
 case hA4=>intro w hSw;go_simp;try with_reducible rfl
 simp only[Ord.s1,Ord.s2,Ord.s3]
 refine Ord.tk (i:=5) (d:=8) (v:= .int .i64 (k:Int)) rfl rfl ?hA5 (by assumption) ?_
 case hA5=>intro w hSw;have q:=HE1.out w hSw;go_simp;try with_reducible rfl
 simp only[Ord.s1,Ord.s2,Ord.s3]
 refine wpAnyH_ready (rs:= [1]) (by as_aux_lemma=>kernel_rfl) (by simp) (AllReadyH.cons rfl (fun K hK=>?_) AllReadyH.nil)
 go_simp
 refine(HBW.out v0).mono ?_
 rintro _ v1 ⟨rfl,hb1⟩
 have hS1:=Bn hS0 hb1
 refine hK.out _ _ hS1 (fun _=>?_)
 clear hK K
 try simp only[Ord.s1,Ord.s2,Ord.s3]
 refine Ord.tk (i:=2) (d:=5) (v:=?vA2) rfl rfl ?hA2 (by assumption) ?_
 case hA2=>intro w hSw;go_simp;try with_reducible rfl
 simp only[Ord.s1,Ord.s2,Ord.s3]
 refine Ord.tk (i:=3) (d:=6) (v:=?vA3) rfl rfl ?hA3 (by assumption) ?_
 case hA3=>intro w hSw;go_simp;try with_reducible rfl
 simp only[Ord.s1,Ord.s2,Ord.s3]
 refine Ord.tk (i:=6) (d:=9) (v:=?vA6) rfl rfl ?hA6 (by assumption) ?_
 case hA6=>intro w hSw;go_simp;try with_reducible rfl
 simp only[Ord.s1,Ord.s2,Ord.s3]
 refine Ord.tk (i:=7) (d:=2) (v:=?vA7) rfl rfl ?hA7 (by assumption) ?_
 case hA7=>intro w hSw;go_simp;try with_reducible rfl
 simp only[Ord.s1,Ord.s2,Ord.s3]
 refine wpAnyH_done (by as_aux_lemma=>kernel_rfl) ?_ _
 go_wp2
 go_ret
 refine⟨congrArg (fun z=>Ending.returned (Value.int .i64 z)) ?_,by rw[hgg];exact HB.out.trans (hS1.mono hgw)⟩
 rw[IntWalk.i64_in ((q:Int)*512) (by omega),IntWalk.i64_in ((q:Int)*512-44) (by omega),IntWalk.i64_in _ (by omega)]
 exact HF.out.symm
end
/-
 The contracts of lz's common and of the document's reach.
-/
section
open Go.RowKit Lz
theorem drewN_drewN(w:World)(m n:Nat):(w.drewN m).drewN n=w.drewN (m+n):=by simp
end
/-
 The contracts of the document's longest and Longest.
-/
section
open Go.RowKit Lz
theorem Qad(w:World)(o:Obj):Below w.heap.size w (w.alloc o):=(Below.refl _ _).alloc (Nat.le_refl _) o
theorem Qa0(w:World)(o:Obj):(w.alloc o).heap[w.heap.size]?=some o:=by
 show(w.heap.push o)[w.heap.size]?=_
 simp
theorem Qbb(w:World)(o:Obj){i:Nat}{x:Obj}(h:w.heap[i]?=some x):(w.alloc o).heap[i]?=some x:=(Below.heap_alloc w o i (Array.getElem?_eq_some_iff.1 h).1).trans h
def tokV(t:Tok):Array Value:= #[.int .i64 (t.1:Int),.int .i64 (t.2.1:Int),.int .u8 t.2.2]
def Tb(W:World)(B:Nat)(t:Tok):Prop:=W.heap[B]?=some (.cells (tokV t) 109 (0,0))
theorem Tb.c0{W:World}{B:Nat}{t:Tok}(h:Tb W B t):W.cell? ⟨B,0,none⟩=some (.int .i64 (t.1:Int)):=Joins.cell_of_block h 0
theorem Tb.c1{W:World}{B:Nat}{t:Tok}(h:Tb W B t):W.cell? ⟨B,1,none⟩=some (.int .i64 (t.2.1:Int)):=Joins.cell_of_block h 1
theorem Tb.c2{W:World}{B:Nat}{t:Tok}(h:Tb W B t):W.cell? ⟨B,2,none⟩=some (.int .u8 t.2.2):=Joins.cell_of_block h 2
theorem Tb.f{W:World}{B:Nat}{t:Tok}(h:Tb W B t)(i:Nat):W.frozen? ⟨B,i,none⟩=false:=Joins.unfrozen_of_block h i
theorem Qa2{w:World}{g k i:Nat}{cs:Array Value}{t:TypeId}{fr:Nat×Nat}(h:w.heap[g]?=some (.cells cs t fr))(hk:k≠g)(v:Value):(w.setCell ⟨g,i,none⟩ v).heap[k]?=w.heap[k]?:=by
 rw[setCell_eq_setRow w g i cs t fr v h]
 exact setRow_other w g k _ hk
def put3(W:World)(B:Nat)(t:Tok):World:=((W.setCell ⟨B,0,none⟩ (.int .i64 (t.1:Int))).setCell ⟨B,1,none⟩ (.int .i64 (t.2.1:Int))).setCell ⟨B,2,none⟩ (.int .u8 t.2.2)
theorem Tb.set{W:World}{B:Nat}{t:Tok}(h:Tb W B t)(t':Tok):Tb (put3 W B t') B t':=by
 unfold Tb put3
 rw[Joins.block_setCell (Joins.block_setCell (Joins.block_setCell h _) _) _]
 rfl
theorem Tb.other{W:World}{B B':Nat}{t t':Tok}(h:Tb W B t)(hne:B'≠B){o:Option Obj}(h2:W.heap[B']?=o):(put3 W B t').heap[B']?=o:=by
 have h1:=Joins.block_setCell (i:=0) h (.int .i64 (t'.1:Int))
 have h3:=Joins.block_setCell (i:=1) h1 (.int .i64 (t'.2.1:Int))
 unfold put3
 rw[Qa2 h3 hne,Qa2 h1 hne,Qa2 h hne,h2]
theorem Tb.bel{W w:World}{B n:Nat}{t:Tok}(_h:Tb W B t)(hb:Below n w W)(hn:n<=B)(t':Tok):Below n w (put3 W B t'):=by
 unfold put3
 exact((hb.setCell (p:=⟨B,0,none⟩) hn _).setCell (p:=⟨B,1,none⟩) hn _).setCell (p:=⟨B,2,none⟩) hn _
end
/-
 Regions that draw their order inside a round of a range over a function: what is shown of them outside a round serves there too.
-/
section
end
/-
 The contract of lz's longest, over whatever iterator tells places ahead.
-/
section
open Go.RowKit Go.Shelf Lz
attribute [local go_sem] Oper.semAt_some
structure Lv (n:Nat) (v:Value) (q:Nat) (k:Int) (t:Tok) (s:Nat) (W:World):Prop where
 b:W.heap[n]?=some (.cells #[v] 22 (0,0))
 at':W.heap[n+1]?=some (.cells #[.int .i64 (q:Int)] 3 (0,0))
 res:Tb W (n+1+1) (0,0,0)
 tok:Tb W (n+1+1+1) t
 most:W.heap[n+1+1+1+1]?=some (.cells #[.int .i64 k] 3 (0,0))
 beat:W.heap[n+1+1+1+1+1]?=some (.cells #[.int .i64 (s:Int)] 3 (0,0))
theorem Qeg{W W':World}{row:Option Nat}{B:Nat}{cs:Array Value}{t:TypeId}{m:Nat×Nat}(h:W.heap[B]?=some (.cells cs t m))(hg:W.grownBy W' row)(hr:∀r,row=some r->∃o:Obj,W.heap[r]?=some o∧o.isCells=false):W'.heap[B]?=some (.cells cs t m):=by
 refine(hg.block B (Array.getElem?_eq_some_iff.1 h).1 (fun e=>?_)).trans h
 obtain⟨o,ho,hc⟩:=hr B e.symm
 rw[h] at ho
 cases ho
 cases hc
theorem Lv.kept{n:Nat}{v:Value}{q:Nat}{k:Int}{t:Tok}{s:Nat}{W W':World}{row:Option Nat}(h:Lv n v q k t s W)(hg:W.grownBy W' row)(hr:∀r,row=some r->∃o:Obj,W.heap[r]?=some o∧o.isCells=false):Lv n v q k t s W':=
 ⟨Qeg h.b hg hr,Qeg h.at' hg hr,Qeg h.res hg hr,Qeg h.tok hg hr,Qeg h.most hg hr,Qeg h.beat hg hr⟩
def putL(W:World)(n:Nat)(t:Tok)(s:Nat):World:=(put3 W (n+1+1+1) t).setCell ⟨n+1+1+1+1+1,0,none⟩ (.int .i64 (s:Int))
theorem Lv.put{n:Nat}{v:Value}{q:Nat}{k:Int}{t:Tok}{s:Nat}{W:World}(h:Lv n v q k t s W)(t':Tok)(s':Nat):Lv n v q k t' s' (putL W n t' s'):=by
 have hb:(put3 W (n+1+1+1) t').heap[n+1+1+1+1+1]?=_:=h.tok.other (t':=t') (by omega) h.beat
 unfold putL
 refine⟨?_,?_,?_,?_,?_,?_⟩
 ·rw[Qa2 hb (by omega)];exact h.tok.other (by omega) h.b
 ·rw[Qa2 hb (by omega)];exact h.tok.other (by omega) h.at'
 ·unfold Tb;rw[Qa2 hb (by omega)];exact h.tok.other (by omega) h.res
 ·unfold Tb;rw[Qa2 hb (by omega)];exact h.tok.set t'
 ·rw[Qa2 hb (by omega)];exact h.tok.other (by omega) h.most
 ·rw[Joins.block_setCell hb];rfl
theorem KeepsOthers.drewN(W:World)(n:Nat):KeepsOthers W (W.drewN n):=⟨Nat.le_refl _,fun _ _ h _=>h⟩
end
/-
 The iterator over all places ahead, and the contracts of lz's ahead and Longest.
-/
section
open Go.RowKit Go.Shelf Lz
attribute [local go_sem] Oper.semAt_some
theorem Qd6{P:Program}{fn:Func}{p u:Tmp}{ty:TypeId}(h:fn.results= #[.cell p ty,.tmp u])(tmps:Array Value)(w:World)(g:Nat)(v:Value)(hp:tmps.getD p undef= .pointer (some ⟨g,0,none⟩))(hl:(loadVar ty ⟨g,0,none⟩).run P w= .ok v w):
 (results fn tmps).run P w= .ok (.tuple #[v,tmps.getD u undef]) w:=by
 rw[results_cell_tmp h,hp]
 simp[asAddr,hl]
theorem Tb.load{W:World}{B:Nat}{t:Tok}(h:Tb W B t):(loadVar 109 ⟨B,0,none⟩).run Tryz.prog W= .ok (.agg (tokV t)) W:=
 run_loadVar_row W B 109 109 (tokV t) (0,0) _ h Tryz.underlying109 rfl (by kernel_rfl)
end
/-
 Four bytes as a map's key; what lz's map of places says.
-/
section
open Go.RowKit Go.Shelf Lz Go.WideMaps
theorem Tryz.cells189:Tryz.prog.cellsOf 189=4:=by kernel_rfl
theorem Tryz.row67:(189:TypeId)<Tryz.prog.types.size:=of_decide_eq_true (by kernel_rfl)
theorem Tryz.wide67:(match Tryz.prog.underlying 189 with | some (.array _ _) | some (.struct _)=>true | _=>false)=true:=by rw[Tryz.underlying189]
theorem Tryz.law67:KeyLaw Tryz.prog 189:=deep_law_laid Tryz.laidOut (m:=2) (by omega) Tryz.row67 (by kernel_rfl) Tryz.wide67
theorem Tryz.keyed67:Maps.Keyed Tryz.prog 189:=Maps.Keyed.of_law Tryz.law67
theorem Tryz.arr67:ArrKey Tryz.prog 189 5 4:=⟨Tryz.underlying189,by kernel_rfl,Tryz.cells5,Tryz.cells189⟩
def four(a b c d:Int):Value:= .agg #[.int .u8 a,.int .u8 b,.int .u8 c,.int .u8 d]
def Qwp(a b c d:Int):Lit:= .string (keyBytes [.int .u8 a,.int .u8 b,.int .u8 c,.int .u8 d])
theorem Qve{a b c d:Int}(wa:(Lit.int .u8 a).wf=true)(wb:(Lit.int .u8 b).wf=true)(wc:(Lit.int .u8 c).wf=true)(wd:(Lit.int .u8 d).wf=true):keyOf Tryz.prog 189 (four a b c d)=some (Qwp a b c d):=by
 have hkt:=Tryz.arr67.keyType ⟨266,by kernel_rfl⟩
 have hm:Tryz.prog.types.size=266+1:=by kernel_rfl
 unfold keyOf four
 simp only[Tryz.arr67.hu]
 rw[if_pos (by simp[hkt,Value.formed,Tryz.arr67.hu,Tryz.arr67.size]),hm]
 unfold Program.keyLits
 simp only[Tryz.arr67.hu,Value.cells]
 rw[if_pos (by rw[Tryz.arr67.size];rfl),show List.range 4= [0,1,2,3] from rfl,List.mapM_cons,List.mapM_cons,List.mapM_cons,List.mapM_cons,List.mapM_nil]
 simp[Tryz.arr67.one,Program.keyLits,Tryz.underlying5,wa,wb,wc,wd,Qwp]
theorem Qcn{a:Int}(h:0<=a∧a<=255):Lit.keyBytes (.int .u8 a)= [UInt8.ofNat a.toNat]:=by
 show [UInt8.ofNat ((a%2^8).toNat%256)]=_
 have h2:a%2^8=a:=Int.emod_eq_of_lt h.1 (by omega)
 rw[h2,Nat.mod_eq_of_lt (by omega)]
theorem Qjt{a b:Int}(ha:0<=a∧a<=255)(hb:0<=b∧b<=255)(h:UInt8.ofNat a.toNat=UInt8.ofNat b.toNat):a=b:=by
 have:=congrArg UInt8.toNat h
 simp only[UInt8.toNat_ofNat'] at this
 omega
theorem Xa0{a b c d a' b' c' d':Int}(ha:0<=a∧a<=255)(hb:0<=b∧b<=255)(hc:0<=c∧c<=255)(hd:0<=d∧d<=255)(ha':0<=a'∧a'<=255)(hb':0<=b'∧b'<=255)(hc':0<=c'∧c'<=255)(hd':0<=d'∧d'<=255)
 (h:Qwp a b c d=Qwp a' b' c' d'):a=a'∧b=b'∧c=c'∧d=d':=by
 unfold Qwp keyBytes at h
 simp only[List.flatMap_cons,List.flatMap_nil,Qcn ha,Qcn hb,Qcn hc,Qcn hd,Qcn ha',Qcn hb',Qcn hc',Qcn hd',Lit.string.injEq,List.cons_append,List.nil_append,List.cons.injEq] at h
 exact⟨Qjt ha ha' h.1,Qjt hb hb' h.2.1,Qjt hc hc' h.2.2.1,Qjt hd hd' h.2.2.2.1⟩
def keyV(bs:List Int)(p:Nat):Value:=four (bs.getD p 0) (bs.getD (p+1) 0) (bs.getD (p+2) 0) (bs.getD (p+3) 0)
def keyL(bs:List Int)(p:Nat):Lit:=Qwp (bs.getD p 0) (bs.getD (p+1) 0) (bs.getD (p+2) 0) (bs.getD (p+3) 0)
def Qcx(bs:List Int):Prop:=∀j,(Lit.int .u8 (bs.getD j 0)).wf=true
theorem Xe8{bs:List Int}(h:Qcx bs)(p:Nat):keyOf Tryz.prog 189 (keyV bs p)=some (keyL bs p):=Qve (h _) (h _) (h _) (h _)
theorem Qq1{bs:List Int}(h:Qcx bs)(p q:Nat):(keyL bs p=keyL bs q)↔Qwt bs p q=true:=by
 unfold Qwt
 simp only[Bool.and_eq_true,beq_iff_eq]
 constructor
 ·intro e
  exact Xa0 (wf_u8 (h _)) (wf_u8 (h _)) (wf_u8 (h _)) (wf_u8 (h _)) (wf_u8 (h _)) (wf_u8 (h _)) (wf_u8 (h _)) (wf_u8 (h _)) e
 ·rintro ⟨e0,e1,e2,e3⟩
  unfold keyL
  rw[e0,e1,e2,e3]
theorem Xfp(bs:List Int)(p:Nat):WideAt.IsKeyLit (keyL bs p):=trivial
def Mp(W:World)(b:Nat)(bs:List Int)(m:Nat):Prop:=
 ∃D:DataW Unit,W.ownsMap Tryz.prog 189 (plainElem Tryz.prog 3) b m D∧∀q,m<=q->q+4<=bs.length->D.atKey (keyL bs q) (.lit (.int .i64 0))= .lit (.int .i64 ((nxt bs q m:Nat):Int))
theorem Mp.new(w:World)(bs:List Int):Mp (w.alloc (.map #[] 0)) w.heap.size bs 0:=
 ⟨.map [],World.ownsMap_made w _ _ _,fun _ _ _=>rfl⟩
theorem Mp.kept{W W':World}{b m:Nat}{bs:List Int}{row:Option Nat}(h:Mp W b bs m)(hg:W.grownBy W' row)(hne:some b≠row):Mp W' b bs m:=by
 obtain⟨D,hD,hq⟩:=h
 exact⟨D,hD.kept hg hne,hq⟩
theorem Mp.below{W W':World}{b m n:Nat}{bs:List Int}(h:Mp W b bs m)(hb:Below n W W')(hn:b<n):Mp W' b bs m:=by
 obtain⟨D,⟨es,clock,hh,F,hs,hD⟩,hq⟩:=h
 exact⟨D,⟨es,clock,(hb.block b hn).trans hh,F,hs,hD⟩,hq⟩
theorem Mp.look{W:World}{b m:Nat}{bs:List Int}(h:Mp W b bs m)(h8:Qcx bs)(q:Nat)(hq:m<=q)(hl:q+4<=bs.length):(Instr.lookup 185 (.map (some b)) (keyV bs q) false).run Tryz.prog W= .ok (.int .i64 ((nxt bs q m:Nat):Int)) W:=by
 obtain⟨D,hD,hat⟩:=h
 obtain⟨c,hrun,hc,_⟩:=hD.lookup_int Tryz.keyed67 Tryz.underlying185 Tryz.underlying3 (Tryz.zeroValue3 _) (Xe8 h8 q)
 rw[hat q hq hl] at hc
 simp only[DataW.lit.injEq,Lit.int.injEq,true_and] at hc
 rw[hc]
 exact hrun
theorem Mp.put{W:World}{b m:Nat}{bs:List Int}(h:Mp W b bs m)(h8:Qcx bs)(hm:m<70000):∃W',(Instr.mapUpdate 185 (.map (some b)) (keyV bs m) (.int .i64 (((m+1:Nat)):Int))).run Tryz.prog W= .ok () W'∧Mp W' b bs (m+1)∧W.grownBy W' (some b):=by
 obtain⟨D,hD,hat⟩:=h
 obtain⟨W',hrun,hown,hg⟩:=hD.update Tryz.keyed67 Tryz.underlying185 (by unfold maxLen;omega) (Xe8 h8 m) (plainElem_int Tryz.underlying3 (a:=((m+1:Nat):Int)) (Qbt (by omega) (by omega)))
 refine⟨W',hrun,⟨_,hown,fun q hq hl=>?_⟩,hg⟩
 have hmap:Maps.IsMap D:=by
  obtain⟨_,_,_,_,_,rfl⟩:=hD
  exact⟨_,rfl⟩
 by_cases hs:Qwt bs m q=true
 ·rw[<-(Qq1 h8 m q).2 hs,Maps.atKey_put_same hmap (Xfp bs m)]
  unfold nxt
  rw[if_pos hs]
 ·rw[Maps.atKey_put_other (fun e=>hs ((Qq1 h8 m q).1 e.symm)),hat q (by omega) hl]
  show _=DataW.lit (.int .i64 (((if Qwt bs m q=true then m+1 else nxt bs q m):Nat):Int))
  rw[if_neg hs]
end
/-
 The contracts of lz's key, newPlaces and add.
-/
section
open Go.RowKit Go.Shelf Lz Go.WideMaps
theorem Qkj{W:World}{B:Nat}{a b c d:Value}(h:W.heap[B]?=some (.cells #[a,b,c,d] 189 (0,0))):(loadVar 189 ⟨B,0,none⟩).run Tryz.prog W= .ok (.agg #[a,b,c,d]) W:=
 run_loadVar_row W B 189 189 #[a,b,c,d] (0,0) _ h Tryz.underlying189 rfl (by kernel_rfl)
theorem Xdl(bs:List Int)(q g gb off cap:Nat)(x1 x2:Value)(w:World)(hq:q<=bs.length)(hcap:bs.length<=cap)(hm:cap<=maxLen)(hL:bs.length<=65536)(hgb:gb<w.heap.size)
 (hblk:w.heap[g]?=some (.cells #[.slice (some ⟨gb,off,none⟩) bs.length cap,x1,x2] 187 (0,0)))
 (hc:∀j,j<bs.length->w.cell? ⟨gb,off+j,none⟩=some (.int .u8 (bs.getD j 0))) :
 Calls Tryz.prog 127 #[.pointer (some ⟨g,0,none⟩),.int .i64 (q:Int)] w fun e w'=>e= .returned (.tuple #[if q+4<=bs.length then keyV bs q else four 0 0 0 0,.bool (decide (q+4<=bs.length))])∧Below w.heap.size w w':=by
 have hgw:g<w.heap.size:=(Array.getElem?_eq_some_iff.1 hblk).1
 unfold maxLen at hm
 have hbA:=Qad w (.cells #[.int .u8 0,.int .u8 0,.int .u8 0,.int .u8 0] 189)
 have e0:(w.alloc (.cells #[.int .u8 0,.int .u8 0,.int .u8 0,.int .u8 0] 189)).heap[w.heap.size]?=some (.cells #[.int .u8 0,.int .u8 0,.int .u8 0,.int .u8 0] 189 (0,0)):=Qa0 w _
 have c0:=Joins.cell_of_block (Qbb _ (.cells #[.int .u8 0,.int .u8 0,.int .u8 0,.int .u8 0] 189) hblk) 0
 simp only[List.getElem?_toArray,List.getElem?_cons_zero] at c0
 obtain⟨L,hLe⟩:∃L,L=bs.length:=⟨_,rfl⟩
 have HL:=hid hLe
 have HBA:=hid hbA
 by_cases h4:q+4<=bs.length
 ·rw[if_pos h4]
  have b0:=(hbA.cell (p:=⟨gb,off+q,none⟩) hgb).trans (hc q (by omega))
  have b1:=(hbA.cell (p:=⟨gb,off+(q+1),none⟩) hgb).trans (hc (q+1) (by omega))
  have b2:=(hbA.cell (p:=⟨gb,off+(q+2),none⟩) hgb).trans (hc (q+2) (by omega))
  have b3:=(hbA.cell (p:=⟨gb,off+(q+3),none⟩) hgb).trans (hc (q+3) (by omega))
  have hd:decide (q+4<=bs.length)=true:=by simpa using h4
  rw[hd]
  clear hd hc hbA
  unfold keyV
  generalize bs.getD q 0=y0 at *
  generalize bs.getD (q+1) 0=y1 at *
  generalize bs.getD (q+2) 0=y2 at *
  generalize bs.getD (q+3) 0=y3 at *
  rw[<-hLe] at c0 hq hcap hL h4
  have hz:¬(L:Int)-(q:Int)<4:=by omega
  have hq4:q+4<=cap:=by omega
  have harr:=run_arrayAt (P:=Tryz.prog) (w.alloc (.cells #[.int .u8 0,.int .u8 0,.int .u8 0,.int .u8 0] 189)) 189 5 4 (some ⟨gb,off+q,none⟩) 4 (cap-q) Tryz.underlying189 (by omega)
  have f0:=Joins.unfrozen_of_block e0 0
  have f1:=Joins.unfrozen_of_block e0 1
  have f2:=Joins.unfrozen_of_block e0 2
  have f3:=Joins.unfrozen_of_block e0 3
  have k0:=Joins.cell_of_block e0 0
  have k1:=Joins.cell_of_block e0 1
  have k2:=Joins.cell_of_block e0 2
  have k3:=Joins.cell_of_block e0 3
  simp only[List.getElem?_toArray,List.getElem?_cons_zero,List.getElem?_cons_succ] at k0 k1 k2 k3
  have HE0:=hid e0
  have l0:=b0
  have l1:(w.alloc (.cells #[.int .u8 0,.int .u8 0,.int .u8 0,.int .u8 0] 189)).cell? ⟨gb,off+q+1,none⟩=some (.int .u8 y1):=b1
  have l2:(w.alloc (.cells #[.int .u8 0,.int .u8 0,.int .u8 0,.int .u8 0] 189)).cell? ⟨gb,off+q+2,none⟩=some (.int .u8 y2):=b2
  have l3:(w.alloc (.cells #[.int .u8 0,.int .u8 0,.int .u8 0,.int .u8 0] 189)).cell? ⟨gb,off+q+3,none⟩=some (.int .u8 y3):=b3
  clear hblk hLe e0 b0 b1 b2 b3
  go_enter Tryz.func127,Tryz.ntmps127
  go_wp2
  refine bodyPost_ret (Qd6 (ty:=189) rfl _ _ w.heap.size _ rfl (Qkj (Qa0 w _))) rfl ?_
  exact⟨rfl,Qad _ _⟩
 ·rw[if_neg h4]
  have hd:decide (q+4<=bs.length)=false:=by simpa using h4
  rw[hd]
  rw[<-hLe] at c0 hq hcap hL h4
  have hz:(L:Int)-(q:Int)<4:=by omega
  clear hd hc hbA hblk hLe e0
  go_enter Tryz.func127,Tryz.ntmps127
  go_wp2
  refine bodyPost_ret (Qd6 (ty:=189) rfl _ _ w.heap.size _ rfl (Qkj (Qa0 w _))) rfl ?_
  exact⟨rfl,Qad _ _⟩
structure Pl (W:World) (n₀ g mb pb:Nat) (v:Value) (bs:List Int) (m:Nat) (ps:List Int):Prop where
 blk:W.heap[g]?=some (.cells #[v,.map (some mb),.slice (some ⟨pb,0,none⟩) bs.length bs.length] 187 (0,0))
 map:Mp W mb bs m
 row:W.ownsRow n₀ 3 1 (.slice (some ⟨pb,0,none⟩) bs.length bs.length) bs.length (ps.map (Value.int .i64))
 len:ps.length=bs.length
 vals:∀p,p<m->p+4<=bs.length->ps.getD p 0=((nxt bs p p:Nat):Int)
 bg:n₀<=g
 bm:n₀<=mb
 bp:n₀<=pb
theorem Pl.below{W W':World}{n₀ g mb pb:Nat}{v:Value}{bs:List Int}{m:Nat}{ps:List Int}(h:Pl W n₀ g mb pb v bs m ps)(hb:Below W.heap.size W W'):Pl W' n₀ g mb pb v bs m ps:=by
 have hg:=(Array.getElem?_eq_some_iff.1 h.blk).1
 have hmb:mb<W.heap.size:=by obtain⟨D,hD,_⟩:=h.map;exact hD.lt
 refine⟨(hb.block g hg).trans h.blk,h.map.below hb hmb,?_,h.len,h.vals,h.bg,h.bm,h.bp⟩
 refine⟨h.row.1,?_⟩
 rcases h.row.2 with hn | ⟨g',cap,cur,hv,hbs,hgg,rest⟩
 ·exact .inl hn
 ·exact .inr ⟨g',cap,cur,hv,hbs,(hb.block g' (Array.getElem?_eq_some_iff.1 hgg).1).trans hgg,rest⟩
theorem Tryz.info3Z:(Tryz.prog.info? 3).map (fun i=>(i.zero,i.size,i.bytes))=some (some (.int .i64 0),1,8):=by kernel_rfl
theorem Qt9(bs:List Int)(v0:Option Addr)(cap:Nat)(w:World)(hL:bs.length<=65536):
 Calls Tryz.prog 96 #[.slice v0 bs.length cap] w fun e w'=>∃g mb pb,e= .returned (.pointer (some ⟨g,0,none⟩))∧Pl w' w.heap.size g mb pb (.slice v0 bs.length cap) bs 0 (List.replicate bs.length 0)∧Below w.heap.size w w':=by
 obtain⟨L,hLe⟩:∃L,L=bs.length:=⟨_,rfl⟩
 have HL:=hid hLe
 rw[<-hLe] at hL|-
 obtain⟨i0,hi,hz0,hz1,hz2⟩:=info_parts Tryz.info3Z
 have hmm:=@run_makeMap Tryz.prog
 clear hLe
 go_enter Tryz.func96,Tryz.ntmps96
 go_wp2_with (first
  | (at_make;refine wpList_make_full _ rfl _ _ 112 rfl w.heap.size 3 i0 (.int .i64 0) 1 Tryz.underlying112 hi hz0 hz1 .i64 .i64 _ _ L rfl rfl (by first | rfl | omega) (by first | rfl | omega) ?b2 ?b3 ?b4 ?_))
 case b2=>rw[hz2];omega
 case b3=>unfold maxLen;omega
 case b4=>simp
 intro w5 hown0 hgrow
 have hsz:=hgrow.size
 have hB1:Below w.heap.size w w5:=(Qad w _).grown hgrow (by simp) (fun k hk=>by cases hk)
 have hmap:Mp w5 w.heap.size bs 0:=(Mp.new w bs).kept hgrow (by simp)
 rw[toList_madeCells_one,HL.out] at hown0
 have hrow:w5.ownsRow w.heap.size 3 1 (.slice (some ⟨w.heap.size+1,0,none⟩) bs.length bs.length) bs.length ((List.replicate bs.length (0:Int)).map (Value.int .i64)):=by simpa using hown0
 have HF:Hid (Pl (w5.alloc (.cells #[.slice v0 L cap,.map (some w.heap.size),.slice (some ⟨w.heap.size+1,0,none⟩) L L] 187)) w.heap.size w5.heap.size w.heap.size (w.heap.size+1) (.slice v0 L cap) bs 0 (List.replicate L 0)):=by
  show Pl _ _ _ _ _ _ _ _ _
  rw[HL.out]
  exact⟨Qa0 _ _,hmap.kept (World.grownBy_alloc w5 _ none) (by simp),hrow.kept (World.grownBy_alloc w5 _ none) (by simp[Value.ownBlock]),by simp,fun p hp=>absurd hp (by omega),by simp at hsz;omega,Nat.le_refl _,by omega⟩
 have HB:=hid (Bn hB1 (Qad w5 (.cells #[.slice v0 L cap,.map (some w.heap.size),.slice (some ⟨w.heap.size+1,0,none⟩) L L] 187)))
 clear hown0 hgrow hsz hB1 hmap hrow
 go_wp2
 go_ret
 exact⟨_,_,_,rfl,HF.out,HB.out⟩
structure But (a b:Nat) (w w':World):Prop where
 size:w.heap.size<=w'.heap.size
 same:∀i,i<w.heap.size->i≠a->i≠b->w'.heap[i]?=w.heap[i]?
theorem But.refl(a b:Nat)(w:World):But a b w w:=⟨Nat.le_refl _,fun _ _ _ _=>rfl⟩
theorem But.trans{a b:Nat}{x y z:World}(h:But a b x y)(k:But a b y z):But a b x z:=
 ⟨Nat.le_trans h.size k.size,fun i hi h1 h2=>(k.same i (Nat.lt_of_lt_of_le hi h.size) h1 h2).trans (h.same i hi h1 h2)⟩
theorem But.of_below{a b:Nat}{w w':World}(h:Below w.heap.size w w'):But a b w w':=⟨h.size,fun i hi _ _=>h.block i hi⟩
theorem But.of_grown{a b:Nat}{w w':World}{row:Option Nat}(h:w.grownBy w' row)(hr:row=some a∨row=some b):But a b w w':=
 ⟨h.size,fun i hi h1 h2=>h.block i hi (fun e=>by rcases hr with r | r<;>rw[r] at e<;>injection e with e<;>omega)⟩
theorem But.row{a b:Nat}{w w':World}(h:But a b w w'){base:Nat}{e:TypeId}{size:Nat}{v:Value}{n:Nat}{xs:List Value}(ho:w.ownsRow base e size v n xs)(h1:v.ownBlock≠some a)(h2:v.ownBlock≠some b):w'.ownsRow base e size v n xs:=by
 refine⟨ho.1,?_⟩
 rcases ho.2 with hn | ⟨g,cap,cur,rfl,hb,hg,rest⟩
 ·exact .inl hn
 ·refine .inr ⟨g,cap,cur,rfl,hb,(h.same g (Array.getElem?_eq_some_iff.1 hg).1 (fun e=>h1 (by rw[e];rfl)) (fun e=>h2 (by rw[e];rfl))).trans hg,rest⟩
theorem Pl.ne1{W:World}{n₀ g mb pb:Nat}{v:Value}{bs:List Int}{m:Nat}{ps:List Int}(h:Pl W n₀ g mb pb v bs m ps):(∃cur,W.heap[pb]?=some (.cells cur 3 (0,0)))∧g≠pb∧mb≠pb∧g≠mb:=by
 have hp:∃cur,W.heap[pb]?=some (.cells cur 3 (0,0)):=by
  rcases h.row.2 with ⟨hv,_⟩ | ⟨g',cap,cur,hv,_,hg,_⟩
  ·cases hv
  ·injection hv with hv
   injection hv with hv
   injection hv with hv _
   subst hv
   exact⟨cur,hg⟩
 obtain⟨cur,hp⟩:=hp
 obtain⟨D,⟨es,clock,hh,_⟩,_⟩:=h.map
 refine⟨⟨cur,hp⟩,fun e=>?_,fun e=>?_,fun e=>?_⟩
 ·have hb:=h.blk;rw[e,hp] at hb;cases hb
 ·rw[e,hp] at hh;cases hh
 ·have hb:=h.blk;rw[e,hh] at hb;cases hb
theorem Pl.store{W:World}{n₀ g mb pb:Nat}{v:Value}{bs:List Int}{m:Nat}{ps:List Int}(h:Pl W n₀ g mb pb v bs m ps)(x:Int):Pl (W.setCell ⟨pb,m,none⟩ (.int .i64 x)) n₀ g mb pb v bs m (ps.set m x):=by
 obtain⟨⟨cur,hp⟩,n1,n2,n3⟩:=h.ne1
 have hst:=h.row.stored m (.int .i64 x)
 refine⟨by rw[Qa2 hp n1];exact h.blk,h.map.kept hst.2 (fun e=>n2 (by injection e)),?_,by rw[List.length_set];exact h.len,fun p hpm hl=>?_,h.bg,h.bm,h.bp⟩
 ·rw[List.map_set];exact hst.1
 ·rw[<-h.vals p hpm hl]
  simp[List.getD,List.getElem?_set_ne (show m≠p by omega)]
theorem Pl.mapped{W W':World}{n₀ g mb pb:Nat}{v:Value}{bs:List Int}{m:Nat}{ps:List Int}(h:Pl W n₀ g mb pb v bs m ps)(hv:ps.getD m 0=((nxt bs m m:Nat):Int))(hm:Mp W' mb bs (m+1))(hg:W.grownBy W' (some mb)):Pl W' n₀ g mb pb v bs (m+1) ps:=by
 obtain⟨⟨cur,hp⟩,n1,n2,n3⟩:=h.ne1
 have hgl:=(Array.getElem?_eq_some_iff.1 h.blk).1
 refine⟨(hg.block g hgl (fun e=>n3 (by injection e))).trans h.blk,hm,h.row.kept hg (.inr (fun e=>n2 (by simp[Value.ownBlock] at e;exact e.symm))),h.len,fun p hpm hl=>?_,h.bg,h.bm,h.bp⟩
 by_cases e:p=m
 ·subst e;exact hv
 ·exact h.vals p (by omega) hl
theorem Pl.skip{W:World}{n₀ g mb pb:Nat}{v:Value}{bs:List Int}{m:Nat}{ps:List Int}(h:Pl W n₀ g mb pb v bs m ps)(hm:bs.length<m+4):Pl W n₀ g mb pb v bs (m+1) ps:=by
 refine⟨h.blk,?_,h.row,h.len,fun p hp hl=>h.vals p (by omega) hl,h.bg,h.bm,h.bp⟩
 obtain⟨D,hD,_⟩:=h.map
 exact⟨D,hD.mono (by omega),fun q hq hl=>by omega⟩
theorem Qu0(bs:List Int)(m n₀ g mb pb gb off cap:Nat)(ps:List Int)(w:World)(h8:Qcx bs)(hP:Pl w n₀ g mb pb (.slice (some ⟨gb,off,none⟩) bs.length cap) bs m ps)(hm:m<bs.length)(hcap:bs.length<=cap)(hmx:cap<=maxLen)(hL:bs.length<=65536)(hgb:gb<w.heap.size)
 (hc:∀j,j<bs.length->w.cell? ⟨gb,off+j,none⟩=some (.int .u8 (bs.getD j 0))) :
 Calls Tryz.prog 99 #[.pointer (some ⟨g,0,none⟩),.int .i64 (m:Int)] w fun e w'=>(∃v,e= .returned v)∧(∃ps',Pl w' n₀ g mb pb (.slice (some ⟨gb,off,none⟩) bs.length cap) bs (m+1) ps')∧Below n₀ w w'∧But mb pb w w':=by
 have HK:=hid (Xdl bs m g gb off cap _ _ w (by omega) hcap hmx hL hgb hP.blk hc)
 have hn0:n₀<=w.heap.size:=by have:=(Array.getElem?_eq_some_iff.1 hP.blk).1;have:=hP.bg;omega
 have HP:=hid hP
 by_cases h4:m+4<=bs.length
 ·rw[if_pos h4,show decide (m+4<=bs.length)=true from by simpa using h4] at HK
  obtain⟨L,hLe⟩:∃L,L=bs.length:=⟨_,rfl⟩
  have HL:=hid hLe
  have hKV:keyV bs m= .agg #[.int .u8 (bs.getD m 0),.int .u8 (bs.getD (m+1) 0),.int .u8 (bs.getD (m+2) 0),.int .u8 (bs.getD (m+3) 0)]:=rfl
  rw[hKV] at HK
  have HLK:Hid (∀W,Mp W mb bs m->(Instr.lookup 185 (.map (some mb)) (.agg #[.int .u8 (bs.getD m 0),.int .u8 (bs.getD (m+1) 0),.int .u8 (bs.getD (m+2) 0),.int .u8 (bs.getD (m+3) 0)]) false).run Tryz.prog W= .ok (.int .i64 ((nxt bs m m:Nat):Int)) W):=fun W hW=>hW.look h8 m (Nat.le_refl _) h4
  have HUP:Hid (∀W,Mp W mb bs m->∃W',(Instr.mapUpdate 185 (.map (some mb)) (.agg #[.int .u8 (bs.getD m 0),.int .u8 (bs.getD (m+1) 0),.int .u8 (bs.getD (m+2) 0),.int .u8 (bs.getD (m+3) 0)]) (.int .i64 (((m+1:Nat)):Int))).run Tryz.prog W= .ok () W'∧Mp W' mb bs (m+1)∧W.grownBy W' (some mb)):=fun W hW=>hW.put h8 (by omega)
  generalize bs.getD m 0=y0 at *
  generalize bs.getD (m+1) 0=y1 at *
  generalize bs.getD (m+2) 0=y2 at *
  generalize bs.getD (m+3) 0=y3 at *
  clear hP hc hKV
  go_enter Tryz.func99,Tryz.ntmps99
  go_wp2_with fail
  refine HK.out.mono ?_
  rintro _ w1 ⟨rfl,hb1⟩
  have hP1:=HP.out.below hb1
  clear HK
  go_wp2_with fail
  have hbA:=Qad w1 (.cells #[.int .u8 y0,.int .u8 y1,.int .u8 y2,.int .u8 y3] 189)
  have e0:(w1.alloc (.cells #[.int .u8 y0,.int .u8 y1,.int .u8 y2,.int .u8 y3] 189)).heap[w1.heap.size]?=some (.cells #[.int .u8 y0,.int .u8 y1,.int .u8 y2,.int .u8 y3] 189 (0,0)):=Qa0 w1 _
  have hP2:=hP1.below hbA
  have HB2:=hid (Bn hb1 hbA)
  clear hb1 hP1 hbA
  generalize w1.alloc (.cells #[.int .u8 y0,.int .u8 y1,.int .u8 y2,.int .u8 y3] 189)=W at *
  generalize w1.heap.size=kb at *
  have c1:=Joins.cell_of_block hP2.blk 1
  have c2:=Joins.cell_of_block hP2.blk 2
  have k0:=Joins.cell_of_block e0 0
  have k1:=Joins.cell_of_block e0 1
  have k2:=Joins.cell_of_block e0 2
  have k3:=Joins.cell_of_block e0 3
  simp only[List.getElem?_toArray,List.getElem?_cons_zero,List.getElem?_cons_succ] at c1 c2 k0 k1 k2 k3
  rw[<-hLe] at c2
  have hlk:=HLK.out W.drew hP2.map
  have hcell:∃u,W.cell? ⟨pb,m,none⟩=some u:=by
   rw[hP2.row.cellAt _ (by omega)]
   exact⟨_,List.getElem?_eq_getElem (by rw[List.length_map,hP2.len];exact hm)⟩
  obtain⟨u,hu⟩:=hcell
  have fu:=hP2.row.frozenAt m
  have hmL:(m:Int)<(L:Int):=by omega
  have HP2:=hid hP2
  have HE0:=hid e0
  clear hP2 e0 hLe
  have hmo:Tryz.prog.follows .mixedOrders=true:=by kernel_rfl
  go_still_tail 12,hmo
  go_wp2_with fail
  have hne:kb≠pb:=by
   obtain⟨⟨cur,hp⟩,_⟩:=HP2.out.ne1
   intro e
   have:=HE0.out
   rw[e,hp] at this
   cases this
  have hP3:Pl (W.setCell ⟨pb,m,none⟩ (.int .i64 ((nxt bs m m:Nat):Int))).drew n₀ g mb pb (.slice (some ⟨gb,off,none⟩) bs.length cap) bs m (ps.set m ((nxt bs m m:Nat):Int)):=by
   have h:=HP2.out.store ((nxt bs m m:Nat):Int)
   exact⟨h.blk,h.map,h.row,h.len,h.vals,h.bg,h.bm,h.bp⟩
  have e3:(W.setCell ⟨pb,m,none⟩ (.int .i64 ((nxt bs m m:Nat):Int))).drew.heap[kb]?=some (.cells #[.int .u8 y0,.int .u8 y1,.int .u8 y2,.int .u8 y3] 189 (0,0)):=by
   obtain⟨⟨cur,hp⟩,_⟩:=HP2.out.ne1
   exact(Qa2 hp hne _).trans HE0.out
  have hbut:But mb pb W (W.setCell ⟨pb,m,none⟩ (.int .i64 ((nxt bs m m:Nat):Int))).drew:=by
   have:=But.of_grown (a:=mb) (b:=pb) (HP2.out.row.stored m (.int .i64 ((nxt bs m m:Nat):Int))).2 (.inr rfl)
   exact⟨this.size,this.same⟩
  have hbl:Below n₀ W (W.setCell ⟨pb,m,none⟩ (.int .i64 ((nxt bs m m:Nat):Int))).drew:=((Below.refl n₀ W).setCell (p:=⟨pb,m,none⟩) HP2.out.bp _).drew
  have hv:(ps.set m ((nxt bs m m:Nat):Int)).getD m 0=((nxt bs m m:Nat):Int):=by
   have:m<ps.length:=by rw[HP2.out.len];exact hm
   simp[List.getD,List.getElem?_set_self this]
  have HV:=hid hv
  have HBUT:=hid hbut
  have HBL:=hid hbl
  clear hlk hu fu c1 c2 k0 k1 k2 k3 hne hv hbut hbl HE0 HP2
  generalize (W.setCell ⟨pb,m,none⟩ (.int .i64 ((nxt bs m m:Nat):Int))).drew=W3 at *
  have c1:=Joins.cell_of_block hP3.blk 1
  have k0:=Joins.cell_of_block e3 0
  have k1:=Joins.cell_of_block e3 1
  have k2:=Joins.cell_of_block e3 2
  have k3:=Joins.cell_of_block e3 3
  simp only[List.getElem?_toArray,List.getElem?_cons_zero,List.getElem?_cons_succ] at c1 k0 k1 k2 k3
  obtain⟨W4,hup,hM4,hg4⟩:=HUP.out W3.drew hP3.map
  rw[show(((m+1:Nat)):Int)=(m:Int)+1 from by omega] at hup
  have HP4:Hid (Pl W4 n₀ g mb pb (.slice (some ⟨gb,off,none⟩) bs.length cap) bs (m+1) (ps.set m ((nxt bs m m:Nat):Int))):=
   (show Pl W3.drew n₀ g mb pb (.slice (some ⟨gb,off,none⟩) bs.length cap) bs m (ps.set m ((nxt bs m m:Nat):Int)) from⟨hP3.blk,hP3.map,hP3.row,hP3.len,hP3.vals,hP3.bg,hP3.bm,hP3.bp⟩).mapped HV.out hM4 hg4
  have hbm:=hP3.bm
  have HB4:Hid (But mb pb w W4):=((But.of_below HB2.out).trans HBUT.out).trans ((⟨Nat.le_refl _,fun _ _ _ _=>rfl⟩:But mb pb W3 W3.drew).trans (But.of_grown hg4 (.inl rfl)))
  have hsz:n₀<=W3.drew.heap.size:=by have:=(Array.getElem?_eq_some_iff.1 hP3.blk).1;have:=hP3.bg;show n₀<=W3.heap.size;omega
  have HL4:Hid (Below n₀ w W4):=((HB2.out.mono hn0).trans HBL.out).trans ((Below.refl n₀ W3).drew.grown hg4 hsz (fun k hk=>by injection hk with hk;omega))
  clear hP3 e3 hM4 hg4 HV HBUT HBL HB2 hsz hbm
  have hm6:m<=65536:=by omega
  go_still_tail 7,hmo
  rw[IntWalk.i64_in _ ⟨by omega,by omega⟩]
  change wpList _ _ _ _ _ W3.drew
  go_wp2
  go_end0
  exact⟨⟨_,rfl⟩,⟨_,HP4.out⟩,HL4.out,HB4.out⟩
 ·rw[if_neg h4,show decide (m+4<=bs.length)=false from by simpa using h4] at HK
  clear hP hc
  go_enter Tryz.func99,Tryz.ntmps99
  go_wp2_with fail
  refine HK.out.mono ?_
  rintro _ w1 ⟨rfl,hb1⟩
  have HB1:=hid (Bn hb1 (Qad w1 (.cells #[.int .u8 0,.int .u8 0,.int .u8 0,.int .u8 0] 189)))
  clear hb1 HK
  unfold four
  go_wp2
  go_end0
  exact⟨⟨_,rfl⟩,⟨ps,(HP.out.below HB1.out).skip (by omega)⟩,HB1.out.mono hn0,But.of_below HB1.out⟩
end
/-
 The iterator over the places with the same four bytes.
-/
section
open Go.RowKit Go.Shelf Lz Go.WideMaps
attribute [local go_sem] Oper.semAt_some
theorem Qwb(g q:Nat)(w:World):Calls Tryz.prog 98 #[.pointer (some ⟨g,0,none⟩),.int .i64 (q:Int)] w fun e w'=>e= .returned (.func (.func 126) #[] #[.pointer (some ⟨w.heap.size,0,none⟩),.pointer (some ⟨w.heap.size+1,0,none⟩)])∧w'=(w.alloc (.cells #[.pointer (some ⟨g,0,none⟩)] 144)).alloc (.cells #[.int .i64 (q:Int)] 3):=by
 go_enter Tryz.func98,Tryz.ntmps98
 go_wp2
 go_ret
 exact⟨rfl,rfl⟩
theorem Ql5{w w':World}(h:Below w.heap.size w w'):w.grownBy w' none:=⟨h.os,h.tape,h.output,h.size,fun k hk _=>h.block k hk⟩
end
/-
 The contract of the document's Tokens.
-/
section
open Go.RowKit Go.Shelf Lz Go.ChangeShapes Go.WideShapes
def tokC(t:Tok):List Value:= [.int .i64 (t.1:Int),.int .i64 (t.2.1:Int),.int .u8 t.2.2]
theorem Xdc(t:Tok):∀u∈tokC t,u.oneCell'=true:=by
 intro u hu
 simp[tokC] at hu
 rcases hu with rfl | rfl | rfl<;>rfl
def tksO(bs:List Int):List Tok×Int:=if 65536<bs.length then ([],2) else (Qg4 bs,0)
def Qni(bs:List Int)(w:World)(e:Ending)(w':World):Prop:=
 ∃v,e= .returned (.tuple #[v,.int .i64 (tksO bs).2])∧w'.ownsRow w.heap.size 109 3 v (tksO bs).1.length ((tksO bs).1.flatMap tokC)∧Below w.heap.size w w'
theorem Tryz.info109:(Tryz.prog.info? 109).map (fun i=>(i.zero,i.size,i.bytes))=some (some (.agg #[.int .i64 0,.int .i64 0,.int .u8 0]),3,24):=by kernel_rfl
theorem Xh1(w:World)(base:Nat):w.ownsRow base 109 3 (.slice none 0 0) 0 []:=⟨rfl,.inl ⟨rfl,rfl⟩⟩
theorem Xgk(w:World)(t:Tok)(j:Nat)(u:Value)(h:(tokC t)[j]?=some u):(w.alloc (.cells (tokV t) 109)).cell? ((⟨w.heap.size,0,none⟩:Addr).add j)=some u:=by
 have e:=Joins.cell_of_block (Qa0 w (.cells (tokV t) 109)) j
 rw[add_plain,Nat.zero_add,e]
 unfold tokV tokC at *
 rw[List.getElem?_toArray]
 exact h
theorem Qff{w w':World}{base:Nat}{e:TypeId}{size:Nat}{v:Value}{n:Nat}{xs:List Value}(h:w.ownsRow base e size v n xs)(hb:Below w.heap.size w w'):w'.ownsRow base e size v n xs:=
 h.kept (Ql5 hb) (by cases v.ownBlock<;>simp)
theorem Qh3{w:World}{base:Nat}{e:TypeId}{size:Nat}{v:Value}{n:Nat}{xs:List Value}(h:w.ownsRow base e size v n xs):∀g,v.ownBlock=some g->base<=g∧g<w.heap.size:=by
 intro g hg
 rcases h.2 with ⟨rfl,_⟩ | ⟨g',cap,cur,rfl,hb,hh,_⟩
 ·cases hg
 ·simp only[Value.ownBlock,Option.some.injEq] at hg
  subst hg
  exact⟨hb,(Array.getElem?_eq_some_iff.1 hh).1⟩
end
/-
 The contract of lz's Tokens.
-/
section
open Go.RowKit Go.Shelf Lz
theorem Pl.apart{W:World}{n₀ g mb pb:Nat}{v:Value}{bs:List Int}{m:Nat}{ps:List Int}(h:Pl W n₀ g mb pb v bs m ps){x:Value}{n:Nat}{xs:List Value}(ho:W.ownsRow n₀ 109 3 x n xs):x.ownBlock≠some mb∧x.ownBlock≠some pb:=by
 obtain⟨⟨cur,hp⟩,_⟩:=h.ne1
 obtain⟨D,⟨es,clock,hh,_⟩,_⟩:=h.map
 rcases ho.2 with ⟨rfl,_⟩ | ⟨g',cap,cur',rfl,_,hg,_⟩
 ·exact⟨by simp[Value.ownBlock],by simp[Value.ownBlock]⟩
 ·constructor
  ·intro e
   simp only[Value.ownBlock,Option.some.injEq] at e
   rw[e,hh] at hg
   cases hg
  ·intro e
   simp only[Value.ownBlock,Option.some.injEq] at e
   rw[e,hp] at hg
   cases hg
end
end Go.Proofs.YtibjlbcnapoblaaGreatDoor
