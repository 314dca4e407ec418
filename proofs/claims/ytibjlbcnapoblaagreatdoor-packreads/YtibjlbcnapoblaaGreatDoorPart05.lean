/- Contracts and facts. -/
import Derived.Test.YtibjlbcnapoblaaGreatDoorPart04
import Derived.Deep.RegionHeld
import Derived.RangeFuncNested
import Derived.TacticsIn
import Derived.OrdersIn
import Derived.Deep.Quiet
import Derived.RangeFuncBound
import Derived.RangeFuncCalls
import Derived.RangeFuncLeaves
import Derived.Shelf.Abstract
import Derived.Shelf.RegionOpen
import Derived.OwnWalkIn
import Derived.TacticsInMore
import Derived.LoopNIn
import Derived.LoopIn
import Derived.Maps.OwnIn
import Derived.Maps.Views
import Derived.DeepKeys4
import Derived.WideKeyPair
import Derived.Laws.Cover3
import Derived.StillTailTactics
import Derived.Deep.Slices
namespace Go.Proofs.YtibjlbcnapoblaaGreatDoor
set_option maxRecDepth 100000
set_option maxHeartbeats 6400000
namespace OrdE
open Go.RowKit
section
variable {P : Program} {md : Region.Mode} {ops : Array Oper} {Q : Exit → Act → World → Prop} {S : World → Prop} {f : Nat}
def Goes(P:Program)(md:Region.Mode)(ops:Array Oper)(Q:Exit->Act->World->Prop)(S:World->Prop)(f:Nat):Nat->Array Bool->Act->World->Prop
 | 0,l,a,w=>Region.ready md ops l= []∧Q .normal a w
 | n+1,l,a,w=>(Region.ready md ops l= []->Q .normal a w)∧∀i∈Region.ready md ops l,wpOp P ops Q i (fun a' w'=>(i≠f->S w')∧Goes P md ops Q S f n (l.setIfInBounds i true) a' w') a w
theorem Goes.any:∀(n:Nat) (l:Array Bool) (a:Act) (w:World),Goes P md ops Q S f n l a w->wpAny P md ops Q n l a w
 | 0,_,_,_,h=>h
 | n+1,_,_,_,h=>⟨h.1,fun i hi=>wpOp_mono (fun a' w' h'=>Goes.any n _ a' w' h'.2) (h.2 i hi)⟩
theorem first{i:Nat}{oi of':Oper}{v:Value}(hi:ops[i]?=some oi)(hf:ops[f]?=some of')(hdep:(of'.after.any fun e=>Region.binds md e&&e.on==i)=true)(hsel:∀(j:Nat) (o:Oper) cs b,ops[j]?=some o->o.op≠ .select cs b)
 (hQ:∀c a w,Q (.panic c) (a.put oi.dst v) w->Q (.panic c) a w) :
 ∀(n:Nat) (l:Array Bool) (a:Act) (w:World),
  (∀j oj,ops[j]?=some oj->j≠i->l.getD j true=false->(∀e∈oj.after,Region.binds md e=true->e.on≠i)->oi.apart ops oj=true) ->
  i∈Region.ready md ops l->YieldsIf P ops S oi v a->S w ->
  Goes P md ops Q S f n (l.setIfInBounds i true) (a.put oi.dst v) w->Goes P md ops Q S f (n+1) l a w:=by
 intro n
 induction n with
 | zero=>
   intro l a w _ hr hy hS H
   refine⟨fun h=>absurd hr (by rw[h];simp),fun j hj=>?_⟩
   by_cases e:j=i
   ·subst e;exact hy.wpOp hi hS ⟨fun _=>hS,H⟩
   ·exact absurd (ready_mono hj e) (by rw[H.1];simp)
 | succ n ih=>
   intro l a w hfree hr hy hS H
   refine⟨fun h=>absurd hr (by rw[h];simp),fun j hj=>?_⟩
   by_cases e:j=i
   ·subst e;exact hy.wpOp hi hS ⟨fun _=>hS,H⟩
   ·obtain⟨hun,oj,hoj,hall⟩:=mem_ready.1 hj
    have hnot:∀x∈oj.after,Region.binds md x=true->x.on≠i:=fun x hx hb hq=>by
     have h1:=hall x hx hb
     have h0:=(mem_ready.1 hr).1
     rw[hq] at h1
     rcases Nat.lt_or_ge i l.size with h' | h'
     ·simp[h'] at h0 h1;rw[h0] at h1;cases h1
     ·simp[Array.getElem?_eq_none h'] at h1
    have hjf:j≠f:=fun hq=>by
     subst hq
     rw[hf] at hoj
     injection hoj with hoj
     subst hoj
     obtain⟨x,hx,hxx⟩:=Array.any_eq_true'.1 hdep
     rw[Bool.and_eq_true,beq_iff_eq] at hxx
     exact hnot x hx hxx.1 hxx.2
    have h2:=wpOp_putIf hoj (hfree j oj hoj e hun hnot) (fun cs b=>hsel i oi cs b hi) (fun cs b=>hsel j oj cs b hoj) hQ hy (H.2 j (ready_mono hj e))
    refine wpOp_mono (fun a' w' h3=>⟨fun _=>h3.2.1 hjf,ih (l.setIfInBounds j true) a' w' (fun k ok hk hki hu hno=>hfree k ok hk hki ?_ hno) (ready_mono hr (Ne.symm e)) h3.1 (h3.2.1 hjf) ?_⟩) h2
    ·by_cases hjk:j=k
     ·subst hjk;exact hun
     ·rw[getD_set_ne true hjk] at hu;exact hu
    ·rw[Array.setIfInBounds_comm _ _ e]
     exact h3.2.2
theorem take{i d:Nat}{oi of':Oper}{v:Value}{n:Nat}{l:Array Bool}{ts:Array Value}{df:List Deferred}{w:World}(hi:ops[i]?=some oi)(hd:oi.dst=some d)(hf':ops[f]?=some of')(hdep:(of'.after.any fun e=>Region.binds md e&&e.on==i)=true)
 (hs:Region.noSelect ops=true) (hf:Region.free md ops l i=true) (hr:(Region.ready md ops l).contains i=true)
 (hQ:∀c a w,Q (.panic c) (a.put oi.dst v) w->Q (.panic c) a w) (hw:Region.wanted oi (yielded ops ts)=true)
 (hy:∀w,S w->(execOp (Act.eval ⟨ts,df⟩) oi).run P w= .ok (.value v) w) (hS:S w)
 (h:Goes P md ops Q S f n (l.setIfInBounds i true) ⟨ts.setIfInBounds d v,df⟩ w):Goes P md ops Q S f (n+1) l ⟨ts,df⟩ w:=
 first hi hf' hdep (Region.noSelect_spec hs) hQ n l _ w (Region.free_spec hi hf) (by simpa using hr) (Or.inl ⟨hw,hy⟩) hS (by rw[hd];exact h)
theorem one{i:Nat}{o:Oper}{n:Nat}{l:Array Bool}{a:Act}{w:World}(hr:Region.ready md ops l= [i])(ho:ops[i]?=some o)
 (h:∀K':Act->World->Prop,Shut (∀a w,(i≠f->S w)->Goes P md ops Q S f n (l.setIfInBounds i true) a w->K' a w)->if Region.wanted o (yielded ops a.tmps)=true then Oper.wp P o a w K' Q else K' (a.put o.dst undef) w) :
 Goes P md ops Q S f (n+1) l a w:=by
 refine⟨fun h0=>absurd h0 (by rw[hr];simp),fun j hj=>?_⟩
 rw[hr,List.mem_singleton] at hj
 subst hj
 exact wpOp_step ho (fun K' hK=>h K' (fun a w h1 h2=>hK a w ⟨h1,h2⟩))
theorem done{l:Array Bool}{a:Act}{w:World}(hr:Region.ready md ops l= [])(h:Q .normal a w):∀n,Goes P md ops Q S f n l a w
 | 0=>⟨hr,h⟩
 | _+1=>⟨fun _=>h,by rw[hr];simp⟩
theorem put{d:Nat}{o:Oper}(hd:o.dst=some d){n:Nat}{l:Array Bool}{ts:Array Value}{df:List Deferred}{v:Value}{w:World}
 (h:Goes P md ops Q S f n l ⟨ts.setIfInBounds d v,df⟩ w):Goes P md ops Q S f n l (Act.put ⟨ts,df⟩ o.dst v) w:=by
 rw[hd];exact h
end
theorem region{P:Program}{ops:Array Oper}{Q:Exit->Act->World->Prop}{id:Nat}{a:Act}{w:World}(S:World->Prop)(f:Nat)(hm:P.follows .mixedOrders=true)(hS:S w.drew)
 (h:S w.drew->Goes P .any ops Q S f ops.size (Array.replicate ops.size false) a w.drew):(Code.region id ops true).wp P Q a w:=
 wp_region_any hm (Goes.any _ _ _ _ (h hS))
end OrdE
/-
 Pack's small functions: isChunk, and a head's blocks, behind and may.
-/
section
open Go.RowKit
def hdL(n k:Int)(d:List Int):List Value:= .int .i64 n:: .int .i64 k::d.map (Value.int .u8)
theorem Qu9(n k:Int)(d:List Int)(h:d.length=32):(hdL n k d).toArray.size=34:=by simp[hdL,h]
theorem Xh5(n k:Int)(d:List Int):(hdL n k d).toArray.all (·.oneCell')=true:=by
 rw[List.all_toArray,List.all_eq_true]
 intro v hv
 simp only[hdL,List.mem_cons,List.mem_map] at hv
 rcases hv with rfl | rfl | ⟨z,_,rfl⟩<;>rfl
def Qcv(k:Nat):Nat:=(44+k+511)/512
theorem Qbp(w:World)(o:Obj):Below w.heap.size w (w.alloc o):=(Below.refl _ _).alloc (Nat.le_refl _) o
theorem Qba(w:World)(o:Obj):(w.alloc o).heap[w.heap.size]?=some o:=by
 show(w.heap.push o)[w.heap.size]?=_
 simp
theorem Tryz.size53:(Tryz.prog.info? 53).map (·.size)=some 34:=by kernel_rfl
theorem Qgt{P:Program}{w:World}{o:Oper}{ρ:Operand->Value}(ty:TypeId)(x:Operand)(ho:o.op= .load ty x)(b off:Nat)(hx:ρ x= .pointer (some ⟨b,off,none⟩)){v:Value}(hl:(loadVar ty ⟨b,off,none⟩).run P w= .ok v w):
 (execOp ρ o).run P w= .ok (.value v) w:=by
 unfold execOp
 simp only[ho,hx,Instr.loadAt,Instr.sureAddr,Sem.run_bind,Sem.run_pure,Result.andThen_ok,hl]
theorem Qd7(n:Nat)(w:World)(hn:n<=10000000):Calls Tryz.prog 42 #[.int .i64 (n:Int)] w fun e w'=>e= .returned (.bool (decide (1<=n∧n<=4096)))∧w'=w:=by
 by_cases h1:1<=n
 ·have e1:(1:Int)<=(n:Int):=by omega
  by_cases h2:n<=4096
  ·have e2:(n:Int)<=4096:=by omega
   rw[decide_eq_true (show 1<=n∧n<=4096 from⟨h1,h2⟩)]
   go_enter Tryz.func42,Tryz.ntmps42
   go_wp2
   go_ret
   exact⟨rfl,rfl⟩
  ·have e2:¬(n:Int)<=4096:=by omega
   rw[decide_eq_false (show ¬(1<=n∧n<=4096) from fun h=>h2 h.2)]
   go_enter Tryz.func42,Tryz.ntmps42
   go_wp2
   go_ret
   exact⟨rfl,rfl⟩
 ·have e1:¬(1:Int)<=(n:Int):=by omega
  rw[decide_eq_false (show ¬(1<=n∧n<=4096) from fun h=>h1 h.1)]
  go_enter Tryz.func42,Tryz.ntmps42
  go_wp2
  go_ret
  exact⟨rfl,rfl⟩
theorem Qhp(n:Int)(k:Nat)(d:List Int)(w:World)(hk:k<=100000):Calls Tryz.prog 25 #[.agg (hdL n k d).toArray] w fun e w'=>e= .returned (.int .i64 (Qcv k:Int))∧Below w.heap.size w w':=by
 have hb:=Qbp w (.cells (hdL n k d).toArray 53)
 have e1:=Joins.cell_of_block (Qba w (.cells (hdL n k d).toArray 53)) 1
 rw[show(hdL n k d).toArray[1]?=some (.int .i64 (k:Int)) from rfl] at e1
 have hq:((44:Int)+k+512-1)/512=(Qcv k:Int):=by unfold Qcv;omega
 have HQ:=hid hq
 generalize (hdL n k d).toArray=H at *
 clear hq
 go_enter Tryz.func25,Tryz.ntmps25
 go_wp2
 go_ret
 exact⟨congrArg (fun z=>Ending.returned (Value.int .i64 z)) HQ.out,hb⟩
theorem Qln(n:Int)(k:Nat)(d:List Int)(w:World)(hk:k<=100000)(hd:d.length=32):Calls Tryz.prog 28 #[.agg (hdL n k d).toArray] w fun e w'=>e= .returned (.int .i64 ((512*Qcv k-44-k:Nat):Int))∧Below w.heap.size w w':=by
 have hb:=Qbp w (.cells (hdL n k d).toArray 53)
 have e0:=Qba w (.cells (hdL n k d).toArray 53)
 have hsz:=Qu9 n k d hd
 have e1:∀V,Below (w.alloc (.cells (hdL n k d).toArray 53)).heap.size (w.alloc (.cells (hdL n k d).toArray 53)) V->V.cell? ⟨w.heap.size,1,none⟩=some (.int .i64 (k:Int)):=fun V hV=>by
  rw[hV.cell (p:=⟨w.heap.size,1,none⟩) (by simp)]
  exact Joins.cell_of_block e0 1
 have HBW:Hid (∀V,Calls Tryz.prog 25 #[.agg (hdL n k d).toArray] V fun e w'=>e= .returned (.int .i64 (Qcv k:Int))∧Below V.heap.size V w'):=fun V=>Qhp n k d V hk
 have HL:Hid (∀V,Below (w.alloc (.cells (hdL n k d).toArray 53)).heap.size (w.alloc (.cells (hdL n k d).toArray 53)) V->(loadVar 53 ⟨w.heap.size,0,none⟩).run Tryz.prog V= .ok (.agg (hdL n k d).toArray) V):=fun V hV=>by
  exact run_loadVar_row (P:=Tryz.prog) V w.heap.size 53 53 (hdL n k d).toArray (0,0) _ ((hV.block _ (by simp)).trans e0) Tryz.underlying53 rfl (by rw[hsz];exact Tryz.size53)
 have hq:(512:Nat)*Qcv k ≥ 44+k∧Qcv k<=100000:=by unfold Qcv;omega
 have HB:=hid hb
 have HE1:=hid e1
 clear e0 e1 hb
 generalize (hdL n k d).toArray=H at *
 obtain⟨q,hq2⟩:∃q,q=Qcv k:=⟨_,rfl⟩
 rw[<-hq2] at hq HBW
 have HQ:=hid hq2
 have hq0:=hq.1
 have hq1:=hq.2
 have HF:Hid (((512*Qcv k-44-k:Nat):Int)=(q:Int)*512-44-(k:Int)):=by show _=_;rw[<-hq2];omega
 clear hq2 hq hsz
 go_enter Tryz.func28,Tryz.ntmps28
 go_wp2_with fail
 generalize w.alloc (.cells H 53)=w1 at *
 have hgw:w.heap.size<=w1.heap.size:=HB.out.size
 generalize hgg:w.heap.size=g at *
 refine wp_region_held_drew (S:=fun V=>Below w1.heap.size w1 V) (by kernel_rfl) (Below.refl _ _).drew (fun hS0=>?_)
 generalize w1.drew=v0 at *
 simp only[List.size_toArray,List.length_cons,List.length_nil,Nat.reduceAdd]
 refine Ord.tk (i:=0) (d:=3) (v:= .agg H) rfl rfl ?hA0 (by assumption) ?_
 case hA0=>intro w hSw;exact Qgt 53 (.tmp 1) rfl g 0 rfl (HL.out w hSw)
 simp only[Ord.s1,Ord.s2,Ord.s3]
 refine Ord.tk (i:=4) (d:=7) (v:=?vA4) rfl rfl ?hA4 (by assumption) ?_
 case hA4=>intro w hSw;go_simp;try with_reducible rfl
 simp only[Ord.s1,Ord.s2,Ord.s3]
 refine Ord.tk (i:=5) (d:=8) (v:= .int .i64 (k:Int)) rfl rfl ?hA5 (by assumption) ?_
 case hA5=>intro w hSw;have q:=HE1.out w hSw;go_simp;try with_reducible rfl
 simp only[Ord.s1,Ord.s2,Ord.s3]
 refine wpAnyH_ready (rs:= [1]) (by as_aux_lemma=>kernel_rfl) (by simp) (AllReadyH.cons rfl (fun K hK=>?_) AllReadyH.nil)
 go_simp
 refine(HBW.out v0).mono ?_
 rintro _ v1 ⟨rfl,hb1⟩
 have hS1:=Bn hS0 hb1
 refine hK.out _ _ hS1 (fun _=>?_)
 clear hK K
 try simp only[Ord.s1,Ord.s2,Ord.s3]
 refine Ord.tk (i:=2) (d:=5) (v:=?vA2) rfl rfl ?hA2 (by assumption) ?_
 case hA2=>intro w hSw;go_simp;try with_reducible rfl
 simp only[Ord.s1,Ord.s2,Ord.s3]
 refine Ord.tk (i:=3) (d:=6) (v:=?vA3) rfl rfl ?hA3 (by assumption) ?_
 case hA3=>intro w hSw;go_simp;try with_reducible rfl
 simp only[Ord.s1,Ord.s2,Ord.s3]
 refine Ord.tk (i:=6) (d:=9) (v:=?vA6) rfl rfl ?hA6 (by assumption) ?_
 case hA6=>intro w hSw;go_simp;try with_reducible rfl
 simp only[Ord.s1,Ord.s2,Ord.s3]
 refine Ord.tk (i:=7) (d:=2) (v:=?vA7) rfl rfl ?hA7 (by assumption) ?_
 case hA7=>intro w hSw;go_simp;try with_reducible rfl
 simp only[Ord.s1,Ord.s2,Ord.s3]
 refine wpAnyH_done (by as_aux_lemma=>kernel_rfl) ?_ _
 go_wp2
 go_ret
 refine⟨congrArg (fun z=>Ending.returned (Value.int .i64 z)) ?_,by rw[hgg];exact HB.out.trans (hS1.mono hgw)⟩
 rw[IntWalk.i64_in ((q:Int)*512) (by omega),IntWalk.i64_in ((q:Int)*512-44) (by omega),IntWalk.i64_in _ (by omega)]
 exact HF.out.symm
end
/-
 The contracts of lz's common and of the document's reach.
-/
section
open Go.RowKit Lz
theorem drewN_drewN(w:World)(m n:Nat):(w.drewN m).drewN n=w.drewN (m+n):=by simp
end
/-
 The contracts of the document's longest and Longest.
-/
section
open Go.RowKit Lz
theorem Qag(w:World)(o:Obj):Below w.heap.size w (w.alloc o):=(Below.refl _ _).alloc (Nat.le_refl _) o
theorem Qbe(w:World)(o:Obj):(w.alloc o).heap[w.heap.size]?=some o:=by
 show(w.heap.push o)[w.heap.size]?=_
 simp
theorem Qbd(w:World)(o:Obj){i:Nat}{x:Obj}(h:w.heap[i]?=some x):(w.alloc o).heap[i]?=some x:=(Below.heap_alloc w o i (Array.getElem?_eq_some_iff.1 h).1).trans h
def Xit(t:Tok):Array Value:= #[.int .i64 (t.1:Int),.int .i64 (t.2.1:Int),.int .u8 t.2.2]
def Tb(W:World)(B:Nat)(t:Tok):Prop:=W.heap[B]?=some (.cells (Xit t) 109 (0,0))
theorem Tb.c0{W:World}{B:Nat}{t:Tok}(h:Tb W B t):W.cell? ⟨B,0,none⟩=some (.int .i64 (t.1:Int)):=Joins.cell_of_block h 0
theorem Tb.c1{W:World}{B:Nat}{t:Tok}(h:Tb W B t):W.cell? ⟨B,1,none⟩=some (.int .i64 (t.2.1:Int)):=Joins.cell_of_block h 1
theorem Tb.c2{W:World}{B:Nat}{t:Tok}(h:Tb W B t):W.cell? ⟨B,2,none⟩=some (.int .u8 t.2.2):=Joins.cell_of_block h 2
theorem Tb.f{W:World}{B:Nat}{t:Tok}(h:Tb W B t)(i:Nat):W.frozen? ⟨B,i,none⟩=false:=Joins.unfrozen_of_block h i
theorem Qel{w:World}{g k i:Nat}{cs:Array Value}{t:TypeId}{fr:Nat×Nat}(h:w.heap[g]?=some (.cells cs t fr))(hk:k≠g)(v:Value):(w.setCell ⟨g,i,none⟩ v).heap[k]?=w.heap[k]?:=by
 rw[setCell_eq_setRow w g i cs t fr v h]
 exact setRow_other w g k _ hk
def Qyf(W:World)(B:Nat)(t:Tok):World:=((W.setCell ⟨B,0,none⟩ (.int .i64 (t.1:Int))).setCell ⟨B,1,none⟩ (.int .i64 (t.2.1:Int))).setCell ⟨B,2,none⟩ (.int .u8 t.2.2)
theorem Tb.set{W:World}{B:Nat}{t:Tok}(h:Tb W B t)(t':Tok):Tb (Qyf W B t') B t':=by
 unfold Tb Qyf
 rw[Joins.block_setCell (Joins.block_setCell (Joins.block_setCell h _) _) _]
 rfl
theorem Tb.other{W:World}{B B':Nat}{t t':Tok}(h:Tb W B t)(hne:B'≠B){o:Option Obj}(h2:W.heap[B']?=o):(Qyf W B t').heap[B']?=o:=by
 have h1:=Joins.block_setCell (i:=0) h (.int .i64 (t'.1:Int))
 have h3:=Joins.block_setCell (i:=1) h1 (.int .i64 (t'.2.1:Int))
 unfold Qyf
 rw[Qel h3 hne,Qel h1 hne,Qel h hne,h2]
theorem Tb.bel{W w:World}{B n:Nat}{t:Tok}(_h:Tb W B t)(hb:Below n w W)(hn:n<=B)(t':Tok):Below n w (Qyf W B t'):=by
 unfold Qyf
 exact((hb.setCell (p:=⟨B,0,none⟩) hn _).setCell (p:=⟨B,1,none⟩) hn _).setCell (p:=⟨B,2,none⟩) hn _
end
/-
 Regions that draw their order inside a round of a range over a function: what is shown of them outside a round serves there too.
-/
section
end
/-
 The contract of lz's longest, over whatever iterator tells places ahead.
-/
section
open Go.RowKit Go.Shelf Lz
attribute [local go_sem] Oper.semAt_some
end
/-
 The iterator over all places ahead, and the contracts of lz's ahead and Longest.
-/
section
open Go.RowKit Go.Shelf Lz
attribute [local go_sem] Oper.semAt_some
theorem Qkk{P:Program}{fn:Func}{p u:Tmp}{ty:TypeId}(h:fn.results= #[.cell p ty,.tmp u])(tmps:Array Value)(w:World)(g:Nat)(v:Value)(hp:tmps.getD p undef= .pointer (some ⟨g,0,none⟩))(hl:(loadVar ty ⟨g,0,none⟩).run P w= .ok v w):
 (results fn tmps).run P w= .ok (.tuple #[v,tmps.getD u undef]) w:=by
 rw[results_cell_tmp h,hp]
 simp[asAddr,hl]
end
/-
 Four bytes as a map's key; what lz's map of places says.
-/
section
open Go.RowKit Go.Shelf Lz Go.WideMaps
def Qea(bs:List Int):Prop:=∀j,(Lit.int .u8 (bs.getD j 0)).wf=true
end
/-
 The contracts of lz's key, newPlaces and add.
-/
section
open Go.RowKit Go.Shelf Lz Go.WideMaps
theorem Xc0{W:World}{B:Nat}{a b c d:Value}(h:W.heap[B]?=some (.cells #[a,b,c,d] 189 (0,0))):(loadVar 189 ⟨B,0,none⟩).run Tryz.prog W= .ok (.agg #[a,b,c,d]) W:=
 run_loadVar_row W B 189 189 #[a,b,c,d] (0,0) _ h Tryz.underlying189 rfl (by kernel_rfl)
theorem Tryz.info3Z:(Tryz.prog.info? 3).map (fun i=>(i.zero,i.size,i.bytes))=some (some (.int .i64 0),1,8):=by kernel_rfl
end
/-
 The iterator over the places with the same four bytes.
-/
section
open Go.RowKit Go.Shelf Lz Go.WideMaps
attribute [local go_sem] Oper.semAt_some
theorem Qya(g q:Nat)(w:World):Calls Tryz.prog 98 #[.pointer (some ⟨g,0,none⟩),.int .i64 (q:Int)] w fun e w'=>e= .returned (.func (.func 126) #[] #[.pointer (some ⟨w.heap.size,0,none⟩),.pointer (some ⟨w.heap.size+1,0,none⟩)])∧w'=(w.alloc (.cells #[.pointer (some ⟨g,0,none⟩)] 144)).alloc (.cells #[.int .i64 (q:Int)] 3):=by
 go_enter Tryz.func98,Tryz.ntmps98
 go_wp2
 go_ret
 exact⟨rfl,rfl⟩
theorem Qm1{w w':World}(h:Below w.heap.size w w'):w.grownBy w' none:=⟨h.os,h.tape,h.output,h.size,fun k hk _=>h.block k hk⟩
end
/-
 The contract of the document's Tokens.
-/
section
open Go.RowKit Go.Shelf Lz Go.ChangeShapes Go.WideShapes
def Qtt(t:Tok):List Value:= [.int .i64 (t.1:Int),.int .i64 (t.2.1:Int),.int .u8 t.2.2]
theorem Xgj(t:Tok):∀u∈Qtt t,u.oneCell'=true:=by
 intro u hu
 simp[Qtt] at hu
 rcases hu with rfl | rfl | rfl<;>rfl
def Qzc(bs:List Int):List Tok×Int:=if 65536<bs.length then ([],2) else (Qhr bs,0)
def Qpj(bs:List Int)(w:World)(e:Ending)(w':World):Prop:=
 ∃v,e= .returned (.tuple #[v,.int .i64 (Qzc bs).2])∧w'.ownsRow w.heap.size 109 3 v (Qzc bs).1.length ((Qzc bs).1.flatMap Qtt)∧Below w.heap.size w w'
theorem Tryz.info109:(Tryz.prog.info? 109).map (fun i=>(i.zero,i.size,i.bytes))=some (some (.agg #[.int .i64 0,.int .i64 0,.int .u8 0]),3,24):=by kernel_rfl
theorem Xh9(w:World)(base:Nat):w.ownsRow base 109 3 (.slice none 0 0) 0 []:=⟨rfl,.inl ⟨rfl,rfl⟩⟩
theorem Xi4(w:World)(t:Tok)(j:Nat)(u:Value)(h:(Qtt t)[j]?=some u):(w.alloc (.cells (Xit t) 109)).cell? ((⟨w.heap.size,0,none⟩:Addr).add j)=some u:=by
 have e:=Joins.cell_of_block (Qbe w (.cells (Xit t) 109)) j
 rw[add_plain,Nat.zero_add,e]
 unfold Xit Qtt at *
 rw[List.getElem?_toArray]
 exact h
theorem Qfp{w w':World}{base:Nat}{e:TypeId}{size:Nat}{v:Value}{n:Nat}{xs:List Value}(h:w.ownsRow base e size v n xs)(hb:Below w.heap.size w w'):w'.ownsRow base e size v n xs:=
 h.kept (Qm1 hb) (by cases v.ownBlock<;>simp)
theorem Qim{w:World}{base:Nat}{e:TypeId}{size:Nat}{v:Value}{n:Nat}{xs:List Value}(h:w.ownsRow base e size v n xs):∀g,v.ownBlock=some g->base<=g∧g<w.heap.size:=by
 intro g hg
 rcases h.2 with ⟨rfl,_⟩ | ⟨g',cap,cur,rfl,hb,hh,_⟩
 ·cases hg
 ·simp only[Value.ownBlock,Option.some.injEq] at hg
  subst hg
  exact⟨hb,(Array.getElem?_eq_some_iff.1 hh).1⟩
end
/-
 The contract of lz's Tokens.
-/
section
open Go.RowKit Go.Shelf Lz
end
/-
 Which tokens may be: the contracts of lz's within, kindOf, Check, fault and of the document's Check.
-/
section
open Go.RowKit Lz
abbrev Tkz:=Int×Int×Int
def zC(t:Tkz):Array Value:= #[.int .i64 t.1,.int .i64 t.2.1,.int .u8 t.2.2]
def Xdk(t:Tkz):Bool:=t.1==0&&t.2.1==1
def Xdr(t:Tkz):Bool:=decide (1<=t.1)&&(decide (t.1<=4096)&&(decide (4<=t.2.1)&&(decide (t.2.1<=258)&&t.2.2==0)))
def Qck(t:Tkz):Int:=if Xdk t then 1 else if Xdr t then 2 else 0
def Qdw(t:Tkz):Int:=if Qck t=0 then 60 else 0
def Qgk(t:Tkz)(n:Int):Int:=if Qck t=0 then 60 else if Qck t=2∧n<t.1 then 61 else if 65536<n+t.2.1 then 2 else 0
theorem Qfv(x a b:Int)(w:World)(h1:a<=x)(h2:x<=b):Calls Tryz.prog 160 #[.int .i64 x,.int .i64 a,.int .i64 b] w fun e w'=>e= .returned (.bool true)∧w'=w:=by
 go_enter Tryz.func160,Tryz.ntmps160
 go_wp2
 go_ret
 exact⟨rfl,rfl⟩
theorem Ql4(x a b:Int)(w:World)(h:¬(a<=x∧x<=b)):Calls Tryz.prog 160 #[.int .i64 x,.int .i64 a,.int .i64 b] w fun e w'=>e= .returned (.bool false)∧w'=w:=by
 by_cases h1:a<=x
 ·have h2:¬x<=b:=fun h'=>h ⟨h1,h'⟩
  clear h
  go_enter Tryz.func160,Tryz.ntmps160
  go_wp2
  go_ret
  exact⟨rfl,rfl⟩
 ·clear h
  go_enter Tryz.func160,Tryz.ntmps160
  go_wp2
  go_ret
  exact⟨rfl,rfl⟩
theorem Qsj(t:Tkz)(w:World):Calls Tryz.prog 145 #[.agg (zC t)] w fun e w'=>e= .returned (.int .i64 (Qck t))∧Below w.heap.size w w':=by
 obtain⟨d,n,x⟩:=t
 unfold zC
 by_cases hl:d=0∧n=1
 ·obtain⟨rfl,rfl⟩:=hl
  have HK:Hid (Qck (0,1,x)=1):=rfl
  go_enter Tryz.func145,Tryz.ntmps145
  go_wp2
  go_ret
  exact⟨by rw[HK.out];rfl,Qag _ _⟩
 ·have hlit:Xdk (d,n,x)=false:=by
   unfold Xdk
   rw[Bool.eq_false_iff]
   simpa using hl
  have hk0:Qck (d,n,x)=if Xdr (d,n,x) then 2 else 0:=by unfold Qck;rw[hlit];rfl
  have hcb:Xdr (d,n,x)=(decide (1<=d)&&(decide (d<=4096)&&(decide (4<=n)&&(decide (n<=258)&&x==0)))):=rfl
  have tail:∀(hd:1<=d∧d<=4096) (hn:4<=n∧n<=258),Qck (d,n,x)=if x=0 then 2 else 0:=fun hd hn=>by
   rw[hk0,hcb]
   simp[hd.1,hd.2,hn.1,hn.2]
  have h1no:¬(1<=d∧d<=4096)->Qck (d,n,x)=0:=fun h=>by
   rw[hk0,hcb,if_neg]
   simp only[Bool.and_eq_true,decide_eq_true_eq]
   exact fun h'=>h ⟨h'.1,h'.2.1⟩
  have h2no:¬(4<=n∧n<=258)->Qck (d,n,x)=0:=fun h=>by
   rw[hk0,hcb,if_neg]
   simp only[Bool.and_eq_true,decide_eq_true_eq]
   exact fun h'=>h ⟨h'.2.2.1,h'.2.2.2.1⟩
  have HT:=hid tail
  have H1:=hid h1no
  have H2:=hid h2no
  clear tail h1no h2no hcb hk0 hlit
  by_cases hd:1<=d∧d<=4096
  ·have hd0:(d==0)=false:=by simp;omega
   by_cases hn:4<=n∧n<=258
   ·have HK:=hid (HT.out hd hn)
    by_cases hx:x=0
    ·have hx0:(x==0)=true:=by simpa using hx
     rw[if_pos hx] at HK
     clear HT H1 H2 hl hx
     obtain⟨hd1,hd2⟩:=hd
     obtain⟨hn1,hn2⟩:=hn
     go_enter Tryz.func145,Tryz.ntmps145
     go_wp2_with fail
     refine(Qfv d 1 4096 _ hd1 hd2).mono ?_
     rintro _ w1 ⟨rfl,rfl⟩
     go_wp2_with fail
     refine(Qfv n 4 258 _ hn1 hn2).mono ?_
     rintro _ w1 ⟨rfl,rfl⟩
     go_wp2
     go_ret
     exact⟨by rw[HK.out];rfl,Qag _ _⟩
    ·have hx0:(x==0)=false:=by simpa using hx
     rw[if_neg hx] at HK
     clear HT H1 H2 hl hx
     obtain⟨hd1,hd2⟩:=hd
     obtain⟨hn1,hn2⟩:=hn
     go_enter Tryz.func145,Tryz.ntmps145
     go_wp2_with fail
     refine(Qfv d 1 4096 _ hd1 hd2).mono ?_
     rintro _ w1 ⟨rfl,rfl⟩
     go_wp2_with fail
     refine(Qfv n 4 258 _ hn1 hn2).mono ?_
     rintro _ w1 ⟨rfl,rfl⟩
     go_wp2
     go_ret
     exact⟨by rw[HK.out];rfl,Qag _ _⟩
   ·have HK:=hid (H2.out hn)
    have HN:=hid hn
    clear HT H1 H2 hl hn
    obtain⟨hd1,hd2⟩:=hd
    go_enter Tryz.func145,Tryz.ntmps145
    go_wp2_with fail
    refine(Qfv d 1 4096 _ hd1 hd2).mono ?_
    rintro _ w1 ⟨rfl,rfl⟩
    go_wp2_with fail
    refine(Ql4 n 4 258 _ HN.out).mono ?_
    rintro _ w1 ⟨rfl,rfl⟩
    go_wp2
    go_ret
    exact⟨by rw[HK.out];rfl,Qag _ _⟩
  ·have HK:=hid (H1.out hd)
   have HN:=hid hd
   clear HT H1 H2 hd
   by_cases hd0:d=0
   ·subst hd0
    have hn0:(n==1)=false:=by simpa using hl
    clear hl
    go_enter Tryz.func145,Tryz.ntmps145
    go_wp2_with fail
    refine(Ql4 0 1 4096 _ HN.out).mono ?_
    rintro _ w1 ⟨rfl,rfl⟩
    go_wp2
    go_ret
    exact⟨by rw[HK.out];rfl,Qag _ _⟩
   ·have hd1:(d==0)=false:=by simpa using hd0
    clear hl hd0
    go_enter Tryz.func145,Tryz.ntmps145
    go_wp2_with fail
    refine(Ql4 d 1 4096 _ HN.out).mono ?_
    rintro _ w1 ⟨rfl,rfl⟩
    go_wp2
    go_ret
    exact⟨by rw[HK.out];rfl,Qag _ _⟩
theorem Qfm(t:Tkz):Qck t=0∨Qck t=1∨Qck t=2:=by
 unfold Qck
 split
 ·exact .inr (.inl rfl)
 ·split
  ·exact .inr (.inr rfl)
  ·exact .inl rfl
theorem Qwl(t:Tkz)(w:World):Calls Tryz.prog 128 #[.agg (zC t)] w fun e w'=>e= .returned (.int .i64 (Qdw t))∧Below w.heap.size w w':=by
 have HKW:=hid (Qsj t (w.alloc (.cells (zC t) 109)))
 obtain⟨d,n,x⟩:=t
 unfold zC at *
 dsimp only at *
 rcases Decidable.em (Qck (d,n,x)=0) with hk | hk
 ·have HC:Hid (Qdw (d,n,x)=60):=by show _=_;unfold Qdw;rw[if_pos hk]
  rw[hk] at HKW
  clear hk
  go_enter Tryz.func128,Tryz.ntmps128
  go_wp2_with fail
  refine HKW.out.mono ?_
  rintro _ w1 ⟨rfl,hb1⟩
  have HB:=hid (Bn (Qag w _) hb1)
  clear hb1 HKW
  go_wp2
  go_ret
  exact⟨by rw[HC.out];rfl,HB.out⟩
 ·have HC:Hid (Qdw (d,n,x)=0):=by show _=_;unfold Qdw;rw[if_neg hk]
  have hkb:(Qck (d,n,x)==0)=false:=by simpa using hk
  generalize Qck (d,n,x)=k at *
  clear hk
  go_enter Tryz.func128,Tryz.ntmps128
  go_wp2_with fail
  refine HKW.out.mono ?_
  rintro _ w1 ⟨rfl,hb1⟩
  have HB:=hid (Bn (Qag w _) hb1)
  clear hb1 HKW
  go_wp2
  go_ret
  exact⟨by rw[HC.out];rfl,HB.out⟩
theorem Qiy(t:Tkz):(Qck t=1->t.1=0∧t.2.1=1)∧(Qck t=2->1<=t.1∧t.1<=4096∧4<=t.2.1∧t.2.1<=258∧t.2.2=0):=by
 obtain⟨d,n,x⟩:=t
 unfold Qck Xdk Xdr
 simp only[Bool.and_eq_true,decide_eq_true_eq,beq_iff_eq]
 constructor
 ·intro h
  split at h
  ·assumption
  ·split at h<;>omega
 ·intro h
  split at h
  ·omega
  ·split at h
   ·assumption
   ·omega
theorem Qwj(t:Tkz) m (w:World) (hm0:0<=m) (hm:m<=65536):Calls Tryz.prog 143 #[.agg (zC t),.int .i64 m] w fun e w'=>e= .returned (.int .i64 (Qgk t m))∧Below w.heap.size w w':=by
 have HKW:=hid (Qsj t (w.alloc (.cells (zC t) 109)))
 have hthree:=Qfm t
 have hkind:=Qiy t
 have hflt:Qgk t m=if Qck t=0 then 60 else if Qck t=2∧m<t.1 then 61 else if 65536<m+t.2.1 then 2 else 0:=rfl
 obtain⟨d,n,x⟩:=t
 unfold zC at *
 dsimp only at *
 have e0:(w.alloc (.cells #[.int .i64 d,.int .i64 n,.int .u8 x] 109)).heap[w.heap.size]?=some (.cells #[.int .i64 d,.int .i64 n,.int .u8 x] 109 (0,0)):=Qbe _ _
 have HE0:=hid e0
 have HF:=hid hflt
 clear hflt e0
 rcases hthree with hk | hk | hk
 ·skip
  rw[hk] at HKW
  have HC:Hid (Qgk (d,n,x) m=60):=by show _=_;rw[HF.out,hk];rfl
  clear hk HF hkind
  go_enter Tryz.func143,Tryz.ntmps143
  go_wp2_with fail
  refine HKW.out.mono ?_
  rintro _ w1 ⟨rfl,hb1⟩
  have e1:=(hb1.block w.heap.size (by simp)).trans HE0.out
  have c0:=Joins.cell_of_block e1 0
  have c1:=Joins.cell_of_block e1 1
  simp only[List.getElem?_toArray,List.getElem?_cons_zero,List.getElem?_cons_succ] at c0 c1
  have HB:=hid (Bn (Qag w _) hb1)
  clear hb1 HKW e1 HE0
  go_wp2
  go_ret
  exact⟨by rw[HC.out];rfl,HB.out⟩
 ·obtain⟨hd0,hn1⟩:=hkind.1 hk
  subst hd0
  subst hn1
  by_cases hl:65536<m+1
  ·skip
   rw[hk] at HKW
   have HC:Hid (Qgk (0,1,x) m=2):=by show _=_;rw[HF.out,hk];rw[if_neg (by decide),if_neg (by omega),if_pos hl]
   clear hk HF hkind
   go_enter Tryz.func143,Tryz.ntmps143
   go_wp2_with fail
   refine HKW.out.mono ?_
   rintro _ w1 ⟨rfl,hb1⟩
   have e1:=(hb1.block w.heap.size (by simp)).trans HE0.out
   have c0:=Joins.cell_of_block e1 0
   have c1:=Joins.cell_of_block e1 1
   simp only[List.getElem?_toArray,List.getElem?_cons_zero,List.getElem?_cons_succ] at c0 c1
   have HB:=hid (Bn (Qag w _) hb1)
   clear hb1 HKW e1 HE0
   go_wp2
   go_ret
   exact⟨by rw[HC.out];rfl,HB.out⟩
  ·skip
   rw[hk] at HKW
   have HC:Hid (Qgk (0,1,x) m=0):=by show _=_;rw[HF.out,hk];rw[if_neg (by decide),if_neg (by omega),if_neg hl]
   clear hk HF hkind
   go_enter Tryz.func143,Tryz.ntmps143
   go_wp2_with fail
   refine HKW.out.mono ?_
   rintro _ w1 ⟨rfl,hb1⟩
   have e1:=(hb1.block w.heap.size (by simp)).trans HE0.out
   have c0:=Joins.cell_of_block e1 0
   have c1:=Joins.cell_of_block e1 1
   simp only[List.getElem?_toArray,List.getElem?_cons_zero,List.getElem?_cons_succ] at c0 c1
   have HB:=hid (Bn (Qag w _) hb1)
   clear hb1 HKW e1 HE0
   go_wp2
   go_ret
   exact⟨by rw[HC.out];rfl,HB.out⟩
 ·obtain⟨hd1,hd2,hn1,hn2,hx0⟩:=hkind.2 hk
  clear hx0
  by_cases hdm:m<d
  ·skip
   rw[hk] at HKW
   have HC:Hid (Qgk (d,n,x) m=61):=by show _=_;rw[HF.out,hk];rw[if_neg (by decide),if_pos ⟨rfl,hdm⟩]
   clear hk HF hkind
   go_enter Tryz.func143,Tryz.ntmps143
   go_wp2_with fail
   refine HKW.out.mono ?_
   rintro _ w1 ⟨rfl,hb1⟩
   have e1:=(hb1.block w.heap.size (by simp)).trans HE0.out
   have c0:=Joins.cell_of_block e1 0
   have c1:=Joins.cell_of_block e1 1
   simp only[List.getElem?_toArray,List.getElem?_cons_zero,List.getElem?_cons_succ] at c0 c1
   have HB:=hid (Bn (Qag w _) hb1)
   clear hb1 HKW e1 HE0
   go_wp2
   go_ret
   exact⟨by rw[HC.out];rfl,HB.out⟩
  ·by_cases hl:65536<m+n
   ·skip
    rw[hk] at HKW
    have HC:Hid (Qgk (d,n,x) m=2):=by show _=_;rw[HF.out,hk];rw[if_neg (by decide),if_neg (fun h=>hdm h.2),if_pos hl]
    clear hk HF hkind
    go_enter Tryz.func143,Tryz.ntmps143
    go_wp2_with fail
    refine HKW.out.mono ?_
    rintro _ w1 ⟨rfl,hb1⟩
    have e1:=(hb1.block w.heap.size (by simp)).trans HE0.out
    have c0:=Joins.cell_of_block e1 0
    have c1:=Joins.cell_of_block e1 1
    simp only[List.getElem?_toArray,List.getElem?_cons_zero,List.getElem?_cons_succ] at c0 c1
    have HB:=hid (Bn (Qag w _) hb1)
    clear hb1 HKW e1 HE0
    go_wp2
    go_ret
    exact⟨by rw[HC.out];rfl,HB.out⟩
   ·skip
    rw[hk] at HKW
    have HC:Hid (Qgk (d,n,x) m=0):=by show _=_;rw[HF.out,hk];rw[if_neg (by decide),if_neg (fun h=>hdm h.2),if_neg hl]
    clear hk HF hkind
    go_enter Tryz.func143,Tryz.ntmps143
    go_wp2_with fail
    refine HKW.out.mono ?_
    rintro _ w1 ⟨rfl,hb1⟩
    have e1:=(hb1.block w.heap.size (by simp)).trans HE0.out
    have c0:=Joins.cell_of_block e1 0
    have c1:=Joins.cell_of_block e1 1
    simp only[List.getElem?_toArray,List.getElem?_cons_zero,List.getElem?_cons_succ] at c0 c1
    have HB:=hid (Bn (Qag w _) hb1)
    clear hb1 HKW e1 HE0
    go_wp2
    go_ret
    exact⟨by rw[HC.out];rfl,HB.out⟩
end
/-
 The contract of the document's Check.
-/
section
open Go.RowKit Lz
theorem Xk6(d n x:Int):Qdw (d,n,x)=if (d=0∧n=1)∨(1<=d∧d<=4096∧4<=n∧n<=258∧x=0) then 0 else 60:=by
 unfold Qdw Qck Xdk Xdr
 simp only[Bool.and_eq_true,decide_eq_true_eq,beq_iff_eq]
 by_cases h1:d=0∧n=1
 ·have h:(d=0∧n=1)∨(1<=d∧d<=4096∧4<=n∧n<=258∧x=0):= .inl h1
  rw[if_pos h1,if_pos h,if_neg (by decide)]
 ·by_cases h2:1<=d∧d<=4096∧4<=n∧n<=258∧x=0
  ·have h:(d=0∧n=1)∨(1<=d∧d<=4096∧4<=n∧n<=258∧x=0):= .inr h2
   rw[if_neg h1,if_pos h2,if_pos h,if_neg (by decide)]
  ·rw[if_neg h1,if_neg h2,if_pos rfl,if_neg (fun h=>h.elim h1 h2)]
end
/-
 A row of tokens as an argument of type []api.Token: what it reads as, in which worlds.
-/
section
open Go.ChangeShapes Go.WideShapes Go.ChangeAt Go.RowKit Go.Deep Lz
def tk0:Tkz:=(0,0,0)
structure Rt (w:World) (a:Option Addr) (cap:Nat) (l:List Tkz):Prop where
 room:l.length<=cap
 most:cap<=maxLen
 cells:0<l.length->∃b off,a=some ⟨b,off,none⟩∧b<w.heap.size∧∀j,j<l.length->w.cell? ⟨b,off+j*3,none⟩=some (.int .i64 (l.getD j tk0).1)∧w.cell? ⟨b,off+j*3+1,none⟩=some (.int .i64 (l.getD j tk0).2.1)∧w.cell? ⟨b,off+j*3+2,none⟩=some (.int .u8 (l.getD j tk0).2.2)
 fits:∀j,j<l.length->(Lit.int .i64 (l.getD j tk0).1).wf=true∧(Lit.int .i64 (l.getD j tk0).2.1).wf=true∧(Lit.int .u8 (l.getD j tk0).2.2).wf=true
theorem Rt.later{w w':World}{a:Option Addr}{cap:Nat}{l:List Tkz}(h:Rt w a cap l)(hb:Below w.heap.size w w'):Rt w' a cap l:=by
 refine⟨h.room,h.most,fun h0=>?_,h.fits⟩
 obtain⟨b,off,ha,hbw,hc⟩:=h.cells h0
 refine⟨b,off,ha,Nat.lt_of_lt_of_le hbw hb.size,fun j hj=>?_⟩
 obtain⟨c0,c1,c2⟩:=hc j hj
 exact⟨(hb.cell (p:=⟨b,off+j*3,none⟩) hbw).trans c0,(hb.cell (p:=⟨b,off+j*3+1,none⟩) hbw).trans c1,(hb.cell (p:=⟨b,off+j*3+2,none⟩) hbw).trans c2⟩
def toZ(t:Tok):Tkz:=((t.1:Int),(t.2.1:Int),t.2.2)
theorem flat_get(l:List Tok):∀j,j<l.length->(l.flatMap Qtt)[j*3]?=some (.int .i64 ((l.map toZ).getD j tk0).1)∧(l.flatMap Qtt)[j*3+1]?=some (.int .i64 ((l.map toZ).getD j tk0).2.1)∧(l.flatMap Qtt)[j*3+2]?=some (.int .u8 ((l.map toZ).getD j tk0).2.2):=by
 induction l with
 | nil=>intro j hj;simp at hj
 | cons t l ih=>
   intro j hj
   rw[List.flatMap_cons]
   cases j with
   | zero=>exact⟨rfl,rfl,rfl⟩
   | succ j=>
     have hl:(Qtt t).length=3:=rfl
     obtain⟨h0,h1,h2⟩:=ih j (by simp at hj;omega)
     have e:∀i,(Qtt t++l.flatMap Qtt)[(j+1)*3+i]?=(l.flatMap Qtt)[j*3+i]?:=fun i=>by
      rw[List.getElem?_append_right (by omega),hl]
      congr 1
      omega
     have eg:((t::l).map toZ).getD (j+1) tk0=(l.map toZ).getD j tk0:=rfl
     rw[eg]
     refine⟨?_,?_,?_⟩
     ·rw[<-h0];exact e 0
     ·rw[<-h1];exact e 1
     ·rw[<-h2];exact e 2
theorem Rt.own{w:World}{base:Nat}{v:Value}{l:List Tok}(h:w.ownsRow base 109 3 v l.length (l.flatMap Qtt))(hf:∀t∈l,t.1<=65536∧t.2.1<=65536∧(Lit.int .u8 t.2.2).wf=true):
 ∃a cap,v= .slice a l.length cap∧Rt w a cap (l.map toZ):=by
 have hfit:∀j,j<(l.map toZ).length->(Lit.int .i64 ((l.map toZ).getD j tk0).1).wf=true∧(Lit.int .i64 ((l.map toZ).getD j tk0).2.1).wf=true∧(Lit.int .u8 ((l.map toZ).getD j tk0).2.2).wf=true:=fun j hj=>by
  have hj':j<l.length:=by simpa using hj
  have e:(l.map toZ).getD j tk0=toZ l[j]:=by simp[List.getD,hj']
  obtain⟨f0,f1,f2⟩:=hf l[j] (List.getElem_mem hj')
  rw[e]
  exact⟨Qbz (by simp only[toZ];omega) (by simp only[toZ];omega),Qbz (by simp only[toZ];omega) (by simp only[toZ];omega),f2⟩
 obtain⟨hl,hn | ⟨g,cap,cur,rfl,hb,hg,hnc,hcm,hcur,htk⟩⟩:=id h
 ·obtain⟨rfl,h0⟩:=hn
  refine⟨none,0,by rw[h0],by simp[h0],by unfold maxLen;omega,fun h1=>by simp[h0] at h1,hfit⟩
 ·refine⟨some ⟨g,0,none⟩,cap,rfl,by simpa using hnc,hcm,fun h0=>⟨g,0,rfl,(Array.getElem?_eq_some_iff.1 hg).1,fun j hj=>?_⟩,hfit⟩
  have hj':j<l.length:=by simpa using hj
  obtain⟨h0,h1,h2⟩:=flat_get l j hj'
  simp only[Nat.zero_add]
  exact⟨(h.cellAt _ (by omega)).trans h0,(h.cellAt _ (by omega)).trans h1,(h.cellAt _ (by omega)).trans h2⟩
end
/-
 How many bytes tokens make: the contracts of lz's Size and of the document's.
-/
section
open Go.RowKit Lz
def Qer:List Tkz->Int
 | []=>0
 | t::l=>t.2.1+Qer l
def Qsh(l:List Tkz):Bool:=l.all fun t=>Qdw t==0
def Qbs(l:List Tkz):Int×Int:=if Qsh l=true then (if 65536<Qer l then (0,2) else (Qer l,0)) else (0,60)
theorem Qh3(a b:List Tkz):Qer (a++b)=Qer a+Qer b:=by
 induction a with
 | nil=>simp[Qer]
 | cons t a ih=>simp only[List.cons_append,Qer,ih];omega
theorem Qyj(t:Tkz):Qdw t=0∨Qdw t=60:=by unfold Qdw;split<;>simp
theorem Qur{t:Tkz}(h:Qdw t=0):1<=t.2.1∧t.2.1<=258:=by
 have hk:Qck t≠0:=fun e=>by unfold Qdw at h;rw[if_pos e] at h;omega
 have hf:=Qiy t
 rcases Qfm t with k | k | k
 ·exact absurd k hk
 ·have:=hf.1 k;omega
 ·have:=hf.2 k;omega
theorem Qsi(l:List Tkz)(k:Nat)(h:k<l.length):l.take (k+1)=l.take k++ [l.getD k tk0]:=by
 rw[List.take_succ_eq_append_getElem h]
 simp[List.getD,h]
theorem Qmq(l:List Tkz)(h:∀t∈l,Qdw t=0):0<=Qer l∧Qer l<=258*l.length:=by
 induction l with
 | nil=>simp[Qer]
 | cons t l ih=>
   have h1:=Qur (h t (by simp))
   have h2:=ih (fun x hx=>h x (by simp[hx]))
   simp only[Qer,List.length_cons]
   omega
theorem Qte(l:List Tkz)(h:∀t∈l,Qdw t=0)(k:Nat):Qer (l.take k)<=Qer l:=by
 have e:Qer l=Qer (l.take k)+Qer (l.drop k):=by rw[<-Qh3,List.take_append_drop]
 have:=(Qmq (l.drop k) (fun t ht=>h t (List.mem_of_mem_drop ht))).1
 omega
theorem Qqj(l:List Tkz)(k:Nat)(h:k<l.length):l.getD k tk0∈l:=by
 simp only[List.getD,List.getElem?_eq_getElem h,Option.getD_some]
 exact List.getElem_mem h
theorem Xg7{l:List Tkz}(h:∀j,j<l.length->Qdw (l.getD j tk0)=0):Qsh l=true:=by
 unfold Qsh
 rw[List.all_eq_true]
 intro t ht
 obtain⟨j,hj,rfl⟩:=List.getElem_of_mem ht
 have:=h j hj
 simp only[List.getD,List.getElem?_eq_getElem hj,Option.getD_some] at this
 simpa using this
theorem Qz8{l:List Tkz}{k:Nat}(hk:k<l.length)(h:Qdw (l.getD k tk0)≠0):Qsh l=false:=by
 rw[Bool.eq_false_iff]
 intro ha
 unfold Qsh at ha
 rw[List.all_eq_true] at ha
 exact h (by simpa using ha _ (Qqj l k hk))
theorem Qsv{l:List Tkz}(h:Qsh l=true):∀t∈l,Qdw t=0:=by
 unfold Qsh at h
 rw[List.all_eq_true] at h
 exact fun t ht=>by simpa using h t ht
theorem Qrq(a:Option Addr)(cap:Nat)(l:List Tkz)(w:World)(hr:Rt w a cap l)(hn:l.length<=100000):
 Calls Tryz.prog 100 #[.slice a l.length cap] w fun e w'=>e= .returned (.tuple #[.int .i64 (Qbs l).1,.int .i64 (Qbs l).2])∧Below w.heap.size w w':=by
 have hroom:=hr.room
 have hmost:=hr.most
 unfold maxLen at hmost
 have HR:=hid hr
 obtain⟨len,hle⟩:∃n,n=l.length:=⟨_,rfl⟩
 have HL:=hid hle
 rw[<-hle] at hn hroom|-
 clear hr hle
 go_enter Tryz.func100,Tryz.ntmps100
 go_wp2
 go_loopw [4,10] (fun x4 x10 wr=>∃k:Nat,k<=len∧x10= .int .i64 (k:Int)∧x4= .int .i64 (Qer (l.take k))∧Below w.heap.size w wr∧Hid (∀j,j<k->Qdw (l.getD j tk0)=0)) (fun _ x10 _=>len-(intOf x10).toNat)
 case atStart=>exact⟨0,by omega,rfl,rfl,Below.refl _ _,fun j hj=>absurd hj (by omega)⟩
 case round=>
  obtain⟨k,hk,rfl,rfl,hbel,HA⟩:=hrel
  have hsb:0<=Qer (l.take k)∧Qer (l.take k)<=258*100000:=by
   have h:=Qmq (l.take k) (fun t ht=>by
    obtain⟨j,hj,rfl⟩:=List.getElem_of_mem ht
    have hj':j<k:=by simp at hj;omega
    have:=HA.out j hj'
    simp only[List.getElem_take]
    rw[List.getD,List.getElem?_eq_getElem (by rw[<-HL.out];omega)] at this
    exact this)
   have:((l.take k).length:Int)<=100000:=by simp;omega
   omega
  by_cases hlt:k<len
  ·have hkz:(k:Int)<(len:Int):=by omega
   obtain⟨b,off,rfl,hbw,hc⟩:=HR.out.cells (by rw[<-HL.out];omega)
   obtain⟨c0,c1,c2⟩:=hc k (by rw[<-HL.out];exact hlt)
   have d0:=(hbel.cell (p:=⟨b,off+k*3,none⟩) hbw).trans c0
   have d1:=(hbel.cell (p:=⟨b,off+k*3+1,none⟩) hbw).trans c1
   have d2:=(hbel.cell (p:=⟨b,off+k*3+2,none⟩) hbw).trans c2
   have HCK:=hid (Qwl (l.getD k tk0) (wr.alloc (.cells (zC (l.getD k tk0)) 109)))
   have HTK:=hid (Qsi l k (by rw[<-HL.out];exact hlt))
   have HNOT:=hid (fun h=>Qz8 (l:=l) (k:=k) (by rw[<-HL.out];exact hlt) h)
   have HLEN:=hid (fun h=>Qur (t:=l.getD k tk0) h)
   have hor:=Qyj (l.getD k tk0)
   have HAK:Hid (Qdw (l.getD k tk0)=0->∀j,j<k+1->Qdw (l.getD j tk0)=0):=fun h j hj=>by
    by_cases e:j=k
    ·subst e;exact h
    ·exact HA.out j (by omega)
   have HS:Hid (Qer (l.take (k+1))=Qer (l.take k)+(l.getD k tk0).2.1):=by
    show _=_
    rw[HTK.out,Qh3]
    simp[Qer]
   generalize Qer (l.take k)=s at *
   clear hc c0 c1 c2
   generalize l.getD k tk0=t at *
   obtain⟨d,n,x⟩:=t
   unfold zC at HCK
   dsimp only at *
   have hB1:=Qag wr (.cells #[.int .i64 d,.int .i64 n,.int .u8 x] 109)
   have HB1:=hid (Bn hbel hB1)
   have e0:(wr.alloc (.cells #[.int .i64 d,.int .i64 n,.int .u8 x] 109)).heap[wr.heap.size]?=some (.cells #[.int .i64 d,.int .i64 n,.int .u8 x] 109 (0,0)):=Qbe _ _
   have HE0:=hid e0
   clear hB1 e0 hbel
   go_wp2_with fail
   refine HCK.out.mono ?_
   rintro _ w2 ⟨rfl,hb2⟩
   have e2:=(hb2.block wr.heap.size (by simp)).trans HE0.out
   have m1:=Joins.cell_of_block e2 1
   simp only[List.getElem?_toArray,List.getElem?_cons_zero,List.getElem?_cons_succ] at m1
   have HB2:=hid (Bn HB1.out hb2)
   clear hb2 HB1 HCK e2 HE0
   rcases hor with hor | hor
   ·obtain⟨hn1,hn2⟩:=HLEN.out hor
    have HAK2:=hid (HAK.out hor)
    rw[hor]
    clear hor HNOT
    go_wp2
    exact⟨⟨k+1,by omega,by go_num,by rw[HS.out],HB2.out,HAK2⟩,by simp[intOf];omega⟩
   ·have HO:Hid (Qbs l=(0,60)):=by
     show _=_
     unfold Qbs
     rw[HNOT.out (by omega),if_neg (by simp)]
    rw[hor]
    clear hor HNOT
    go_wp2
    go_ret2
    exact⟨by rw[HO.out];rfl,HB2.out⟩
  ·obtain rfl:k=len:=by omega
   have hkz:¬(k:Int)<(k:Int):=by omega
   have HT:Hid (l.take k=l):=List.take_of_length_le (by rw[<-HL.out];omega)
   have HAL:Hid (Qsh l=true):=Xg7 (fun j hj=>HA.out j (by rw[HL.out];exact hj))
   rw[HT.out] at hsb|-
   have HO:Hid (Qbs l=if 65536<Qer l then (0,2) else (Qer l,0)):=by show _=_;unfold Qbs;rw[HAL.out,if_pos rfl]
   generalize Qer l=s at *
   by_cases hs:65536<s
   ·rw[if_pos hs] at HO
    go_wp2
    go_ret2
    exact⟨by rw[HO.out];rfl,hbel⟩
   ·rw[if_neg hs] at HO
    go_wp2
    go_ret2
    exact⟨by rw[HO.out];rfl,hbel⟩
end
/-
 The contract of the document's Size.
-/
section
open Go.RowKit Lz
end
end Go.Proofs.YtibjlbcnapoblaaGreatDoor
