/-
 Steps through a region that draws its order: as in Ord, but behind one operation that waits for all that are taken nothing is asked of the world.
-/
import Derived.Test.YtibjlbcnapoblaaGreatDoorPart04
import Derived.Deep.RegionHeld
import Derived.OrdersHeld
import Derived.Test.YtibjlbcnapoblaaGreatDoorPart00
import Derived.Lib.SmallJoins
import Derived.RangeFuncNested
import Derived.TacticsIn
import Derived.OrdersIn
import Derived.Deep.Quiet
import Derived.Test.YtibjlbcnapoblaaGreatDoorRows
namespace Go.Proofs.YtibjlbcnapoblaaGreatDoor
set_option maxRecDepth 100000
set_option maxHeartbeats 6400000
namespace OrdE
open Go.RowKit
section
variable {P : Program} {md : Region.Mode} {ops : Array Oper} {Q : Exit → Act → World → Prop} {S : World → Prop} {f : Nat}
def Goes(P:Program)(md:Region.Mode)(ops:Array Oper)(Q:Exit->Act->World->Prop)(S:World->Prop)(f:Nat):Nat->Array Bool->Act->World->Prop
 | 0,l,a,w=>Region.ready md ops l= []∧Q .normal a w
 | n+1,l,a,w=>(Region.ready md ops l= []->Q .normal a w)∧∀i∈Region.ready md ops l,wpOp P ops Q i (fun a' w'=>(i≠f->S w')∧Goes P md ops Q S f n (l.setIfInBounds i true) a' w') a w
theorem Goes.any:∀(n:Nat) (l:Array Bool) (a:Act) (w:World),Goes P md ops Q S f n l a w->wpAny P md ops Q n l a w
 | 0,_,_,_,h=>h
 | n+1,_,_,_,h=>⟨h.1,fun i hi=>wpOp_mono (fun a' w' h'=>Goes.any n _ a' w' h'.2) (h.2 i hi)⟩
theorem first{i:Nat}{oi of':Oper}{v:Value}(hi:ops[i]?=some oi)(hf:ops[f]?=some of')(hdep:(of'.after.any fun e=>Region.binds md e&&e.on==i)=true)(hsel:∀(j:Nat) (o:Oper) cs b,ops[j]?=some o->o.op≠ .select cs b)
 (hQ:∀c a w,Q (.panic c) (a.put oi.dst v) w->Q (.panic c) a w) :
 ∀(n:Nat) (l:Array Bool) (a:Act) (w:World),
  (∀j oj,ops[j]?=some oj->j≠i->l.getD j true=false->(∀e∈oj.after,Region.binds md e=true->e.on≠i)->oi.apart ops oj=true) ->
  i∈Region.ready md ops l->YieldsIf P ops S oi v a->S w ->
  Goes P md ops Q S f n (l.setIfInBounds i true) (a.put oi.dst v) w->Goes P md ops Q S f (n+1) l a w:=by
 intro n
 induction n with
 | zero=>
   intro l a w _ hr hy hS H
   refine⟨fun h=>absurd hr (by rw[h];simp),fun j hj=>?_⟩
   by_cases e:j=i
   ·subst e;exact hy.wpOp hi hS ⟨fun _=>hS,H⟩
   ·exact absurd (ready_mono hj e) (by rw[H.1];simp)
 | succ n ih=>
   intro l a w hfree hr hy hS H
   refine⟨fun h=>absurd hr (by rw[h];simp),fun j hj=>?_⟩
   by_cases e:j=i
   ·subst e;exact hy.wpOp hi hS ⟨fun _=>hS,H⟩
   ·obtain⟨hun,oj,hoj,hall⟩:=mem_ready.1 hj
    have hnot:∀x∈oj.after,Region.binds md x=true->x.on≠i:=fun x hx hb hq=>by
     have h1:=hall x hx hb
     have h0:=(mem_ready.1 hr).1
     rw[hq] at h1
     rcases Nat.lt_or_ge i l.size with h' | h'
     ·simp[h'] at h0 h1;rw[h0] at h1;cases h1
     ·simp[Array.getElem?_eq_none h'] at h1
    have hjf:j≠f:=fun hq=>by
     subst hq
     rw[hf] at hoj
     injection hoj with hoj
     subst hoj
     obtain⟨x,hx,hxx⟩:=Array.any_eq_true'.1 hdep
     rw[Bool.and_eq_true,beq_iff_eq] at hxx
     exact hnot x hx hxx.1 hxx.2
    have h2:=wpOp_putIf hoj (hfree j oj hoj e hun hnot) (fun cs b=>hsel i oi cs b hi) (fun cs b=>hsel j oj cs b hoj) hQ hy (H.2 j (ready_mono hj e))
    refine wpOp_mono (fun a' w' h3=>⟨fun _=>h3.2.1 hjf,ih (l.setIfInBounds j true) a' w' (fun k ok hk hki hu hno=>hfree k ok hk hki ?_ hno) (ready_mono hr (Ne.symm e)) h3.1 (h3.2.1 hjf) ?_⟩) h2
    ·by_cases hjk:j=k
     ·subst hjk;exact hun
     ·rw[getD_set_ne true hjk] at hu;exact hu
    ·rw[Array.setIfInBounds_comm _ _ e]
     exact h3.2.2
theorem take{i d:Nat}{oi of':Oper}{v:Value}{n:Nat}{l:Array Bool}{ts:Array Value}{df:List Deferred}{w:World}(hi:ops[i]?=some oi)(hd:oi.dst=some d)(hf':ops[f]?=some of')(hdep:(of'.after.any fun e=>Region.binds md e&&e.on==i)=true)
 (hs:Region.noSelect ops=true) (hf:Region.free md ops l i=true) (hr:(Region.ready md ops l).contains i=true)
 (hQ:∀c a w,Q (.panic c) (a.put oi.dst v) w->Q (.panic c) a w) (hw:Region.wanted oi (yielded ops ts)=true)
 (hy:∀w,S w->(execOp (Act.eval ⟨ts,df⟩) oi).run P w= .ok (.value v) w) (hS:S w)
 (h:Goes P md ops Q S f n (l.setIfInBounds i true) ⟨ts.setIfInBounds d v,df⟩ w):Goes P md ops Q S f (n+1) l ⟨ts,df⟩ w:=
 first hi hf' hdep (Region.noSelect_spec hs) hQ n l _ w (Region.free_spec hi hf) (by simpa using hr) (Or.inl ⟨hw,hy⟩) hS (by rw[hd];exact h)
theorem one{i:Nat}{o:Oper}{n:Nat}{l:Array Bool}{a:Act}{w:World}(hr:Region.ready md ops l= [i])(ho:ops[i]?=some o)
 (h:∀K':Act->World->Prop,Shut (∀a w,(i≠f->S w)->Goes P md ops Q S f n (l.setIfInBounds i true) a w->K' a w)->if Region.wanted o (yielded ops a.tmps)=true then Oper.wp P o a w K' Q else K' (a.put o.dst undef) w) :
 Goes P md ops Q S f (n+1) l a w:=by
 refine⟨fun h0=>absurd h0 (by rw[hr];simp),fun j hj=>?_⟩
 rw[hr,List.mem_singleton] at hj
 subst hj
 exact wpOp_step ho (fun K' hK=>h K' (fun a w h1 h2=>hK a w ⟨h1,h2⟩))
theorem done{l:Array Bool}{a:Act}{w:World}(hr:Region.ready md ops l= [])(h:Q .normal a w):∀n,Goes P md ops Q S f n l a w
 | 0=>⟨hr,h⟩
 | _+1=>⟨fun _=>h,by rw[hr];simp⟩
theorem put{d:Nat}{o:Oper}(hd:o.dst=some d){n:Nat}{l:Array Bool}{ts:Array Value}{df:List Deferred}{v:Value}{w:World}
 (h:Goes P md ops Q S f n l ⟨ts.setIfInBounds d v,df⟩ w):Goes P md ops Q S f n l (Act.put ⟨ts,df⟩ o.dst v) w:=by
 rw[hd];exact h
end
theorem region{P:Program}{ops:Array Oper}{Q:Exit->Act->World->Prop}{id:Nat}{a:Act}{w:World}(S:World->Prop)(f:Nat)(hm:P.follows .mixedOrders=true)(hS:S w.drew)
 (h:S w.drew->Goes P .any ops Q S f ops.size (Array.replicate ops.size false) a w.drew):(Code.region id ops true).wp P Q a w:=
 wp_region_any hm (Goes.any _ _ _ _ (h hS))
end OrdE
/-
 Pack's small functions: isChunk, and a head's blocks, behind and may.
-/
section
open Go.RowKit
def hdL(n k:Int)(d:List Int):List Value:= .int .i64 n:: .int .i64 k::d.map (Value.int .u8)
theorem Qv1(n k:Int)(d:List Int)(h:d.length=32):(hdL n k d).toArray.size=34:=by simp[hdL,h]
theorem Xid(n k:Int)(d:List Int):(hdL n k d).toArray.all (·.oneCell')=true:=by
 rw[List.all_toArray,List.all_eq_true]
 intro v hv
 simp only[hdL,List.mem_cons,List.mem_map] at hv
 rcases hv with rfl | rfl | ⟨z,_,rfl⟩<;>rfl
def blkN(k:Nat):Nat:=(44+k+511)/512
theorem Qbr(w:World)(o:Obj):Below w.heap.size w (w.alloc o):=(Below.refl _ _).alloc (Nat.le_refl _) o
theorem Qbd(w:World)(o:Obj):(w.alloc o).heap[w.heap.size]?=some o:=by
 show(w.heap.push o)[w.heap.size]?=_
 simp
theorem Tryz.size53:(Tryz.prog.info? 53).map (·.size)=some 34:=by kernel_rfl
theorem Qgo{P:Program}{w:World}{o:Oper}{ρ:Operand->Value}(ty:TypeId)(x:Operand)(ho:o.op= .load ty x)(b off:Nat)(hx:ρ x= .pointer (some ⟨b,off,none⟩)){v:Value}(hl:(loadVar ty ⟨b,off,none⟩).run P w= .ok v w):
 (execOp ρ o).run P w= .ok (.value v) w:=by
 unfold execOp
 simp only[ho,hx,Instr.loadAt,Instr.sureAddr,Sem.run_bind,Sem.run_pure,Result.andThen_ok,hl]
theorem Qd0(n:Nat)(w:World)(hn:n<=10000000):Calls Tryz.prog 42 #[.int .i64 (n:Int)] w fun e w'=>e= .returned (.bool (decide (1<=n∧n<=4096)))∧w'=w:=by
 by_cases h1:1<=n
 ·have e1:(1:Int)<=(n:Int):=by omega
  by_cases h2:n<=4096
  ·have e2:(n:Int)<=4096:=by omega
   rw[decide_eq_true (show 1<=n∧n<=4096 from⟨h1,h2⟩)]
   go_enter Tryz.func42,Tryz.ntmps42
   go_wp2
   go_ret
   exact⟨rfl,rfl⟩
  ·have e2:¬(n:Int)<=4096:=by omega
   rw[decide_eq_false (show ¬(1<=n∧n<=4096) from fun h=>h2 h.2)]
   go_enter Tryz.func42,Tryz.ntmps42
   go_wp2
   go_ret
   exact⟨rfl,rfl⟩
 ·have e1:¬(1:Int)<=(n:Int):=by omega
  rw[decide_eq_false (show ¬(1<=n∧n<=4096) from fun h=>h1 h.1)]
  go_enter Tryz.func42,Tryz.ntmps42
  go_wp2
  go_ret
  exact⟨rfl,rfl⟩
theorem Qhm(n:Int)(k:Nat)(d:List Int)(w:World)(hk:k<=100000):Calls Tryz.prog 25 #[.agg (hdL n k d).toArray] w fun e w'=>e= .returned (.int .i64 (blkN k:Int))∧Below w.heap.size w w':=by
 have hb:=Qbr w (.cells (hdL n k d).toArray 53)
 have e1:=Joins.cell_of_block (Qbd w (.cells (hdL n k d).toArray 53)) 1
 rw[show(hdL n k d).toArray[1]?=some (.int .i64 (k:Int)) from rfl] at e1
 have hq:((44:Int)+k+512-1)/512=(blkN k:Int):=by unfold blkN;omega
 have HQ:=hid hq
 generalize (hdL n k d).toArray=H at *
 clear hq
 go_enter Tryz.func25,Tryz.ntmps25
 go_wp2
 go_ret
 exact⟨congrArg (fun z=>Ending.returned (Value.int .i64 z)) HQ.out,hb⟩
theorem Qkq(n:Int)(k:Nat)(d:List Int)(w:World)(hk:k<=100000)(hd:d.length=32):Calls Tryz.prog 28 #[.agg (hdL n k d).toArray] w fun e w'=>e= .returned (.int .i64 ((512*blkN k-44-k:Nat):Int))∧Below w.heap.size w w':=by
 have hb:=Qbr w (.cells (hdL n k d).toArray 53)
 have e0:=Qbd w (.cells (hdL n k d).toArray 53)
 have hsz:=Qv1 n k d hd
 have e1:∀V,Below (w.alloc (.cells (hdL n k d).toArray 53)).heap.size (w.alloc (.cells (hdL n k d).toArray 53)) V->V.cell? ⟨w.heap.size,1,none⟩=some (.int .i64 (k:Int)):=fun V hV=>by
  rw[hV.cell (p:=⟨w.heap.size,1,none⟩) (by simp)]
  exact Joins.cell_of_block e0 1
 have HBW:Hid (∀V,Calls Tryz.prog 25 #[.agg (hdL n k d).toArray] V fun e w'=>e= .returned (.int .i64 (blkN k:Int))∧Below V.heap.size V w'):=fun V=>Qhm n k d V hk
 have HL:Hid (∀V,Below (w.alloc (.cells (hdL n k d).toArray 53)).heap.size (w.alloc (.cells (hdL n k d).toArray 53)) V->(loadVar 53 ⟨w.heap.size,0,none⟩).run Tryz.prog V= .ok (.agg (hdL n k d).toArray) V):=fun V hV=>by
  exact run_loadVar_row (P:=Tryz.prog) V w.heap.size 53 53 (hdL n k d).toArray (0,0) _ ((hV.block _ (by simp)).trans e0) Tryz.underlying53 rfl (by rw[hsz];exact Tryz.size53)
 have hq:(512:Nat)*blkN k ≥ 44+k∧blkN k<=100000:=by unfold blkN;omega
 have HB:=hid hb
 have HE1:=hid e1
 clear e0 e1 hb
 generalize (hdL n k d).toArray=H at *
 obtain⟨q,hq2⟩:∃q,q=blkN k:=⟨_,rfl⟩
 rw[<-hq2] at hq HBW
 have HQ:=hid hq2
 have hq0:=hq.1
 have hq1:=hq.2
 have HF:Hid (((512*blkN k-44-k:Nat):Int)=(q:Int)*512-44-(k:Int)):=by show _=_;rw[<-hq2];omega
 clear hq2 hq hsz
 go_enter Tryz.func28,Tryz.ntmps28
 go_wp2_with fail
 generalize w.alloc (.cells H 53)=w1 at *
 have hgw:w.heap.size<=w1.heap.size:=HB.out.size
 generalize hgg:w.heap.size=g at *
 refine wp_region_held_drew (S:=fun V=>Below w1.heap.size w1 V) (by kernel_rfl) (Below.refl _ _).drew (fun hS0=>?_)
 generalize w1.drew=v0 at *
 simp only[List.size_toArray,List.length_cons,List.length_nil,Nat.reduceAdd]
 refine Ord.tk (i:=0) (d:=3) (v:= .agg H) rfl rfl ?hA0 (by assumption) ?_
 case hA0=>intro w hSw;exact Qgo 53 (.tmp 1) rfl g 0 rfl (HL.out w hSw)
 simp only[Ord.s1,Ord.s2,Ord.s3]
 refine Ord.tk (i:=4) (d:=7) (v:=?vA4) rfl rfl ?hA4 (by assumption) ?_
 case hA4=>intro w hSw;go_simp;try with_reducible rfl
 simp only[Ord.s1,Ord.s2,Ord.s3]
 refine Ord.tk (i:=5) (d:=8) (v:= .int .i64 (k:Int)) rfl rfl ?hA5 (by assumption) ?_
 case hA5=>intro w hSw;have q:=HE1.out w hSw;go_simp;try with_reducible rfl
 simp only[Ord.s1,Ord.s2,Ord.s3]
 refine wpAnyH_ready (rs:= [1]) (by as_aux_lemma=>kernel_rfl) (by simp) (AllReadyH.cons rfl (fun K hK=>?_) AllReadyH.nil)
 go_simp
 refine(HBW.out v0).mono ?_
 rintro _ v1 ⟨rfl,hb1⟩
 have hS1:=Bn hS0 hb1
 refine hK.out _ _ hS1 (fun _=>?_)
 clear hK K
 try simp only[Ord.s1,Ord.s2,Ord.s3]
 refine Ord.tk (i:=2) (d:=5) (v:=?vA2) rfl rfl ?hA2 (by assumption) ?_
 case hA2=>intro w hSw;go_simp;try with_reducible rfl
 simp only[Ord.s1,Ord.s2,Ord.s3]
 refine Ord.tk (i:=3) (d:=6) (v:=?vA3) rfl rfl ?hA3 (by assumption) ?_
 case hA3=>intro w hSw;go_simp;try with_reducible rfl
 simp only[Ord.s1,Ord.s2,Ord.s3]
 refine Ord.tk (i:=6) (d:=9) (v:=?vA6) rfl rfl ?hA6 (by assumption) ?_
 case hA6=>intro w hSw;go_simp;try with_reducible rfl
 simp only[Ord.s1,Ord.s2,Ord.s3]
 refine Ord.tk (i:=7) (d:=2) (v:=?vA7) rfl rfl ?hA7 (by assumption) ?_
 case hA7=>intro w hSw;go_simp;try with_reducible rfl
 simp only[Ord.s1,Ord.s2,Ord.s3]
 refine wpAnyH_done (by as_aux_lemma=>kernel_rfl) ?_ _
 go_wp2
 go_ret
 refine⟨congrArg (fun z=>Ending.returned (Value.int .i64 z)) ?_,by rw[hgg];exact HB.out.trans (hS1.mono hgw)⟩
 rw[IntWalk.i64_in ((q:Int)*512) (by omega),IntWalk.i64_in ((q:Int)*512-44) (by omega),IntWalk.i64_in _ (by omega)]
 exact HF.out.symm
end
/-
 The contracts of lz's common and of the document's reach.
-/
section
open Go.RowKit Lz
theorem Qwt(w:World)(n:Nat):Below w.heap.size w (w.drewN n):=Qar (Below.refl _ _) n
theorem drewN_drewN(w:World)(m n:Nat):(w.drewN m).drewN n=w.drewN (m+n):=by simp
theorem Qmd(bs:List Int)(p q k ga oa la ca gb ob cb:Nat)(w:World)(hk:k<=la)(hkb:k<=cb)(hcb:cb<=maxLen)
 (ha:∀j,j<k->w.cell? ⟨ga,oa+j,none⟩=some (.int .u8 (bs.getD (p+j) 0))) (hb:∀j,j<k->w.cell? ⟨gb,ob+j,none⟩=some (.int .u8 (bs.getD (q+j) 0))) :
 Calls Tryz.prog 125 #[.slice (some ⟨ga,oa,none⟩) la ca,.slice (some ⟨gb,ob,none⟩) k cb] w fun e w'=>e= .returned (.int .i64 ((com bs p q k:Nat):Int))∧∃m,w'=w.drewN m:=by
 unfold maxLen at hcb
 have HA:=hid ha
 have HB:=hid hb
 clear ha hb
 go_enter Tryz.func125,Tryz.ntmps125
 go_wp2
 go_loopw [5] (fun y wr=>∃n m:Nat,n<=k∧y= .int .i64 n∧Hid (wr=w.drewN m)∧Hid (∀j,j<n->bs.getD (p+j) 0=bs.getD (q+j) 0)) (fun y _=>k-(intOf y).toNat)
 case atStart=>exact⟨0,0,by omega,rfl,rfl,fun j hj=>absurd hj (by omega)⟩
 case round=>
  obtain⟨n,m,hn,rfl,HW,HS⟩:=hrel
  by_cases hlt:n<k
  ·have c1:wr.cell? ⟨ga,oa+n,none⟩=some (.int .u8 (bs.getD (p+n) 0)):=by rw[HW.out];exact HA.out n hlt
   have c2:wr.cell? ⟨gb,ob+n,none⟩=some (.int .u8 (bs.getD (q+n) 0)):=by rw[HW.out];exact HB.out n hlt
   have hnz:(n:Int)<(k:Int):=by omega
   have hd:decide ((n:Int)<(k:Int))=true:=by simpa using hlt
   by_cases he:bs.getD (p+n) 0=bs.getD (q+n) 0
   ·rw[<-he] at c2
    have HS2:Hid (∀j,j<n+1->bs.getD (p+j) 0=bs.getD (q+j) 0):=fun j hj=>by
     by_cases e:j=n
     ·subst e;exact he
     ·exact HS.out j (by omega)
    clear he
    generalize bs.getD (p+n) 0=z at *
    have hz:(z==z)=true:=by simp
    go_wp2_with fail
    go_big_quiet (fail)
    go_wp2
    exact⟨⟨n+1,_,by omega,by go_num,hid (by rw[HW.out,drewN_drewN]),HS2⟩,by simp[intOf];omega⟩
   ·have HC:=hid (Xf8 bs k p q n hn HS.out (.inr he))
    have hz:(bs.getD (p+n) 0==bs.getD (q+n) 0)=false:=by simpa using he
    generalize bs.getD (p+n) 0=z at *
    generalize bs.getD (q+n) 0=y at *
    clear he
    go_wp2_with fail
    go_big_quiet (fail)
    go_wp2
    go_ret
    exact⟨by rw[HC.out];rfl,_,by rw[HW.out,drewN_drewN]⟩
  ·have HC:=hid (Xf8 bs k p q n hn HS.out (.inl (by omega)))
   have hnz:¬(n:Int)<(k:Int):=by omega
   have hd:decide ((n:Int)<(k:Int))=false:=by simpa using hlt
   go_wp2_with fail
   go_big_quiet (fail)
   go_wp2
   go_ret
   exact⟨by rw[HC.out];rfl,_,by rw[HW.out,drewN_drewN]⟩
end
/-
 The contracts of the document's longest and Longest.
-/
section
open Go.RowKit Lz
theorem Qad(w:World)(o:Obj):Below w.heap.size w (w.alloc o):=(Below.refl _ _).alloc (Nat.le_refl _) o
theorem Qap(w:World)(o:Obj):(w.alloc o).heap[w.heap.size]?=some o:=by
 show(w.heap.push o)[w.heap.size]?=_
 simp
theorem Qan(w:World)(o:Obj){i:Nat}{x:Obj}(h:w.heap[i]?=some x):(w.alloc o).heap[i]?=some x:=(Below.heap_alloc w o i (Array.getElem?_eq_some_iff.1 h).1).trans h
def tokV(t:Tok):Array Value:= #[.int .i64 (t.1:Int),.int .i64 (t.2.1:Int),.int .u8 t.2.2]
def Tb(W:World)(B:Nat)(t:Tok):Prop:=W.heap[B]?=some (.cells (tokV t) 109 (0,0))
theorem Tb.c0{W:World}{B:Nat}{t:Tok}(h:Tb W B t):W.cell? ⟨B,0,none⟩=some (.int .i64 (t.1:Int)):=Joins.cell_of_block h 0
theorem Tb.c1{W:World}{B:Nat}{t:Tok}(h:Tb W B t):W.cell? ⟨B,1,none⟩=some (.int .i64 (t.2.1:Int)):=Joins.cell_of_block h 1
theorem Tb.c2{W:World}{B:Nat}{t:Tok}(h:Tb W B t):W.cell? ⟨B,2,none⟩=some (.int .u8 t.2.2):=Joins.cell_of_block h 2
theorem Tb.f{W:World}{B:Nat}{t:Tok}(h:Tb W B t)(i:Nat):W.frozen? ⟨B,i,none⟩=false:=Joins.unfrozen_of_block h i
theorem Qa4{w:World}{g k i:Nat}{cs:Array Value}{t:TypeId}{fr:Nat×Nat}(h:w.heap[g]?=some (.cells cs t fr))(hk:k≠g)(v:Value):(w.setCell ⟨g,i,none⟩ v).heap[k]?=w.heap[k]?:=by
 rw[setCell_eq_setRow w g i cs t fr v h]
 exact setRow_other w g k _ hk
def put3(W:World)(B:Nat)(t:Tok):World:=((W.setCell ⟨B,0,none⟩ (.int .i64 (t.1:Int))).setCell ⟨B,1,none⟩ (.int .i64 (t.2.1:Int))).setCell ⟨B,2,none⟩ (.int .u8 t.2.2)
theorem Tb.set{W:World}{B:Nat}{t:Tok}(h:Tb W B t)(t':Tok):Tb (put3 W B t') B t':=by
 unfold Tb put3
 rw[Joins.block_setCell (Joins.block_setCell (Joins.block_setCell h _) _) _]
 rfl
theorem Tb.other{W:World}{B B':Nat}{t t':Tok}(h:Tb W B t)(hne:B'≠B){o:Option Obj}(h2:W.heap[B']?=o):(put3 W B t').heap[B']?=o:=by
 have h1:=Joins.block_setCell (i:=0) h (.int .i64 (t'.1:Int))
 have h3:=Joins.block_setCell (i:=1) h1 (.int .i64 (t'.2.1:Int))
 unfold put3
 rw[Qa4 h3 hne,Qa4 h1 hne,Qa4 h hne,h2]
theorem Tb.bel{W w:World}{B n:Nat}{t:Tok}(_h:Tb W B t)(hb:Below n w W)(hn:n<=B)(t':Tok):Below n w (put3 W B t'):=by
 unfold put3
 exact((hb.setCell (p:=⟨B,0,none⟩) hn _).setCell (p:=⟨B,1,none⟩) hn _).setCell (p:=⟨B,2,none⟩) hn _
end
/-
 Regions that draw their order inside a round of a range over a function: what is shown of them outside a round serves there too.
-/
section
def Qoa(ops:Array Oper):Bool:=ops.all fun o=>match o.op with | .defer _=>false | _=>true
theorem Qq8{ops:Array Oper}(h:Qoa ops=true){i:Nat}{o:Oper}(hi:ops[i]?=some o)(c:_):o.op≠ .defer c:=by
 unfold Qoa at h
 rw[Array.all_eq_true] at h
 obtain⟨hlt,rfl⟩:=Array.getElem?_eq_some_iff.1 hi
 have:=h i hlt
 intro e
 rw[e] at this
 simp at this
theorem Qtw{P:Program}{l n:Nat}{f:FuncId}{args:Array Value}{w:World}{R:Ending->World->Prop}(h:Calls P f args w R):CallsIn (Fence.wide.inRound l) n P f args w R:=
 CallsIn.inRound l (callsIn_wide.2 h)
theorem Qxu{P:Program}{l n:Nat}{row:String}{args:Array Value}{w:World}{R:Value->World->Prop}(h:Rows P row args w R):RowsIn (Fence.wide.inRound l) n P row args w R:=by
 intro c cs _
 obtain⟨v,w',r,s⟩:=h c cs
 exact⟨v,w',r,(stepsIn_wide (P:=P)).2 s⟩
theorem Qxv{P:Program}{l n:Nat}{o:Oper}{a:Act}{w:World}{K K':Act->World->Prop}{Q:Exit->Act->World->Prop}(hd:∀c,o.op≠ .defer c)(hK:∀a w,K a w->K' a w)
 (h:o.wp P a w K Q):o.wpIn (Fence.wide.inRound l) n P a w K' Q:=by
 refine⟨fun _ _=>trivial,?_⟩
 have e:(Fence.wide.inRound l).round=some l:=rfl
 rw[e,Oper.semAt_some l _ o hd]
 unfold Oper.wp at h
 generalize (execOp a.eval o).run P w=r at *
 cases r with
 | ok nx w'=>
   cases nx<;>simp only[Oper.upon] at h<;>simp only[Oper.uponIn]
   case value=>exact hK _ _ h
   case skip=>exact hK _ _ h
   case defer=>exact hK _ _ h
   case enter f args=>
    refine⟨fun h0=>by simp[Fence.wide,Fence.inRound] at h0,Qtw (Calls.mono h fun e w'' he=>?_)⟩
    cases e with
    | returned=>exact hK _ _ he
    | panicked=>exact he
    | outgrown=>exact he
   case row row args=>exact⟨fun h0=>by simp[Fence.wide,Fence.inRound] at h0,Qxu (Rows.mono h fun _ _ he=>hK _ _ he)⟩
 | halt x w'=>cases x<;>simp only[Oper.upon] at h<;>simp only[Oper.uponIn]<;>exact h
theorem Qh7{P:Program}{l n:Nat}{md:Region.Mode}{ops:Array Oper}{Q:Exit->Act->World->Prop}(hd:Qoa ops=true)(hQ:∀a w,¬Q .outgrown a w):
 ∀(fuel:Nat) (listed:Array Bool) (a:Act) (w:World),wpAny P md ops Q fuel listed a w->wpAnyIn (Fence.wide.inRound l) n P md ops Q fuel listed a w
 | 0,_,_,_,h=>h
 | fuel+1,listed,a,w,h=>by
   refine⟨h.1,fun i hi=>?_⟩
   have h1:=h.2 i hi
   unfold wpOp at h1
   unfold wpOpIn
   split
   ·rename_i ho;simp only[ho] at h1;exact Qh7 hd hQ fuel _ _ _ h1
   ·rename_i o ho
    simp only[ho] at h1
    split
    ·rename_i hw
     simp only[hw,if_true] at h1
     rcases h1 with h1 | ⟨_,a',w',h2⟩
     ·exact Qxv (Qq8 hd ho) (fun a w=>Qh7 hd hQ fuel _ a w) h1
     ·exact absurd h2 (hQ _ _)
    ·rename_i hw
     simp only[hw] at h1
     exact⟨fun _ _=>trivial,Qh7 hd hQ fuel _ _ _ h1⟩
theorem Qdt{P:Program}{l n id:Nat}{Q:Exit->Act->World->Prop}{a:Act}{w:World}{ol:List Oper}(hm:P.follows .mixedOrders=true)(hB:Region.lexB .any ol.toArray=true)(hd:Qoa ol.toArray=true)(hQ:∀a w,¬Q .outgrown a w)
 (h:wpQuiet P ol.toArray (fun w'=>∃n,w'=w.drewN n) (fun a'=>∀w',(∃n,w'=w.drewN n)->Q .normal a' w') ol a):(Code.region id ol.toArray true).wpIn (Fence.wide.inRound l) n P Q a w:=by
 refine wpIn_region_any hm (Qh7 hd hQ _ _ _ _ ?_)
 unfold Region.lexB at hB
 simp only[Bool.and_eq_true] at hB
 refine wpAny_of_quiet (C:=fun w'=>∃n,w'=w.drewN n) (Q:=fun a'=>∀w',(∃n,w'=w.drewN n)->Q .normal a' w') (fun a w' hw' h'=>h' w' hw') _ _ _ _ ⟨1,rfl⟩ ?_
 exact wpAnyQ_lex hB.1 ol 0 _ _ (fun j=>by simp) (by simpa using hB.2) h
end
end Go.Proofs.YtibjlbcnapoblaaGreatDoor
