/-
 A row of integers as an argument of type []int, []byte or []uint16: what it reads as, in which worlds.
-/
import Derived.Test.YtelnefngkdfcoaaGreatRows
import Derived.Laws.BytesArg
import Derived.Laws.BitsAllLaws
import Derived.WalkKit
import Derived.ProofKit
import Derived.OpenShut
import Derived.Deep.QuietTactic
import Derived.BigQuiet
import Derived.RegionTactic
import Derived.Test.YtelnefngkdfcoaaGreatPart00
import Derived.Lib.SmallJoins
import Derived.RangeFuncNested
import Derived.TacticsIn
import Derived.OrdersIn
import Derived.OrdersHeld
import Derived.Deep.Quiet
import Derived.Deep.RegionHeld
namespace Go.Proofs.YtelnefngkdfcoaaGreat
open Go.RowKit
theorem hid{p:Prop}(h:p):Go.RowKit.Hid p:=h
structure Ri (w:World) (kd:IntKind) (a:Option Addr) (cap:Nat) (zs:List Int):Prop where
 room:zs.length<=cap
 most:cap<=maxLen
 cells:0<zs.length->∃b off,a=some ⟨b,off,none⟩∧b<w.heap.size∧∀j,j<zs.length->w.cell? ⟨b,off+j,none⟩=some (.int kd (zs.getD j 0))
 fits:∀j,(Lit.int kd (zs.getD j 0)).wf=true
theorem Ri.later{w w':World}{kd:IntKind}{a:Option Addr}{cap:Nat}{zs:List Int}(h:Ri w kd a cap zs)(hb:Below w.heap.size w w'):Ri w' kd a cap zs:=by
 refine⟨h.room,h.most,fun h0=>?_,h.fits⟩
 obtain⟨b,off,ha,hbw,hc⟩:=h.cells h0
 exact⟨b,off,ha,Nat.lt_of_lt_of_le hbw hb.size,fun j hj=>(hb.cell (p:=⟨b,off+j,none⟩) hbw).trans (hc j hj)⟩
theorem getD_take(zs:List Int)(n j:Nat)(hj:j<n):(zs.take n).getD j 0=zs.getD j 0:=by
 simp[List.getD,List.getElem?_take_of_lt hj]
theorem getD_take_out(zs:List Int)(n j:Nat)(hj:¬j<n):(zs.take n).getD j 0=0:=by
 have h:(zs.take n).length<=j:=by simp;omega
 simp[List.getD,List.getElem?_eq_none h]
theorem getD_out(zs:List Int)(j:Nat)(hj:zs.length<=j):zs.getD j 0=0:=by
 simp[List.getD,List.getElem?_eq_none hj]
theorem wf_zero(kd:IntKind):(Lit.int kd 0).wf=true:=by cases kd<;>rfl
theorem Ri.take{w:World}{kd:IntKind}{a:Option Addr}{cap:Nat}{zs:List Int}(h:Ri w kd a cap zs)(n:Nat):Ri w kd a cap (zs.take n):=by
 have hroom:=h.room
 have hle:(zs.take n).length<=zs.length:=by simp;omega
 have hln:(zs.take n).length<=n:=List.length_take_le _ _
 refine⟨by omega,h.most,fun h0=>?_,fun j=>?_⟩
 ·obtain⟨b,off,ha,hbw,hc⟩:=h.cells (by omega)
  refine⟨b,off,ha,hbw,fun j hj=>?_⟩
  rw[getD_take zs n j (by omega)]
  exact hc j (by omega)
 ·by_cases hj:j<n
  ·rw[getD_take zs n j hj];exact h.fits j
  ·rw[getD_take_out zs n j hj];exact wf_zero kd
theorem Bn{w a b:World}(h:Below w.heap.size w a)(h2:Below a.heap.size a b):Below w.heap.size w b:=h.trans (h2.mono h.size)
theorem bel_drewN{B:Nat}{a w:World}(h:Below B a w)(n:Nat):Below B a (w.drewN n):=h.trans ⟨rfl,rfl,rfl,Nat.le_refl _,fun _ _=>rfl⟩
theorem Tryz.laidOut:laidOutB Tryz.prog=true:=by kernel_rfl
theorem Tryz.cells3:Tryz.prog.cellsOf 3=1:=by kernel_rfl
theorem Tryz.cells5:Tryz.prog.cellsOf 5=1:=by kernel_rfl
theorem wf_u8{x:Int}(h:(Lit.int .u8 x).wf=true):0<=x∧x<=255:=by
 have h1:IntKind.u8.min=0:=rfl
 have h2:IntKind.u8.max=255:=rfl
 simp only[Lit.wf,Bool.and_eq_true,decide_eq_true_eq] at h
 omega
theorem wf_u16{x:Int}(h:(Lit.int .u16 x).wf=true):0<=x∧x<=65535:=by
 have h1:IntKind.u16.min=0:=rfl
 have h2:IntKind.u16.max=65535:=rfl
 simp only[Lit.wf,Bool.and_eq_true,decide_eq_true_eq] at h
 omega
theorem wf_i64{x:Int}(h:(Lit.int .i64 x).wf=true): -9223372036854775808<=x∧x<=9223372036854775807:=by
 have h1:IntKind.i64.min= -9223372036854775808:=rfl
 have h2:IntKind.i64.max=9223372036854775807:=rfl
 simp only[Lit.wf,Bool.and_eq_true,decide_eq_true_eq] at h
 omega
theorem wf_mk_i64{x:Int}(h1: -9223372036854775808<=x)(h2:x<=9223372036854775807):(Lit.int .i64 x).wf=true:=by
 have e1:IntKind.i64.min= -9223372036854775808:=rfl
 have e2:IntKind.i64.max=9223372036854775807:=rfl
 simp only[Lit.wf,Bool.and_eq_true,decide_eq_true_eq]
 omega
theorem wf_mk_u8{x:Int}(h1:0<=x)(h2:x<=255):(Lit.int .u8 x).wf=true:=by
 have e1:IntKind.u8.min=0:=rfl
 have e2:IntKind.u8.max=255:=rfl
 simp only[Lit.wf,Bool.and_eq_true,decide_eq_true_eq]
 omega
theorem wf_mk_u16{x:Int}(h1:0<=x)(h2:x<=65535):(Lit.int .u16 x).wf=true:=by
 have e1:IntKind.u16.min=0:=rfl
 have e2:IntKind.u16.max=65535:=rfl
 simp only[Lit.wf,Bool.and_eq_true,decide_eq_true_eq]
 omega
set_option maxRecDepth 100000 in
open Go.ChangeShapes Go.WideShapes Go.ChangeAt in
theorem open_ri{H:Type}{enc:TypeId×Value->H}{W:World}{base:Nat}{t e:TypeId}{kd:IntKind}{v:Value}{d:DataW H}{p:List MemPlace}(ht:Tryz.prog.underlying t=some (.slice e))(he:Tryz.prog.underlying e=some (.int kd))(hc:Tryz.prog.cellsOf e=1)
 (hv:Value.okWide Tryz.prog W .any base t v) (h:DataW.Trod enc Tryz.prog W 0 (fun _=>true) true t v d p) (hlt:∀x∈p,x.block<W.heap.size) :
 ∃a cap zs,v= .slice a (zs:List Int).length cap∧Ri W kd a cap zs:=by
 obtain⟨a0,len,cap,rfl⟩:=okWide_slice ht hv
 obtain⟨fuel,hf⟩:=h
 rcases open_ints ht he hc hf with ⟨hcs,hx⟩ | ⟨a,len',cap',zs,hcs,_,hl,hm,hz,hx,hcell,hwz⟩
 ·simp[Value.cells] at hcs
  obtain⟨rfl,rfl,rfl⟩:=hcs
  exact⟨none,0,[],rfl,Nat.le_refl _,by unfold maxLen;omega,fun h=>absurd h (by simp),fun j=>by simp;exact wf_zero kd⟩
 ·simp[Value.cells] at hcs
  obtain⟨rfl,rfl,rfl⟩:=hcs
  simp only[Prod.mk.injEq] at hx
  obtain⟨_,rfl⟩:=hx
  simp only[if_true] at hz
  have hlen:(zs.take len).length=len:=by simp;omega
  refine⟨some a,cap,zs.take len,by rw[hlen],by omega,hm,fun h0=>?_,fun j=>?_⟩
  ·rw[hlen] at h0|-
   obtain⟨b,off,spot⟩:=a
   have hspot:spot=none:=by simpa [Addr.add] using World.cell?_spot (hcell 0 (by omega))
   subst hspot
   have hbW:b<W.heap.size:=hlt (.cell b off) (MemPlace.mem_row.2 ⟨0,by omega,by simp⟩)
   refine⟨b,off,rfl,hbW,fun j hj=>?_⟩
   rw[<-add_plain,getD_take zs len j hj]
   exact hcell j (by omega)
  ·by_cases hj:j<(zs.take len).length
   ·have hm:(zs.take len).getD j 0∈zs:=by
     simp only[List.getD,List.getElem?_eq_getElem hj,Option.getD_some]
     exact List.mem_of_mem_take (List.getElem_mem hj)
    exact hwz _ hm
   ·rw[getD_out _ _ (by omega)];exact wf_zero kd
theorem Ri.own{w:World}{base:Nat}{e:TypeId}{kd:IntKind}{v:Value}{zs:List Int}(h:w.ownsRow base e 1 v zs.length (zs.map (Value.int kd)))(hf:∀j,(Lit.int kd (zs.getD j 0)).wf=true):
 ∃a cap,v= .slice a zs.length cap∧Ri w kd a cap zs:=by
 obtain⟨hl,hn | ⟨g,cap,cur,rfl,hb,hg,hnc,hcm,hcur,htk⟩⟩:=id h
 ·obtain⟨rfl,h0⟩:=hn
  refine⟨none,0,by rw[h0],by omega,by unfold maxLen;omega,fun h1=>by omega,hf⟩
 ·refine⟨some ⟨g,0,none⟩,cap,rfl,hnc,hcm,fun h0=>⟨g,0,rfl,?_,fun j hj=>?_⟩,hf⟩
  ·exact(Array.getElem?_eq_some_iff.1 hg).1
  ·rw[Nat.zero_add,h.cellAt j (by omega),List.getElem?_map]
   simp[List.getD,List.getElem?_eq_getElem hj]
end Go.Proofs.YtelnefngkdfcoaaGreat
/-
 The contracts of lz's common and of the document's reach.
-/
namespace Go.Proofs.YtelnefngkdfcoaaGreat
open Go.RowKit Lz
theorem bel_drewN'(w:World)(n:Nat):Below w.heap.size w (w.drewN n):=bel_drewN (Below.refl _ _) n
theorem drewN_drewN(w:World)(m n:Nat):(w.drewN m).drewN n=w.drewN (m+n):=by simp
set_option maxHeartbeats 800000 in
set_option maxRecDepth 100000 in
theorem common_word(bs:List Int)(p q k ga oa la ca gb ob cb:Nat)(w:World)(hk:k<=la)(hkb:k<=cb)(hcb:cb<=maxLen)
 (ha:∀j,j<k->w.cell? ⟨ga,oa+j,none⟩=some (.int .u8 (bs.getD (p+j) 0))) (hb:∀j,j<k->w.cell? ⟨gb,ob+j,none⟩=some (.int .u8 (bs.getD (q+j) 0))) :
 Calls Tryz.prog 102 #[.slice (some ⟨ga,oa,none⟩) la ca,.slice (some ⟨gb,ob,none⟩) k cb] w fun e w'=>e= .returned (.int .i64 ((com bs p q k:Nat):Int))∧∃m,w'=w.drewN m:=by
 unfold maxLen at hcb
 have HA:=hid ha
 have HB:=hid hb
 clear ha hb
 go_enter Tryz.func102,Tryz.ntmps102
 go_wp2
 go_loopw [5] (fun y wr=>∃n m:Nat,n<=k∧y= .int .i64 n∧Hid (wr=w.drewN m)∧Hid (∀j,j<n->bs.getD (p+j) 0=bs.getD (q+j) 0)) (fun y _=>k-(intOf y).toNat)
 case atStart=>exact⟨0,0,by omega,rfl,rfl,fun j hj=>absurd hj (by omega)⟩
 case round=>
  obtain⟨n,m,hn,rfl,HW,HS⟩:=hrel
  by_cases hlt:n<k
  ·have c1:wr.cell? ⟨ga,oa+n,none⟩=some (.int .u8 (bs.getD (p+n) 0)):=by rw[HW.out];exact HA.out n hlt
   have c2:wr.cell? ⟨gb,ob+n,none⟩=some (.int .u8 (bs.getD (q+n) 0)):=by rw[HW.out];exact HB.out n hlt
   have hnz:(n:Int)<(k:Int):=by omega
   have hd:decide ((n:Int)<(k:Int))=true:=by simpa using hlt
   by_cases he:bs.getD (p+n) 0=bs.getD (q+n) 0
   ·rw[<-he] at c2
    have HS2:Hid (∀j,j<n+1->bs.getD (p+j) 0=bs.getD (q+j) 0):=fun j hj=>by
     by_cases e:j=n
     ·subst e;exact he
     ·exact HS.out j (by omega)
    clear he
    generalize bs.getD (p+n) 0=z at *
    have hz:(z==z)=true:=by simp
    go_wp2_with fail
    go_big_quiet (fail)
    go_wp2
    exact⟨⟨n+1,_,by omega,by go_num,hid (by rw[HW.out,drewN_drewN]),HS2⟩,by simp[intOf];omega⟩
   ·have HC:=hid (com_eq bs k p q n hn HS.out (.inr he))
    have hz:(bs.getD (p+n) 0==bs.getD (q+n) 0)=false:=by simpa using he
    generalize bs.getD (p+n) 0=z at *
    generalize bs.getD (q+n) 0=y at *
    clear he
    go_wp2_with fail
    go_big_quiet (fail)
    go_wp2
    go_ret
    exact⟨by rw[HC.out];rfl,_,by rw[HW.out,drewN_drewN]⟩
  ·have HC:=hid (com_eq bs k p q n hn HS.out (.inl (by omega)))
   have hnz:¬(n:Int)<(k:Int):=by omega
   have hd:decide ((n:Int)<(k:Int))=false:=by simpa using hlt
   go_wp2_with fail
   go_big_quiet (fail)
   go_wp2
   go_ret
   exact⟨by rw[HC.out];rfl,_,by rw[HW.out,drewN_drewN]⟩
end Go.Proofs.YtelnefngkdfcoaaGreat
/-
 The contracts of the document's longest and Longest.
-/
namespace Go.Proofs.YtelnefngkdfcoaaGreat
open Go.RowKit Lz
theorem bel_allocZ(w:World)(o:Obj):Below w.heap.size w (w.alloc o):=(Below.refl _ _).alloc (Nat.le_refl _) o
theorem heap_newZ(w:World)(o:Obj):(w.alloc o).heap[w.heap.size]?=some o:=by
 show(w.heap.push o)[w.heap.size]?=_
 simp
theorem heap_old(w:World)(o:Obj){i:Nat}{x:Obj}(h:w.heap[i]?=some x):(w.alloc o).heap[i]?=some x:=(Below.heap_alloc w o i (Array.getElem?_eq_some_iff.1 h).1).trans h
def tokV(t:Tok):Array Value:= #[.int .i64 (t.1:Int),.int .i64 (t.2.1:Int),.int .u8 t.2.2]
def Tb(W:World)(B:Nat)(t:Tok):Prop:=W.heap[B]?=some (.cells (tokV t) 63 (0,0))
theorem Tb.c0{W:World}{B:Nat}{t:Tok}(h:Tb W B t):W.cell? ⟨B,0,none⟩=some (.int .i64 (t.1:Int)):=Joins.cell_of_block h 0
theorem Tb.c1{W:World}{B:Nat}{t:Tok}(h:Tb W B t):W.cell? ⟨B,1,none⟩=some (.int .i64 (t.2.1:Int)):=Joins.cell_of_block h 1
theorem Tb.c2{W:World}{B:Nat}{t:Tok}(h:Tb W B t):W.cell? ⟨B,2,none⟩=some (.int .u8 t.2.2):=Joins.cell_of_block h 2
theorem Tb.f{W:World}{B:Nat}{t:Tok}(h:Tb W B t)(i:Nat):W.frozen? ⟨B,i,none⟩=false:=Joins.unfrozen_of_block h i
theorem heap_put_otherZ{w:World}{g k i:Nat}{cs:Array Value}{t:TypeId}{fr:Nat×Nat}(h:w.heap[g]?=some (.cells cs t fr))(hk:k≠g)(v:Value):(w.setCell ⟨g,i,none⟩ v).heap[k]?=w.heap[k]?:=by
 rw[setCell_eq_setRow w g i cs t fr v h]
 exact setRow_other w g k _ hk
def put3(W:World)(B:Nat)(t:Tok):World:=((W.setCell ⟨B,0,none⟩ (.int .i64 (t.1:Int))).setCell ⟨B,1,none⟩ (.int .i64 (t.2.1:Int))).setCell ⟨B,2,none⟩ (.int .u8 t.2.2)
theorem Tb.set{W:World}{B:Nat}{t:Tok}(h:Tb W B t)(t':Tok):Tb (put3 W B t') B t':=by
 unfold Tb put3
 rw[Joins.block_setCell (Joins.block_setCell (Joins.block_setCell h _) _) _]
 rfl
theorem Tb.other{W:World}{B B':Nat}{t t':Tok}(h:Tb W B t)(hne:B'≠B){o:Option Obj}(h2:W.heap[B']?=o):(put3 W B t').heap[B']?=o:=by
 have h1:=Joins.block_setCell (i:=0) h (.int .i64 (t'.1:Int))
 have h3:=Joins.block_setCell (i:=1) h1 (.int .i64 (t'.2.1:Int))
 unfold put3
 rw[heap_put_otherZ h3 hne,heap_put_otherZ h1 hne,heap_put_otherZ h hne,h2]
theorem Tb.bel{W w:World}{B n:Nat}{t:Tok}(_h:Tb W B t)(hb:Below n w W)(hn:n<=B)(t':Tok):Below n w (put3 W B t'):=by
 unfold put3
 exact((hb.setCell (p:=⟨B,0,none⟩) hn _).setCell (p:=⟨B,1,none⟩) hn _).setCell (p:=⟨B,2,none⟩) hn _
end Go.Proofs.YtelnefngkdfcoaaGreat
/-
 Regions that draw their order inside a round of a range over a function: what is shown of them outside a round serves there too.
-/
namespace Go.Proofs.YtelnefngkdfcoaaGreat
def noDefer(ops:Array Oper):Bool:=ops.all fun o=>match o.op with | .defer _=>false | _=>true
theorem noDefer_spec{ops:Array Oper}(h:noDefer ops=true){i:Nat}{o:Oper}(hi:ops[i]?=some o)(c:_):o.op≠ .defer c:=by
 unfold noDefer at h
 rw[Array.all_eq_true] at h
 obtain⟨hlt,rfl⟩:=Array.getElem?_eq_some_iff.1 hi
 have:=h i hlt
 intro e
 rw[e] at this
 simp at this
theorem calls_round{P:Program}{l n:Nat}{f:FuncId}{args:Array Value}{w:World}{R:Ending->World->Prop}(h:Calls P f args w R):CallsIn (Fence.wide.inRound l) n P f args w R:=
 CallsIn.inRound l (callsIn_wide.2 h)
theorem rows_round{P:Program}{l n:Nat}{row:String}{args:Array Value}{w:World}{R:Value->World->Prop}(h:Rows P row args w R):RowsIn (Fence.wide.inRound l) n P row args w R:=by
 intro c cs _
 obtain⟨v,w',r,s⟩:=h c cs
 exact⟨v,w',r,(stepsIn_wide (P:=P)).2 s⟩
theorem oper_round{P:Program}{l n:Nat}{o:Oper}{a:Act}{w:World}{K K':Act->World->Prop}{Q:Exit->Act->World->Prop}(hd:∀c,o.op≠ .defer c)(hK:∀a w,K a w->K' a w)
 (h:o.wp P a w K Q):o.wpIn (Fence.wide.inRound l) n P a w K' Q:=by
 refine⟨fun _ _=>trivial,?_⟩
 have e:(Fence.wide.inRound l).round=some l:=rfl
 rw[e,Oper.semAt_some l _ o hd]
 unfold Oper.wp at h
 generalize (execOp a.eval o).run P w=r at *
 cases r with
 | ok nx w'=>
   cases nx<;>simp only[Oper.upon] at h<;>simp only[Oper.uponIn]
   case value=>exact hK _ _ h
   case skip=>exact hK _ _ h
   case defer=>exact hK _ _ h
   case enter f args=>
    refine⟨fun h0=>by simp[Fence.wide,Fence.inRound] at h0,calls_round (Calls.mono h fun e w'' he=>?_)⟩
    cases e with
    | returned=>exact hK _ _ he
    | panicked=>exact he
    | outgrown=>exact he
   case row row args=>exact⟨fun h0=>by simp[Fence.wide,Fence.inRound] at h0,rows_round (Rows.mono h fun _ _ he=>hK _ _ he)⟩
 | halt x w'=>cases x<;>simp only[Oper.upon] at h<;>simp only[Oper.uponIn]<;>exact h
theorem any_round{P:Program}{l n:Nat}{md:Region.Mode}{ops:Array Oper}{Q:Exit->Act->World->Prop}(hd:noDefer ops=true)(hQ:∀a w,¬Q .outgrown a w):
 ∀(fuel:Nat) (listed:Array Bool) (a:Act) (w:World),wpAny P md ops Q fuel listed a w->wpAnyIn (Fence.wide.inRound l) n P md ops Q fuel listed a w
 | 0,_,_,_,h=>h
 | fuel+1,listed,a,w,h=>by
   refine⟨h.1,fun i hi=>?_⟩
   have h1:=h.2 i hi
   unfold wpOp at h1
   unfold wpOpIn
   split
   ·rename_i ho;simp only[ho] at h1;exact any_round hd hQ fuel _ _ _ h1
   ·rename_i o ho
    simp only[ho] at h1
    split
    ·rename_i hw
     simp only[hw,if_true] at h1
     rcases h1 with h1 | ⟨_,a',w',h2⟩
     ·exact oper_round (noDefer_spec hd ho) (fun a w=>any_round hd hQ fuel _ a w) h1
     ·exact absurd h2 (hQ _ _)
    ·rename_i hw
     simp only[hw] at h1
     exact⟨fun _ _=>trivial,any_round hd hQ fuel _ _ _ h1⟩
theorem round_quiet{P:Program}{l n id:Nat}{Q:Exit->Act->World->Prop}{a:Act}{w:World}{ol:List Oper}(hm:P.follows .mixedOrders=true)(hB:Region.lexB .any ol.toArray=true)(hd:noDefer ol.toArray=true)(hQ:∀a w,¬Q .outgrown a w)
 (h:wpQuiet P ol.toArray (fun w'=>∃n,w'=w.drewN n) (fun a'=>∀w',(∃n,w'=w.drewN n)->Q .normal a' w') ol a):(Code.region id ol.toArray true).wpIn (Fence.wide.inRound l) n P Q a w:=by
 refine wpIn_region_any hm (any_round hd hQ _ _ _ _ ?_)
 unfold Region.lexB at hB
 simp only[Bool.and_eq_true] at hB
 refine wpAny_of_quiet (C:=fun w'=>∃n,w'=w.drewN n) (Q:=fun a'=>∀w',(∃n,w'=w.drewN n)->Q .normal a' w') (fun a w' hw' h'=>h' w' hw') _ _ _ _ ⟨1,rfl⟩ ?_
 exact wpAnyQ_lex hB.1 ol 0 _ _ (fun j=>by simp) (by simpa using hB.2) h
end Go.Proofs.YtelnefngkdfcoaaGreat
