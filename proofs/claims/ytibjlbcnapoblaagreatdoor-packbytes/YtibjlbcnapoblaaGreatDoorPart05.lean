/- Contracts and facts. -/
import Derived.Test.YtibjlbcnapoblaaGreatDoorPart04
import Derived.RangeFuncNested
import Derived.TacticsIn
import Derived.OrdersIn
import Derived.Deep.Quiet
namespace Go.Proofs.YtibjlbcnapoblaaGreatDoor
set_option maxRecDepth 100000
set_option maxHeartbeats 6400000
section
open Go.RowKit
def hdL(n k:Int)(d:List Int):List Value:= .int .i64 n:: .int .i64 k::d.map (Value.int .u8)
theorem Qv3(n k:Int)(d:List Int)(h:d.length=32):(hdL n k d).toArray.size=34:=by simp[hdL,h]
theorem Xih(n k:Int)(d:List Int):(hdL n k d).toArray.all (·.oneCell')=true:=by
 rw[List.all_toArray,List.all_eq_true]
 intro v hv
 simp only[hdL,List.mem_cons,List.mem_map] at hv
 rcases hv with rfl | rfl | ⟨z,_,rfl⟩<;>rfl
def Qdu(k:Nat):Nat:=(44+k+511)/512
theorem Qbr(w:World)(o:Obj):Below w.heap.size w (w.alloc o):=(Below.refl _ _).alloc (Nat.le_refl _) o
theorem Qbf(w:World)(o:Obj):(w.alloc o).heap[w.heap.size]?=some o:=by
 show(w.heap.push o)[w.heap.size]?=_
 simp
theorem Tryz.size53:(Tryz.prog.info? 53).map (·.size)=some 34:=by kernel_rfl
theorem Qk3{P:Program}{w:World}{o:Oper}{ρ:Operand->Value}(ty:TypeId)(x:Operand)(ho:o.op= .load ty x)(b off:Nat)(hx:ρ x= .pointer (some ⟨b,off,none⟩)){v:Value}(hl:(loadVar ty ⟨b,off,none⟩).run P w= .ok v w):
 (execOp ρ o).run P w= .ok (.value v) w:=by
 unfold execOp
 simp only[ho,hx,Instr.loadAt,Instr.sureAddr,Sem.run_bind,Sem.run_pure,Result.andThen_ok,hl]
theorem Qd3(n:Nat)(w:World)(hn:n<=10000000):Calls Tryz.prog 42 #[.int .i64 (n:Int)] w fun e w'=>e= .returned (.bool (decide (1<=n∧n<=4096)))∧w'=w:=by
 by_cases h1:1<=n
 ·have e1:(1:Int)<=(n:Int):=by omega
  by_cases h2:n<=4096
  ·have e2:(n:Int)<=4096:=by omega
   rw[decide_eq_true (show 1<=n∧n<=4096 from⟨h1,h2⟩)]
   go_enter Tryz.func42,Tryz.ntmps42
   go_wp2
   go_ret
   exact⟨rfl,rfl⟩
  ·have e2:¬(n:Int)<=4096:=by omega
   rw[decide_eq_false (show ¬(1<=n∧n<=4096) from fun h=>h2 h.2)]
   go_enter Tryz.func42,Tryz.ntmps42
   go_wp2
   go_ret
   exact⟨rfl,rfl⟩
 ·have e1:¬(1:Int)<=(n:Int):=by omega
  rw[decide_eq_false (show ¬(1<=n∧n<=4096) from fun h=>h1 h.1)]
  go_enter Tryz.func42,Tryz.ntmps42
  go_wp2
  go_ret
  exact⟨rfl,rfl⟩
theorem Qf1(n:Int)(k:Nat)(d:List Int)(w:World)(hk:k<=100000):Calls Tryz.prog 25 #[.agg (hdL n k d).toArray] w fun e w'=>e= .returned (.int .i64 (Qdu k:Int))∧Below w.heap.size w w':=by
 have hb:=Qbr w (.cells (hdL n k d).toArray 53)
 have e1:=Joins.cell_of_block (Qbf w (.cells (hdL n k d).toArray 53)) 1
 rw[show(hdL n k d).toArray[1]?=some (.int .i64 (k:Int)) from rfl] at e1
 have hq:((44:Int)+k+512-1)/512=(Qdu k:Int):=by unfold Qdu;omega
 have HQ:=hid hq
 generalize (hdL n k d).toArray=H at *
 clear hq
 go_enter Tryz.func25,Tryz.ntmps25
 go_wp2
 go_ret
 exact⟨congrArg (fun z=>Ending.returned (Value.int .i64 z)) HQ.out,hb⟩
theorem Qlw(n:Int)(k:Nat)(d:List Int)(w:World)(hk:k<=100000)(hd:d.length=32):Calls Tryz.prog 28 #[.agg (hdL n k d).toArray] w fun e w'=>e= .returned (.int .i64 ((512*Qdu k-44-k:Nat):Int))∧Below w.heap.size w w':=by
 have hb:=Qbr w (.cells (hdL n k d).toArray 53)
 have e0:=Qbf w (.cells (hdL n k d).toArray 53)
 have hsz:=Qv3 n k d hd
 have e1:∀V,Below (w.alloc (.cells (hdL n k d).toArray 53)).heap.size (w.alloc (.cells (hdL n k d).toArray 53)) V->V.cell? ⟨w.heap.size,1,none⟩=some (.int .i64 (k:Int)):=fun V hV=>by
  rw[hV.cell (p:=⟨w.heap.size,1,none⟩) (by simp)]
  exact Joins.cell_of_block e0 1
 have HBW:Hid (∀V,Calls Tryz.prog 25 #[.agg (hdL n k d).toArray] V fun e w'=>e= .returned (.int .i64 (Qdu k:Int))∧Below V.heap.size V w'):=fun V=>Qf1 n k d V hk
 have HL:Hid (∀V,Below (w.alloc (.cells (hdL n k d).toArray 53)).heap.size (w.alloc (.cells (hdL n k d).toArray 53)) V->(loadVar 53 ⟨w.heap.size,0,none⟩).run Tryz.prog V= .ok (.agg (hdL n k d).toArray) V):=fun V hV=>by
  exact run_loadVar_row (P:=Tryz.prog) V w.heap.size 53 53 (hdL n k d).toArray (0,0) _ ((hV.block _ (by simp)).trans e0) Tryz.underlying53 rfl (by rw[hsz];exact Tryz.size53)
 have hq:(512:Nat)*Qdu k ≥ 44+k∧Qdu k<=100000:=by unfold Qdu;omega
 have HB:=hid hb
 have HE1:=hid e1
 clear e0 e1 hb
 generalize (hdL n k d).toArray=H at *
 obtain⟨q,hq2⟩:∃q,q=Qdu k:=⟨_,rfl⟩
 rw[<-hq2] at hq HBW
 have HQ:=hid hq2
 have hq0:=hq.1
 have hq1:=hq.2
 have HF:Hid (((512*Qdu k-44-k:Nat):Int)=(q:Int)*512-44-(k:Int)):=by show _=_;rw[<-hq2];omega
 clear hq2 hq hsz
 go_enter Tryz.func28,Tryz.ntmps28
 go_wp2_with fail
 generalize w.alloc (.cells H 53)=w1 at *
 have hgw:w.heap.size<=w1.heap.size:=HB.out.size
 generalize hgg:w.heap.size=g at *
 refine wp_region_held_drew (S:=fun V=>Below w1.heap.size w1 V) (by kernel_rfl) (Below.refl _ _).drew (fun hS0=>?_)
 generalize w1.drew=v0 at *
 simp only[List.size_toArray,List.length_cons,List.length_nil,Nat.reduceAdd]
 refine Ord.tk (i:=0) (d:=3) (v:= .agg H) rfl rfl ?hA0 (by assumption) ?_
 case hA0=>intro w hSw;exact Qk3 53 (.tmp 1) rfl g 0 rfl (HL.out w hSw)
 simp only[Ord.s1,Ord.s2,Ord.s3]
 refine Ord.tk (i:=4) (d:=7) (v:=?vA4) rfl rfl ?hA4 (by assumption) ?_
 case hA4=>intro w hSw;go_simp;try with_reducible rfl
 simp only[Ord.s1,Ord.s2,Ord.s3]
 refine Ord.tk (i:=5) (d:=8) (v:= .int .i64 (k:Int)) rfl rfl ?hA5 (by assumption) ?_
 case hA5=>intro w hSw;have q:=HE1.out w hSw;go_simp;try with_reducible rfl
 simp only[Ord.s1,Ord.s2,Ord.s3]
 refine wpAnyH_ready (rs:= [1]) (by as_aux_lemma=>kernel_rfl) (by simp) (AllReadyH.cons rfl (fun K hK=>?_) AllReadyH.nil)
 go_simp
 refine(HBW.out v0).mono ?_
 rintro _ v1 ⟨rfl,hb1⟩
 have hS1:=Bn hS0 hb1
 refine hK.out _ _ hS1 (fun _=>?_)
 clear hK K
 try simp only[Ord.s1,Ord.s2,Ord.s3]
 refine Ord.tk (i:=2) (d:=5) (v:=?vA2) rfl rfl ?hA2 (by assumption) ?_
 case hA2=>intro w hSw;go_simp;try with_reducible rfl
 simp only[Ord.s1,Ord.s2,Ord.s3]
 refine Ord.tk (i:=3) (d:=6) (v:=?vA3) rfl rfl ?hA3 (by assumption) ?_
 case hA3=>intro w hSw;go_simp;try with_reducible rfl
 simp only[Ord.s1,Ord.s2,Ord.s3]
 refine Ord.tk (i:=6) (d:=9) (v:=?vA6) rfl rfl ?hA6 (by assumption) ?_
 case hA6=>intro w hSw;go_simp;try with_reducible rfl
 simp only[Ord.s1,Ord.s2,Ord.s3]
 refine Ord.tk (i:=7) (d:=2) (v:=?vA7) rfl rfl ?hA7 (by assumption) ?_
 case hA7=>intro w hSw;go_simp;try with_reducible rfl
 simp only[Ord.s1,Ord.s2,Ord.s3]
 refine wpAnyH_done (by as_aux_lemma=>kernel_rfl) ?_ _
 go_wp2
 go_ret
 refine⟨congrArg (fun z=>Ending.returned (Value.int .i64 z)) ?_,by rw[hgg];exact HB.out.trans (hS1.mono hgw)⟩
 rw[IntWalk.i64_in ((q:Int)*512) (by omega),IntWalk.i64_in ((q:Int)*512-44) (by omega),IntWalk.i64_in _ (by omega)]
 exact HF.out.symm
end
section
open Go.RowKit Lz
theorem Qws(w:World)(n:Nat):Below w.heap.size w (w.drewN n):=Qap (Below.refl _ _) n
theorem drewN_drewN(w:World)(m n:Nat):(w.drewN m).drewN n=w.drewN (m+n):=by simp
theorem Qkt(bs:List Int)(p q k ga oa la ca gb ob cb:Nat)(w:World)(hk:k<=la)(hkb:k<=cb)(hcb:cb<=maxLen)
 (ha:∀j,j<k->w.cell? ⟨ga,oa+j,none⟩=some (.int .u8 (bs.getD (p+j) 0))) (hb:∀j,j<k->w.cell? ⟨gb,ob+j,none⟩=some (.int .u8 (bs.getD (q+j) 0))) :
 Calls Tryz.prog 125 #[.slice (some ⟨ga,oa,none⟩) la ca,.slice (some ⟨gb,ob,none⟩) k cb] w fun e w'=>e= .returned (.int .i64 ((com bs p q k:Nat):Int))∧∃m,w'=w.drewN m:=by
 unfold maxLen at hcb
 have HA:=hid ha
 have HB:=hid hb
 clear ha hb
 go_enter Tryz.func125,Tryz.ntmps125
 go_wp2
 go_loopw [5] (fun y wr=>∃n m:Nat,n<=k∧y= .int .i64 n∧Hid (wr=w.drewN m)∧Hid (∀j,j<n->bs.getD (p+j) 0=bs.getD (q+j) 0)) (fun y _=>k-(intOf y).toNat)
 case atStart=>exact⟨0,0,by omega,rfl,rfl,fun j hj=>absurd hj (by omega)⟩
 case round=>
  obtain⟨n,m,hn,rfl,HW,HS⟩:=hrel
  by_cases hlt:n<k
  ·have c1:wr.cell? ⟨ga,oa+n,none⟩=some (.int .u8 (bs.getD (p+n) 0)):=by rw[HW.out];exact HA.out n hlt
   have c2:wr.cell? ⟨gb,ob+n,none⟩=some (.int .u8 (bs.getD (q+n) 0)):=by rw[HW.out];exact HB.out n hlt
   have hnz:(n:Int)<(k:Int):=by omega
   have hd:decide ((n:Int)<(k:Int))=true:=by simpa using hlt
   by_cases he:bs.getD (p+n) 0=bs.getD (q+n) 0
   ·rw[<-he] at c2
    have HS2:Hid (∀j,j<n+1->bs.getD (p+j) 0=bs.getD (q+j) 0):=fun j hj=>by
     by_cases e:j=n
     ·subst e;exact he
     ·exact HS.out j (by omega)
    clear he
    generalize bs.getD (p+n) 0=z at *
    have hz:(z==z)=true:=by simp
    go_wp2_with fail
    go_big_quiet (fail)
    go_wp2
    exact⟨⟨n+1,_,by omega,by go_num,hid (by rw[HW.out,drewN_drewN]),HS2⟩,by simp[intOf];omega⟩
   ·have HC:=hid (Qq7 bs k p q n hn HS.out (.inr he))
    have hz:(bs.getD (p+n) 0==bs.getD (q+n) 0)=false:=by simpa using he
    generalize bs.getD (p+n) 0=z at *
    generalize bs.getD (q+n) 0=y at *
    clear he
    go_wp2_with fail
    go_big_quiet (fail)
    go_wp2
    go_ret
    exact⟨by rw[HC.out];rfl,_,by rw[HW.out,drewN_drewN]⟩
  ·have HC:=hid (Qq7 bs k p q n hn HS.out (.inl (by omega)))
   have hnz:¬(n:Int)<(k:Int):=by omega
   have hd:decide ((n:Int)<(k:Int))=false:=by simpa using hlt
   go_wp2_with fail
   go_big_quiet (fail)
   go_wp2
   go_ret
   exact⟨by rw[HC.out];rfl,_,by rw[HW.out,drewN_drewN]⟩
theorem Qaa(w:World)(o:Obj):Below w.heap.size w (w.alloc o):=(Below.refl _ _).alloc (Nat.le_refl _) o
theorem Qaj(w:World)(o:Obj):(w.alloc o).heap[w.heap.size]?=some o:=by
 show(w.heap.push o)[w.heap.size]?=_
 simp
theorem Qai(w:World)(o:Obj){i:Nat}{x:Obj}(h:w.heap[i]?=some x):(w.alloc o).heap[i]?=some x:=(Below.heap_alloc w o i (Array.getElem?_eq_some_iff.1 h).1).trans h
def Qnk(t:Tok):Array Value:= #[.int .i64 (t.1:Int),.int .i64 (t.2.1:Int),.int .u8 t.2.2]
def Tb(W:World)(B:Nat)(t:Tok):Prop:=W.heap[B]?=some (.cells (Qnk t) 109 (0,0))
theorem Tb.c0{W:World}{B:Nat}{t:Tok}(h:Tb W B t):W.cell? ⟨B,0,none⟩=some (.int .i64 (t.1:Int)):=Joins.cell_of_block h 0
theorem Tb.c1{W:World}{B:Nat}{t:Tok}(h:Tb W B t):W.cell? ⟨B,1,none⟩=some (.int .i64 (t.2.1:Int)):=Joins.cell_of_block h 1
theorem Tb.c2{W:World}{B:Nat}{t:Tok}(h:Tb W B t):W.cell? ⟨B,2,none⟩=some (.int .u8 t.2.2):=Joins.cell_of_block h 2
theorem Tb.f{W:World}{B:Nat}{t:Tok}(h:Tb W B t)(i:Nat):W.frozen? ⟨B,i,none⟩=false:=Joins.unfrozen_of_block h i
theorem Qa4{w:World}{g k i:Nat}{cs:Array Value}{t:TypeId}{fr:Nat×Nat}(h:w.heap[g]?=some (.cells cs t fr))(hk:k≠g)(v:Value):(w.setCell ⟨g,i,none⟩ v).heap[k]?=w.heap[k]?:=by
 rw[setCell_eq_setRow w g i cs t fr v h]
 exact setRow_other w g k _ hk
def Qna(W:World)(B:Nat)(t:Tok):World:=((W.setCell ⟨B,0,none⟩ (.int .i64 (t.1:Int))).setCell ⟨B,1,none⟩ (.int .i64 (t.2.1:Int))).setCell ⟨B,2,none⟩ (.int .u8 t.2.2)
theorem Tb.set{W:World}{B:Nat}{t:Tok}(h:Tb W B t)(t':Tok):Tb (Qna W B t') B t':=by
 unfold Tb Qna
 rw[Joins.block_setCell (Joins.block_setCell (Joins.block_setCell h _) _) _]
 rfl
theorem Tb.other{W:World}{B B':Nat}{t t':Tok}(h:Tb W B t)(hne:B'≠B){o:Option Obj}(h2:W.heap[B']?=o):(Qna W B t').heap[B']?=o:=by
 have h1:=Joins.block_setCell (i:=0) h (.int .i64 (t'.1:Int))
 have h3:=Joins.block_setCell (i:=1) h1 (.int .i64 (t'.2.1:Int))
 unfold Qna
 rw[Qa4 h3 hne,Qa4 h1 hne,Qa4 h hne,h2]
theorem Tb.bel{W w:World}{B n:Nat}{t:Tok}(_h:Tb W B t)(hb:Below n w W)(hn:n<=B)(t':Tok):Below n w (Qna W B t'):=by
 unfold Qna
 exact((hb.setCell (p:=⟨B,0,none⟩) hn _).setCell (p:=⟨B,1,none⟩) hn _).setCell (p:=⟨B,2,none⟩) hn _
theorem Qxx{q d:Nat}(h1:d<q)(h2:d<4096):(Qbv q).take (d+1)=(Qbv q).take d++ [q-(d+1)]:=by
 have hl:d<(Qbv q).length:=by simp[Qbv];omega
 rw[List.take_succ_eq_append_getElem hl]
 congr 2
 simp[Qbv];omega
end
section
def Qo9(ops:Array Oper):Bool:=ops.all fun o=>match o.op with | .defer _=>false | _=>true
theorem Qqv{ops:Array Oper}(h:Qo9 ops=true){i:Nat}{o:Oper}(hi:ops[i]?=some o)(c:_):o.op≠ .defer c:=by
 unfold Qo9 at h
 rw[Array.all_eq_true] at h
 obtain⟨hlt,rfl⟩:=Array.getElem?_eq_some_iff.1 hi
 have:=h i hlt
 intro e
 rw[e] at this
 simp at this
theorem Qt9{P:Program}{l n:Nat}{f:FuncId}{args:Array Value}{w:World}{R:Ending->World->Prop}(h:Calls P f args w R):CallsIn (Fence.wide.inRound l) n P f args w R:=
 CallsIn.inRound l (callsIn_wide.2 h)
theorem Qxw{P:Program}{l n:Nat}{row:String}{args:Array Value}{w:World}{R:Value->World->Prop}(h:Rows P row args w R):RowsIn (Fence.wide.inRound l) n P row args w R:=by
 intro c cs _
 obtain⟨v,w',r,s⟩:=h c cs
 exact⟨v,w',r,(stepsIn_wide (P:=P)).2 s⟩
theorem Qwr{P:Program}{l n:Nat}{o:Oper}{a:Act}{w:World}{K K':Act->World->Prop}{Q:Exit->Act->World->Prop}(hd:∀c,o.op≠ .defer c)(hK:∀a w,K a w->K' a w)
 (h:o.wp P a w K Q):o.wpIn (Fence.wide.inRound l) n P a w K' Q:=by
 refine⟨fun _ _=>trivial,?_⟩
 have e:(Fence.wide.inRound l).round=some l:=rfl
 rw[e,Oper.semAt_some l _ o hd]
 unfold Oper.wp at h
 generalize (execOp a.eval o).run P w=r at *
 cases r with
 | ok nx w'=>
   cases nx<;>simp only[Oper.upon] at h<;>simp only[Oper.uponIn]
   case value=>exact hK _ _ h
   case skip=>exact hK _ _ h
   case defer=>exact hK _ _ h
   case enter f args=>
    refine⟨fun h0=>by simp[Fence.wide,Fence.inRound] at h0,Qt9 (Calls.mono h fun e w'' he=>?_)⟩
    cases e with
    | returned=>exact hK _ _ he
    | panicked=>exact he
    | outgrown=>exact he
   case row row args=>exact⟨fun h0=>by simp[Fence.wide,Fence.inRound] at h0,Qxw (Rows.mono h fun _ _ he=>hK _ _ he)⟩
 | halt x w'=>cases x<;>simp only[Oper.upon] at h<;>simp only[Oper.uponIn]<;>exact h
theorem Qi1{P:Program}{l n:Nat}{md:Region.Mode}{ops:Array Oper}{Q:Exit->Act->World->Prop}(hd:Qo9 ops=true)(hQ:∀a w,¬Q .outgrown a w):
 ∀(fuel:Nat) (listed:Array Bool) (a:Act) (w:World),wpAny P md ops Q fuel listed a w->wpAnyIn (Fence.wide.inRound l) n P md ops Q fuel listed a w
 | 0,_,_,_,h=>h
 | fuel+1,listed,a,w,h=>by
   refine⟨h.1,fun i hi=>?_⟩
   have h1:=h.2 i hi
   unfold wpOp at h1
   unfold wpOpIn
   split
   ·rename_i ho;simp only[ho] at h1;exact Qi1 hd hQ fuel _ _ _ h1
   ·rename_i o ho
    simp only[ho] at h1
    split
    ·rename_i hw
     simp only[hw,if_true] at h1
     rcases h1 with h1 | ⟨_,a',w',h2⟩
     ·exact Qwr (Qqv hd ho) (fun a w=>Qi1 hd hQ fuel _ a w) h1
     ·exact absurd h2 (hQ _ _)
    ·rename_i hw
     simp only[hw] at h1
     exact⟨fun _ _=>trivial,Qi1 hd hQ fuel _ _ _ h1⟩
theorem Qdr{P:Program}{l n id:Nat}{Q:Exit->Act->World->Prop}{a:Act}{w:World}{ol:List Oper}(hm:P.follows .mixedOrders=true)(hB:Region.lexB .any ol.toArray=true)(hd:Qo9 ol.toArray=true)(hQ:∀a w,¬Q .outgrown a w)
 (h:wpQuiet P ol.toArray (fun w'=>∃n,w'=w.drewN n) (fun a'=>∀w',(∃n,w'=w.drewN n)->Q .normal a' w') ol a):(Code.region id ol.toArray true).wpIn (Fence.wide.inRound l) n P Q a w:=by
 refine wpIn_region_any hm (Qi1 hd hQ _ _ _ _ ?_)
 unfold Region.lexB at hB
 simp only[Bool.and_eq_true] at hB
 refine wpAny_of_quiet (C:=fun w'=>∃n,w'=w.drewN n) (Q:=fun a'=>∀w',(∃n,w'=w.drewN n)->Q .normal a' w') (fun a w' hw' h'=>h' w' hw') _ _ _ _ ⟨1,rfl⟩ ?_
 exact wpAnyQ_lex hB.1 ol 0 _ _ (fun j=>by simp) (by simpa using hB.2) h
end
end Go.Proofs.YtibjlbcnapoblaaGreatDoor
