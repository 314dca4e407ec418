/-
  Small laws for blocks, boxes and rows of structs, that hold of any program.
-/
import Derived.Test.YtplinkmagnihmaaDoorCkJc
import Derived.Test.YtplinkmagnihmaaDoorRcJd
namespace Go.Proofs.YtplinkmagnihmaaDoor
open Go.ChangeShapes Go.WideShapes Go.ChangeAt Go.RowKit Go.Deep Go.Lib
theorem wpList_alloc_W{P:Program}{ops:Array Oper}{rest:List Oper}{o:Oper}{a:Act}{w:World}{Q:Exit->Act->World->Prop}(hgd:o.guard=none)(ty:TypeId)(ho:o.op= .alloc ty)(d:Option Tmp)(hd:o.dst=d)(cs:Array Value)
 (hz:∀w,(zeroValue ty).run P w= .ok (.agg cs) w) (N:Nat) (hN:N=w.heap.size)
 (h:∀W',Hid (W'.heap[N]?=some (.cells cs ty))->Hid (Below N w W')->Hid (W'.heap.size=N+1)->wpList P ops Q rest (a.put d (.pointer (some ⟨N,0,none⟩))) W'):wpList P ops Q (o::rest) a w:=by
 subst hN
 exact wpList_alloc_row hgd ty ho d hd cs hz (h _ (heap_alc w _) (bel_alc w _) (by show _=_;simp))
theorem wpList_store_W{P:Program}{ops:Array Oper}{rest:List Oper}{o:Oper}{a:Act}{w:World}{Q:Exit->Act->World->Prop}(hgd:o.guard=none)(ty:TypeId)(x y:Operand)(ho:o.op= .store ty x y)(hd:o.dst=none)
 (g:Nat) (cells:Array Value) (hx:a.eval x= .pointer (some ⟨g,0,none⟩)) (hy:a.eval y= .agg cells) (t:TypeId) (old:Array Value) (hg:w.heap[g]?=some (.cells old t (0,0))) (hi:(P.info? ty).map (·.size)=some cells.size)
 (hold:old.size=cells.size) (h1:cells.all (·.oneCell')=true)
 (h:∀W',Hid (W'.heap[g]?=some (.cells cells t))->Hid (w.grownBy W' (some g))->Hid (W'.heap.size=w.heap.size)->wpList P ops Q rest a W'):wpList P ops Q (o::rest) a w:=by
 refine wpList_store_rowTo hgd ty x y ho hd g cells hx hy t old hg hi hold h1 (h _ ?_ ?_ ?_)
 ·exact setRow_heap _ _ old _ t (0,0) hg
 ·exact⟨rfl,rfl,rfl,by rw[setRow_size];exact Nat.le_refl _,fun k _ hk=>other_setRow w g cells k (fun e=>hk (by rw[e]))⟩
 ·exact setRow_size ..
theorem blk_range{w:World}{g:Nat}{cs:List Value}{t:TypeId}(h:w.heap[g]?=some (.cells cs.toArray t)):w.rangeAt g 0 cs:=fun j v hv=>by
 rw[Nat.zero_add,Joins.cell_of_block h j,List.getElem?_toArray]
 exact hv
theorem blk_lt{w:World}{g:Nat}{o:Obj}(h:w.heap[g]?=some o):g<w.heap.size:=(Array.getElem?_eq_some_iff.1 h).1
theorem blk_later{w w':World}{g:Nat}{o:Obj}(h:w.heap[g]?=some o)(hb:Below w.heap.size w w'):w'.heap[g]?=some o:=(hb.block _ (blk_lt h)).trans h
theorem bel_grown{w w':World}{B g:Nat}(h:w.grownBy w' (some g))(hB:B<=g)(hw:B<=w.heap.size):Below B w w':=
 ⟨h.os,h.tape,h.output,h.size,fun i hi=>h.block i (Nat.lt_of_lt_of_le hi hw) (fun e=>by injection e with e;omega)⟩
theorem grown_bel{w w':World}{r:Option Nat}(h:Below w.heap.size w w'):w.grownBy w' r:=⟨h.os,h.tape,h.output,h.size,fun i hi _=>h.block i hi⟩
theorem wpList_load_P{P:Program}{ops:Array Oper}{rest:List Oper}{o:Oper}{a:Act}{w:World}{Q:Exit->Act->World->Prop}(hg:o.guard=none)(ty:TypeId)(x:Operand)(ho:o.op= .load ty x)
 (b off:Nat) (hx:a.eval x= .pointer (some ⟨b,off,none⟩)) (cs:List Value) (d:TypeDesc) (hc:w.rangeAt b off cs) (hu:P.underlying ty=some d) (hd:d.isRow=true) (hi:(P.info? ty).map (·.size)=some cs.length)
 (h:wpList P ops Q rest (a.put o.dst (.agg cs.toArray)) w):wpList P ops Q (o::rest) a w:=
 wpList_load_g (by unfold Region.wanted;rw[hg]) ty x ho b off hx cs d hc hu hd hi h
theorem bel_drewS{B:Nat}{W X:World}(h:Below B W X):Below B W X.drew:=⟨h.os,h.tape,h.output,h.size,h.block⟩
theorem wp_buildOne_W{P:Program}{o:Oper}{a:Act}{w:World}{K:Act->World->Prop}{Q:Exit->Act->World->Prop}(t e:TypeId)(x:Operand)(ho:o.op= .buildSlice t 1 #[(0,x)])
 (cells:Array Value) (ie:TypeInfo) (z:Value) (hu:P.underlying t=some (.slice e)) (hie:P.info? e=some ie) (hz:ie.zero=some z) (hs:ie.size=cells.size) (hp:0<cells.size) (hq:cells.size<=1000) (hx:a.eval x= .agg cells) (N:Nat) (hN:N=w.heap.size)
 (h:∀W',Hid (W'.heap[N]?=some (.cells cells e))->Hid (Below N w W')->K (a.put o.dst (.slice (some ⟨N,0,none⟩) 1 1)) W'):o.wp P a w K Q:=by
 subst hN
 refine wp_buildSlice t e 1 _ ho cells ie z hu hie hz (by rw[hs];omega) (by rw[hs];omega) ?_ (h _ (hid (heap_alc w _)) (hid (bel_alc w _)))
 have:=Great.fill_whole (s:=cells.size) hp [.agg cells] ((Array.range (1*cells.size)).map (z.cells[· % z.cells.size]!)) (fun v hv=>by simp at hv;subst hv;rfl) (by simp)
 rw[hs]
 simpa [hx,Value.cells] using this
theorem run_eql_op{P:Program}{oi:Oper}{ρ:Operand->Value}{t t2:TypeId}{x y:Operand}(ho:oi.op= .binOp .eql t x y t2){xs ys:Array Value}{b:Bool}(hx:ρ x= .agg xs)(hy:ρ y= .agg ys)(hg:P.eqGuardType P.depth t=false){w:World}
 (h:(Op.equalIn 10000 t (.agg xs) (.agg ys)).run P w= .ok b w):(execOp ρ oi).run P w= .ok (.value (.bool b)) w:=by
 unfold execOp
 simp only[ho,hx,hy,Sem.run_bind,run_eqGuard_agg w .eql t x y xs ys hg,run_eql_struct w t xs ys,h,Result.andThen_ok]
 rfl
structure Rw {α:Type} (sz:Nat) (C:α->List Value) (z:α) (w:World) (a:Option Addr) (cap:Nat) (l:List α):Prop where
 room:l.length<=cap
 most:cap<=maxLen
 none0:a=none->cap=0
 cells:0<l.length->∃b off,a=some ⟨b,off,none⟩∧b<w.heap.size∧∀j,j<l.length->w.rangeAt b (off+j*sz) (C (l.getD j z))
section
variable {α : Type} {sz : Nat} {C : α → List Value} {z : α}
theorem Rw.later{w w':World}{a:Option Addr}{cap:Nat}{l:List α}(h:Rw sz C z w a cap l)(hb:Below w.heap.size w w'):Rw sz C z w' a cap l:=by
 refine⟨h.room,h.most,h.none0,fun h0=>?_⟩
 obtain⟨b,off,ha,hbw,hc⟩:=h.cells h0
 exact⟨b,off,ha,Nat.lt_of_lt_of_le hbw hb.size,fun j hj=>range_later (hc j hj) hb hbw⟩
theorem Rw.grown{w w':World}{a:Option Addr}{cap g:Nat}{l:List α}(h:Rw sz C z w a cap l)(hg:w.grownBy w' (some g))(hne:∀b off,a=some ⟨b,off,none⟩->b≠g):Rw sz C z w' a cap l:=by
 refine⟨h.room,h.most,h.none0,fun h0=>?_⟩
 obtain⟨b,off,ha,hbw,hc⟩:=h.cells h0
 have hb:=hg.block b hbw (fun e=>hne b off ha (by injection e))
 refine⟨b,off,ha,Nat.lt_of_lt_of_le hbw hg.size,fun j hj i v hv=>?_⟩
 rw[World.cell?_of_block (w':=w') (w:=w) hb]
 exact hc j hj i v hv
theorem Rw.nil(w:World):Rw sz C z w none 0 []:=⟨Nat.le_refl _,by unfold maxLen;exact Nat.zero_le _,fun _=>rfl,fun h=>absurd h (by simp)⟩
theorem flatW_len(l:List α)(h:∀x∈l,(C x).length=sz):(l.flatMap C).length=l.length*sz:=by
 induction l with
 | nil=>simp
 | cons x l ih=>
   rw[List.flatMap_cons,List.length_append,h x (by simp),ih (fun y hy=>h y (by simp[hy])),List.length_cons,Nat.add_mul]
   omega
theorem flatW_at(l:List α)(h:∀x∈l,(C x).length=sz):∀j,j<l.length->∀i u,(C (l.getD j z))[i]?=some u->(l.flatMap C)[j*sz+i]?=some u:=by
 induction l with
 | nil=>intro j hj;simp at hj
 | cons x l ih=>
   intro j hj i u hu
   have hx:=h x (by simp)
   rw[List.flatMap_cons]
   cases j with
   | zero=>
     have hu':(C x)[i]?=some u:=hu
     have hi:i<(C x).length:=(List.getElem?_eq_some_iff.1 hu').1
     rw[show 0*sz+i=i from by omega,List.getElem?_append_left hi]
     exact hu'
   | succ j=>
     have e:(j+1)*sz+i=sz+(j*sz+i):=by rw[Nat.add_mul];omega
     rw[e,List.getElem?_append_right (by rw[hx];omega),hx,show sz+(j*sz+i)-sz=j*sz+i from by omega]
     exact ih (fun y hy=>h y (by simp[hy])) j (by simp at hj;omega) i u (by simpa using hu)
theorem Rw.own{w:World}{base e:Nat}{v:Value}{l:List α}(h:w.ownsRow base e sz v l.length (l.flatMap C))(hf:∀x∈l,(C x).length=sz):∃a cap,v= .slice a l.length cap∧Rw sz C z w a cap l∧∀b off,a=some ⟨b,off,none⟩->base<=b:=by
 rcases h.2 with ⟨rfl,hn⟩ | ⟨g,cap,cur,rfl,hbg,hg,hc,hm,hs,ht⟩
 ·rw[hn]
  exact⟨none,0,rfl,⟨by omega,by unfold maxLen;omega,fun _=>rfl,fun h0=>by omega⟩,fun _ _ h=>by cases h⟩
 ·refine⟨some ⟨g,0,none⟩,cap,rfl,⟨hc,hm,(fun h=>by cases h),fun _=>⟨g,0,rfl,(Array.getElem?_eq_some_iff.1 hg).1,fun j hj i u hu=>?_⟩⟩,fun b off e=>?_⟩
  ·have:=flatW_at (C:=C) (z:=z) l hf j hj i u hu
   rw[<-ht] at this
   rw[Nat.zero_add]
   refine(Joins.cell_of_block hg _).trans ?_
   have hlt:j*sz+i<(cur.toList.take (l.length*sz)).length:=(List.getElem?_eq_some_iff.1 this).1
   rw[List.getElem?_take_of_lt (by simp at hlt;omega)] at this
   simpa using this
  ·injection e with e
   injection e with e
   omega
end
end Go.Proofs.YtplinkmagnihmaaDoor
