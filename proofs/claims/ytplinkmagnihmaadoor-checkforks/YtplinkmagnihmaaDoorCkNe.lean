/-
  Two marks as a row, one of three rows of records: for the law CheckForks.
-/
import Derived.Test.YtplinkmagnihmaaDoorCkJk
namespace Go.Proofs.YtplinkmagnihmaaDoor
open Go.ChangeShapes Go.WideShapes Go.ChangeAt Go.RowKit Go.Deep Go.Lib
theorem wpList_buildTwoM{ops:Array Oper}{rest:List Oper}{o:Oper}{a:Act}{w:World}{Q:Exit->Act->World->Prop}(hw:Region.wanted o (yielded ops a.tmps)=true)(x y:Operand)(ho:o.op= .buildSlice 28 2 #[(0,x),(1,y)])(d:Option Tmp)(hd:o.dst=d)(M N:Mrk)(hM:MOk M)(hN:MOk N)
 (hx:a.eval x= .agg (mkV M).toArray) (hy:a.eval y= .agg (mkV N).toArray) (q:Nat) (hq:q=w.heap.size)
 (h:∀W',Hid (W'.heap[q]?=some (.cells (mkV M++mkV N).toArray 45))->Hid (Below q w W')->wpList Tryd.prog ops Q rest (a.put d (.slice (some ⟨q,0,none⟩) 2 2)) W'):wpList Tryd.prog ops Q (o::rest) a w:=by
 subst hd
 subst hq
 obtain⟨i45,hi45,hz45,hs45,_⟩:=info_parts Tryd.info45
 exact wpList_step fun K hK=>by
  rw[if_pos hw]
  refine wp_buildSlice 28 45 2 _ ho (mkV M++mkV N).toArray i45 _ Tryd.underlying28 hi45 hz45 (by rw[hs45];decide) (by rw[hs45];decide) ?_ (hK _ _ (h _ (hid (heap_alc w _)) (hid (bel_alc w _))))
  have:=Great.fill_whole (s:=67) (by decide) [.agg (mkV M).toArray,.agg (mkV N).toArray] ((Array.range (2*67)).map ((Value.agg (mkV mkZ).toArray).cells[· % (Value.agg (mkV mkZ).toArray).cells.size]!)) (fun v hv=>by
   simp only[List.mem_cons,List.not_mem_nil,or_false] at hv
   rcases hv with rfl | rfl
   ·exact mkV_len hM
   ·exact mkV_len hN) (by simp)
  rw[hs45]
  simpa [hx,hy,Value.cells] using this
theorem Rw.two{V:World}{q:Nat}{M N:Mrk}(hM:MOk M)(_hN:MOk N)(h:V.heap[q]?=some (.cells (mkV M++mkV N).toArray 45)):Rw 67 mkV mkZ V (some ⟨q,0,none⟩) 2 [M,N]:=by
 have hr:=blk_range h
 have hl:=mkV_len hM
 refine⟨Nat.le_refl _,by unfold maxLen;omega,(fun e=>by cases e),fun _=>⟨q,0,rfl,blk_lt h,fun j hj=>?_⟩⟩
 have hj2:j<2:=hj
 rcases (show j=0∨j=1 by omega) with rfl | rfl
 ·intro i u hu
  have hu':(mkV M)[i]?=some u:=hu
  exact hr i u (by rw[List.getElem?_append_left (List.getElem?_eq_some_iff.1 hu').1];exact hu')
 ·intro i u hu
  have hu':(mkV N)[i]?=some u:=hu
  have:=hr (67+i) u (by rw[List.getElem?_append_right (by omega),hl,show 67+i-67=i by omega];exact hu')
  rw[show 0+(67+i)=0+1*67+i by omega] at this
  exact this
end Go.Proofs.YtplinkmagnihmaaDoor
