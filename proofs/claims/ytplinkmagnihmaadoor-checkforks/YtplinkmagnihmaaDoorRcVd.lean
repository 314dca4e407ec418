/-
  The document's Same, a part.
-/
import Derived.Test.YtplinkmagnihmaaDoorRcJc
namespace Go.Proofs.YtplinkmagnihmaaDoor
open Go.ChangeShapes Go.WideShapes Go.ChangeAt Go.RowKit Go.Deep
set_option maxHeartbeats 6400000 in
set_option maxRecDepth 100000 in
theorem dsame_8(r q:Rec)(w:World)(hr:Rv w r)(hq:Rv w q)(t1:r.seq=q.seq)(t2:r.epoch=q.epoch)(t3:r.prev=q.prev)(t4:r.kind=q.kind)(t5:r.site=q.site)(t6:r.path=q.path)(t7:r.ps.length=q.ps.length):
 Calls Tryd.prog 23 #[.agg r.cs.toArray,.agg q.cs.toArray] w fun e w'=>e= .returned (.bool (sameB r q))∧Below w.heap.size w w':=by
 have b1:=bel_alc w (.cells r.cs.toArray 58)
 have b2:=bel_alc (w.alloc (.cells r.cs.toArray 58)) (.cells q.cs.toArray 58)
 have s1:(w.alloc (.cells r.cs.toArray 58)).heap.size=w.heap.size+1:=by simp
 have BR:=(Bx.mk' w r hr.len).later b2
 have BQ:=Bx.mk' (w.alloc (.cells r.cs.toArray 58)) q hq.len
 rw[s1] at BQ
 have HB:=hid (Bn b1 b2)
 have HBR:=hid BR
 have HBQ:=hid BQ
 have c0:=BR.c0
 have c1:=BR.c1
 have c34:=BR.c34
 have c35:=BR.c35
 have c36:=BR.c36
 have c37:=BR.c37
 have d0:=BQ.c0
 have d1:=BQ.c1
 have d34:=BQ.c34
 have d35:=BQ.c35
 have d36:=BQ.c36
 have d37:=BQ.c37
 have HRP:=hid BR.prev
 have HQP:=hid BQ.prev
 have hro:=hr.row.room
 have hmo:=hr.row.most
 have qro:=hq.row.room
 have qmo:=hq.row.most
 unfold maxLen at hmo qmo
 have heq:∀V,(Op.equalIn 10000 25 (.agg (r.prev.map (Value.int .u8)).toArray) (.agg (q.prev.map (Value.int .u8)).toArray)).run Tryd.prog V= .ok (decide (r.prev=q.prev)) V:=fun V=>eq37 r.prev q.prev hr.len hq.len V
 have hgd:=guard37
 have HRL:Hid ((r.prev.map (Value.int .u8)).length=32):=by show _=_;simp[hr.len]
 have HQL:Hid ((q.prev.map (Value.int .u8)).length=32):=by show _=_;simp[hq.len]
 have HRR:=hid (hr.row.later (Bn b1 b2))
 have HQR:=hid (hq.row.later (Bn b1 b2))
 clear BR BQ b1 b2 hr hq
 generalize hSB:sameB r q=SB at *
 have HSB:=hid hSB
 clear hSB
 unfold sameB at HSB
 have HF:Hid (SB=decide (r.ps=q.ps)):=by show _=_;rw[<-HSB.out];simp[t1,t2,t3,t4,t5,t6]
 rw[t1] at c0
 clear t1
 rw[t2] at c1
 clear t2
 rw[decide_eq_true t3] at heq
 clear t3
 rw[t4] at c34
 clear t4
 rw[t5] at c35
 clear t5
 rw[t6] at c36
 clear t6
 clear HSB
 obtain⟨W2,hW2⟩:∃W2,W2=(w.alloc (.cells r.cs.toArray 58)).alloc (.cells q.cs.toArray 58):=⟨_,rfl⟩
 obtain⟨len,hle⟩:∃n,n=r.ps.length:=⟨_,rfl⟩
 have HLR:=hid hle
 have HLQ:Hid (len=q.ps.length):=hle.trans t7
 rw[<-hle] at c37 hro t7
 rw[<-t7] at d37 qro
 clear hle t7
 go_enter Tryd.func23,Tryd.ntmps23
 go_wp2_with (first | refine wpList_load_g rfl 25 _ rfl w.heap.size 2 rfl (r.prev.map (Value.int .u8)) _ HRP.out Tryd.underlying25 rfl (by rw[HRL.out];exact Tryd.size25) ?_ | refine wpList_load_g rfl 25 _ rfl (w.heap.size+1) 2 rfl (q.prev.map (Value.int .u8)) _ HQP.out Tryd.underlying25 rfl (by rw[HQL.out];exact Tryd.size25) ?_)
 rw[<-hW2] at HB HBR HBQ HRR HQR|-
 clear c0 c1 c34 c35 c36 c37 d0 d1 d34 d35 d36 d37 HRP HQP heq hgd hW2
 go_loopw [5] (fun x5 wr=>∃k:Nat,k<=len∧x5= .int .i64 (k:Int)∧Hid (Below W2.heap.size W2 wr)∧Hid (r.ps.take k=q.ps.take k)) (fun x5 _=>len-(intOf x5).toNat)
 case atStart=>exact⟨0,by omega,rfl,Below.refl _ _,rfl⟩
 case round=>
  obtain⟨k,hk,rfl,HBV,HTE⟩:=hrel
  have c37:=(HBR.out.later HBV.out).c37
  rw[<-HLR.out] at c37
  by_cases hlt:k<len
  ·have hkz:(k:Int)<(len:Int):=by omega
   obtain⟨b,off,hra,hbw,hc⟩:=HRR.out.cells (by rw[<-HLR.out];omega)
   obtain⟨b2,off2,hqa,hbw2,hc2⟩:=HQR.out.cells (by rw[<-HLQ.out];omega)
   have HX:=hid (hc k (by rw[<-HLR.out];exact hlt))
   have HY:=hid (hc2 k (by rw[<-HLQ.out];exact hlt))
   have HXL:=hid (HRR.out.get (j:=k) (by rw[<-HLR.out];exact hlt)).len
   have HYL:=hid (HQR.out.get (j:=k) (by rw[<-HLQ.out];exact hlt)).len
   have HTX:=hid (take_pc r.ps k (by rw[<-HLR.out];exact hlt))
   have HTY:=hid (take_pc q.ps k (by rw[<-HLQ.out];exact hlt))
   have HGX:Hid (r.ps.getD k pc0≠q.ps.getD k pc0->r.ps≠q.ps):=fun h e=>h (by rw[e])
   have HRA:=hid hra
   have HQA:=hid hqa
   have HBW:=hid hbw
   have HBW2:=hid hbw2
   generalize r.ps.getD k pc0=x at *
   generalize q.ps.getD k pc0=y at *
   clear hc hc2 hra hqa hbw hbw2
   by_cases hxy:x=y
   ·have HXY:Hid (decide (x=y)=true):=decide_eq_true hxy
    have HTN:Hid (r.ps.take (k+1)=q.ps.take (k+1)):=by show _=_;rw[HTX.out,HTY.out,HTE.out,hxy]
    clear hxy
    go_wp2_with fail
    refine wp_region_held_drew (S:=fun V=>Below W2.heap.size W2 V) (by kernel_rfl) HBV.out.drew (fun hS0=>?_)
    generalize wr.drew=v0 at *
    simp only[List.size_toArray,List.length_cons,List.length_nil,Nat.reduceAdd]
    refine Ord.take (i:=0) (d:=62) (v:=?v0) rfl rfl (by as_aux_lemma=>kernel_rfl) (by as_aux_lemma=>kernel_rfl) (by as_aux_lemma=>kernel_rfl) (fun _ _ _ h=>h) (by rfl) ?hA0 (by assumption) ?_
    case hA0=>intro V hSw;go_simp;try with_reducible rfl
    try simp only[List.setIfInBounds_toArray,List.set_cons_zero,List.set_cons_succ]
    refine Ord.take (i:=1) (d:=63) (v:= .slice (some ⟨b,off,none⟩) len r.cap) rfl rfl (by as_aux_lemma=>kernel_rfl) (by as_aux_lemma=>kernel_rfl) (by as_aux_lemma=>kernel_rfl) (fun _ _ _ h=>h) (by rfl) ?hA1 (by assumption) ?_
    case hA1=>intro V hSw;have q1:=(HBR.out.later hSw).c37;rw[<-HLR.out,HRA.out] at q1;go_simp;try with_reducible rfl
    try simp only[List.setIfInBounds_toArray,List.set_cons_zero,List.set_cons_succ]
    refine Ord.take (i:=2) (d:=64) (v:=?v2) rfl rfl (by as_aux_lemma=>kernel_rfl) (by as_aux_lemma=>kernel_rfl) (by as_aux_lemma=>kernel_rfl) (fun _ _ _ h=>h) (by rfl) ?hA2 (by assumption) ?_
    case hA2=>intro V hSw;go_simp;try with_reducible rfl
    try simp only[List.setIfInBounds_toArray,List.set_cons_zero,List.set_cons_succ]
    refine Ord.take (i:=3) (d:=65) (v:= .pointer (some ⟨b,off+k*33,none⟩)) rfl rfl (by as_aux_lemma=>kernel_rfl) (by as_aux_lemma=>kernel_rfl) (by as_aux_lemma=>kernel_rfl) (fun _ _ _ h=>h) (by rfl) ?hA3 (by assumption) ?_
    case hA3=>intro V hSw;go_simp;try with_reducible rfl
    try simp only[List.setIfInBounds_toArray,List.set_cons_zero,List.set_cons_succ]
    refine Ord.take (i:=4) (d:=66) (v:= .agg (pcC x).toArray) rfl rfl (by as_aux_lemma=>kernel_rfl) (by as_aux_lemma=>kernel_rfl) (by as_aux_lemma=>kernel_rfl) (fun _ _ _ h=>h) (by rfl) ?hA4 (by assumption) ?_
    case hA4=>intro V hSw;exact exec_load 80 (.tmp 65) rfl b (off+k*33) rfl (load_pc (range_later HX.out hSw HBW.out) HXL.out)
    try simp only[List.setIfInBounds_toArray,List.set_cons_zero,List.set_cons_succ]
    refine Ord.take (i:=5) (d:=67) (v:=?v5) rfl rfl (by as_aux_lemma=>kernel_rfl) (by as_aux_lemma=>kernel_rfl) (by as_aux_lemma=>kernel_rfl) (fun _ _ _ h=>h) (by rfl) ?hA5 (by assumption) ?_
    case hA5=>intro V hSw;go_simp;try with_reducible rfl
    try simp only[List.setIfInBounds_toArray,List.set_cons_zero,List.set_cons_succ]
    refine Ord.take (i:=6) (d:=68) (v:= .slice (some ⟨b2,off2,none⟩) len q.cap) rfl rfl (by as_aux_lemma=>kernel_rfl) (by as_aux_lemma=>kernel_rfl) (by as_aux_lemma=>kernel_rfl) (fun _ _ _ h=>h) (by rfl) ?hA6 (by assumption) ?_
    case hA6=>intro V hSw;have q1:=(HBQ.out.later hSw).c37;rw[<-HLQ.out,HQA.out] at q1;go_simp;try with_reducible rfl
    try simp only[List.setIfInBounds_toArray,List.set_cons_zero,List.set_cons_succ]
    refine Ord.take (i:=7) (d:=69) (v:=?v7) rfl rfl (by as_aux_lemma=>kernel_rfl) (by as_aux_lemma=>kernel_rfl) (by as_aux_lemma=>kernel_rfl) (fun _ _ _ h=>h) (by rfl) ?hA7 (by assumption) ?_
    case hA7=>intro V hSw;go_simp;try with_reducible rfl
    try simp only[List.setIfInBounds_toArray,List.set_cons_zero,List.set_cons_succ]
    refine Ord.take (i:=8) (d:=70) (v:= .pointer (some ⟨b2,off2+k*33,none⟩)) rfl rfl (by as_aux_lemma=>kernel_rfl) (by as_aux_lemma=>kernel_rfl) (by as_aux_lemma=>kernel_rfl) (fun _ _ _ h=>h) (by rfl) ?hA8 (by assumption) ?_
    case hA8=>intro V hSw;go_simp;try with_reducible rfl
    try simp only[List.setIfInBounds_toArray,List.set_cons_zero,List.set_cons_succ]
    refine Ord.take (i:=9) (d:=71) (v:= .agg (pcC y).toArray) rfl rfl (by as_aux_lemma=>kernel_rfl) (by as_aux_lemma=>kernel_rfl) (by as_aux_lemma=>kernel_rfl) (fun _ _ _ h=>h) (by rfl) ?hA9 (by assumption) ?_
    case hA9=>intro V hSw;exact exec_load 80 (.tmp 70) rfl b2 (off2+k*33) rfl (load_pc (range_later HY.out hSw HBW2.out) HYL.out)
    try simp only[List.setIfInBounds_toArray,List.set_cons_zero,List.set_cons_succ]
    refine Ord.take (i:=10) (d:=72) (v:= .bool false) rfl rfl (by as_aux_lemma=>kernel_rfl) (by as_aux_lemma=>kernel_rfl) (by as_aux_lemma=>kernel_rfl) (fun _ _ _ h=>h) (by rfl) ?hA10 (by assumption) ?_
    case hA10=>intro V hSw;exact run_neq_op rfl (xs:=(pcC x).toArray) (ys:=(pcC y).toArray) (b:=true) rfl rfl guard76 (by rw[eq76 x y HXL.out HYL.out,HXY.out])
    try simp only[List.setIfInBounds_toArray,List.set_cons_zero,List.set_cons_succ]
    refine wpAnyH_done (by as_aux_lemma=>kernel_rfl) ?_ _
    go_wp2
    go_round
    case rel=>exact⟨k+1,by omega,by go_num,hS0,HTN⟩
    case measure=>simp[intOf];omega
   ·have HXY:Hid (decide (x=y)=false):=decide_eq_false hxy
    have HFN:Hid (SB=false):=by show _=_;rw[HF.out];exact decide_eq_false (HGX.out hxy)
    clear hxy
    go_wp2_with fail
    refine wp_region_held_drew (S:=fun V=>Below W2.heap.size W2 V) (by kernel_rfl) HBV.out.drew (fun hS0=>?_)
    generalize wr.drew=v0 at *
    simp only[List.size_toArray,List.length_cons,List.length_nil,Nat.reduceAdd]
    refine Ord.take (i:=0) (d:=62) (v:=?v0) rfl rfl (by as_aux_lemma=>kernel_rfl) (by as_aux_lemma=>kernel_rfl) (by as_aux_lemma=>kernel_rfl) (fun _ _ _ h=>h) (by rfl) ?hA0 (by assumption) ?_
    case hA0=>intro V hSw;go_simp;try with_reducible rfl
    try simp only[List.setIfInBounds_toArray,List.set_cons_zero,List.set_cons_succ]
    refine Ord.take (i:=1) (d:=63) (v:= .slice (some ⟨b,off,none⟩) len r.cap) rfl rfl (by as_aux_lemma=>kernel_rfl) (by as_aux_lemma=>kernel_rfl) (by as_aux_lemma=>kernel_rfl) (fun _ _ _ h=>h) (by rfl) ?hA1 (by assumption) ?_
    case hA1=>intro V hSw;have q1:=(HBR.out.later hSw).c37;rw[<-HLR.out,HRA.out] at q1;go_simp;try with_reducible rfl
    try simp only[List.setIfInBounds_toArray,List.set_cons_zero,List.set_cons_succ]
    refine Ord.take (i:=2) (d:=64) (v:=?v2) rfl rfl (by as_aux_lemma=>kernel_rfl) (by as_aux_lemma=>kernel_rfl) (by as_aux_lemma=>kernel_rfl) (fun _ _ _ h=>h) (by rfl) ?hA2 (by assumption) ?_
    case hA2=>intro V hSw;go_simp;try with_reducible rfl
    try simp only[List.setIfInBounds_toArray,List.set_cons_zero,List.set_cons_succ]
    refine Ord.take (i:=3) (d:=65) (v:= .pointer (some ⟨b,off+k*33,none⟩)) rfl rfl (by as_aux_lemma=>kernel_rfl) (by as_aux_lemma=>kernel_rfl) (by as_aux_lemma=>kernel_rfl) (fun _ _ _ h=>h) (by rfl) ?hA3 (by assumption) ?_
    case hA3=>intro V hSw;go_simp;try with_reducible rfl
    try simp only[List.setIfInBounds_toArray,List.set_cons_zero,List.set_cons_succ]
    refine Ord.take (i:=4) (d:=66) (v:= .agg (pcC x).toArray) rfl rfl (by as_aux_lemma=>kernel_rfl) (by as_aux_lemma=>kernel_rfl) (by as_aux_lemma=>kernel_rfl) (fun _ _ _ h=>h) (by rfl) ?hA4 (by assumption) ?_
    case hA4=>intro V hSw;exact exec_load 80 (.tmp 65) rfl b (off+k*33) rfl (load_pc (range_later HX.out hSw HBW.out) HXL.out)
    try simp only[List.setIfInBounds_toArray,List.set_cons_zero,List.set_cons_succ]
    refine Ord.take (i:=5) (d:=67) (v:=?v5) rfl rfl (by as_aux_lemma=>kernel_rfl) (by as_aux_lemma=>kernel_rfl) (by as_aux_lemma=>kernel_rfl) (fun _ _ _ h=>h) (by rfl) ?hA5 (by assumption) ?_
    case hA5=>intro V hSw;go_simp;try with_reducible rfl
    try simp only[List.setIfInBounds_toArray,List.set_cons_zero,List.set_cons_succ]
    refine Ord.take (i:=6) (d:=68) (v:= .slice (some ⟨b2,off2,none⟩) len q.cap) rfl rfl (by as_aux_lemma=>kernel_rfl) (by as_aux_lemma=>kernel_rfl) (by as_aux_lemma=>kernel_rfl) (fun _ _ _ h=>h) (by rfl) ?hA6 (by assumption) ?_
    case hA6=>intro V hSw;have q1:=(HBQ.out.later hSw).c37;rw[<-HLQ.out,HQA.out] at q1;go_simp;try with_reducible rfl
    try simp only[List.setIfInBounds_toArray,List.set_cons_zero,List.set_cons_succ]
    refine Ord.take (i:=7) (d:=69) (v:=?v7) rfl rfl (by as_aux_lemma=>kernel_rfl) (by as_aux_lemma=>kernel_rfl) (by as_aux_lemma=>kernel_rfl) (fun _ _ _ h=>h) (by rfl) ?hA7 (by assumption) ?_
    case hA7=>intro V hSw;go_simp;try with_reducible rfl
    try simp only[List.setIfInBounds_toArray,List.set_cons_zero,List.set_cons_succ]
    refine Ord.take (i:=8) (d:=70) (v:= .pointer (some ⟨b2,off2+k*33,none⟩)) rfl rfl (by as_aux_lemma=>kernel_rfl) (by as_aux_lemma=>kernel_rfl) (by as_aux_lemma=>kernel_rfl) (fun _ _ _ h=>h) (by rfl) ?hA8 (by assumption) ?_
    case hA8=>intro V hSw;go_simp;try with_reducible rfl
    try simp only[List.setIfInBounds_toArray,List.set_cons_zero,List.set_cons_succ]
    refine Ord.take (i:=9) (d:=71) (v:= .agg (pcC y).toArray) rfl rfl (by as_aux_lemma=>kernel_rfl) (by as_aux_lemma=>kernel_rfl) (by as_aux_lemma=>kernel_rfl) (fun _ _ _ h=>h) (by rfl) ?hA9 (by assumption) ?_
    case hA9=>intro V hSw;exact exec_load 80 (.tmp 70) rfl b2 (off2+k*33) rfl (load_pc (range_later HY.out hSw HBW2.out) HYL.out)
    try simp only[List.setIfInBounds_toArray,List.set_cons_zero,List.set_cons_succ]
    refine Ord.take (i:=10) (d:=72) (v:= .bool true) rfl rfl (by as_aux_lemma=>kernel_rfl) (by as_aux_lemma=>kernel_rfl) (by as_aux_lemma=>kernel_rfl) (fun _ _ _ h=>h) (by rfl) ?hA10 (by assumption) ?_
    case hA10=>intro V hSw;exact run_neq_op rfl (xs:=(pcC x).toArray) (ys:=(pcC y).toArray) (b:=false) rfl rfl guard76 (by rw[eq76 x y HXL.out HYL.out,HXY.out])
    try simp only[List.setIfInBounds_toArray,List.set_cons_zero,List.set_cons_succ]
    refine wpAnyH_done (by as_aux_lemma=>kernel_rfl) ?_ _
    go_wp2
    go_ret
    exact⟨by rw[HFN.out];rfl,Bn HB.out hS0⟩
  ·have hkl:k=len:=by omega
   have hkz:¬(k:Int)<(len:Int):=by omega
   have HFY:Hid (SB=true):=by
    show _=_
    rw[HF.out]
    have:=HTE.out
    rw[List.take_of_length_le (by rw[<-HLR.out];omega),List.take_of_length_le (by rw[<-HLQ.out];omega)] at this
    exact decide_eq_true this
   go_wp2
   go_ret
   exact⟨by rw[HFY.out];rfl,Bn HB.out HBV.out⟩
end Go.Proofs.YtplinkmagnihmaaDoor
