/-
  The document's Same, a part.
-/
import Derived.Test.YtplinkmagnihmaaDoorRcJc
namespace Go.Proofs.YtplinkmagnihmaaDoor
open Go.ChangeShapes Go.WideShapes Go.ChangeAt Go.RowKit Go.Deep
set_option maxHeartbeats 6400000 in
set_option maxRecDepth 100000 in
theorem dsame_1(r q:Rec)(w:World)(hr:Rv w r)(hq:Rv w q)(t1:r.seq≠q.seq):
 Calls Tryd.prog 23 #[.agg r.cs.toArray,.agg q.cs.toArray] w fun e w'=>e= .returned (.bool (sameB r q))∧Below w.heap.size w w':=by
 have b1:=bel_alc w (.cells r.cs.toArray 58)
 have b2:=bel_alc (w.alloc (.cells r.cs.toArray 58)) (.cells q.cs.toArray 58)
 have s1:(w.alloc (.cells r.cs.toArray 58)).heap.size=w.heap.size+1:=by simp
 have BR:=(Bx.mk' w r hr.len).later b2
 have BQ:=Bx.mk' (w.alloc (.cells r.cs.toArray 58)) q hq.len
 rw[s1] at BQ
 have HB:=hid (Bn b1 b2)
 have HBR:=hid BR
 have HBQ:=hid BQ
 have c0:=BR.c0
 have c1:=BR.c1
 have c34:=BR.c34
 have c35:=BR.c35
 have c36:=BR.c36
 have c37:=BR.c37
 have d0:=BQ.c0
 have d1:=BQ.c1
 have d34:=BQ.c34
 have d35:=BQ.c35
 have d36:=BQ.c36
 have d37:=BQ.c37
 have HRP:=hid BR.prev
 have HQP:=hid BQ.prev
 have hro:=hr.row.room
 have hmo:=hr.row.most
 have qro:=hq.row.room
 have qmo:=hq.row.most
 unfold maxLen at hmo qmo
 have heq:∀V,(Op.equalIn 10000 25 (.agg (r.prev.map (Value.int .u8)).toArray) (.agg (q.prev.map (Value.int .u8)).toArray)).run Tryd.prog V= .ok (decide (r.prev=q.prev)) V:=fun V=>eq37 r.prev q.prev hr.len hq.len V
 have hgd:=guard37
 have HRL:Hid ((r.prev.map (Value.int .u8)).length=32):=by show _=_;simp[hr.len]
 have HQL:Hid ((q.prev.map (Value.int .u8)).length=32):=by show _=_;simp[hq.len]
 have HRR:=hid (hr.row.later (Bn b1 b2))
 have HQR:=hid (hq.row.later (Bn b1 b2))
 clear BR BQ b1 b2 hr hq
 generalize hSB:sameB r q=SB at *
 have HSB:=hid hSB
 clear hSB
 unfold sameB at HSB
 have HF:Hid (SB=false):=by show _=_;rw[<-HSB.out];exact decide_eq_false (fun e=>t1 e.1)
 clear HSB HRR HQR HBR HBQ
 go_enter Tryd.func23,Tryd.ntmps23
 go_wp2_with (first | refine wpList_load_g rfl 25 _ rfl w.heap.size 2 rfl (r.prev.map (Value.int .u8)) _ HRP.out Tryd.underlying25 rfl (by rw[HRL.out];exact Tryd.size25) ?_ | refine wpList_load_g rfl 25 _ rfl (w.heap.size+1) 2 rfl (q.prev.map (Value.int .u8)) _ HQP.out Tryd.underlying25 rfl (by rw[HQL.out];exact Tryd.size25) ?_)
 go_ret
 exact⟨by rw[HF.out];rfl,HB.out⟩
set_option maxHeartbeats 6400000 in
set_option maxRecDepth 100000 in
theorem dsame_2(r q:Rec)(w:World)(hr:Rv w r)(hq:Rv w q)(t1:r.seq=q.seq)(t2:r.epoch≠q.epoch):
 Calls Tryd.prog 23 #[.agg r.cs.toArray,.agg q.cs.toArray] w fun e w'=>e= .returned (.bool (sameB r q))∧Below w.heap.size w w':=by
 have b1:=bel_alc w (.cells r.cs.toArray 58)
 have b2:=bel_alc (w.alloc (.cells r.cs.toArray 58)) (.cells q.cs.toArray 58)
 have s1:(w.alloc (.cells r.cs.toArray 58)).heap.size=w.heap.size+1:=by simp
 have BR:=(Bx.mk' w r hr.len).later b2
 have BQ:=Bx.mk' (w.alloc (.cells r.cs.toArray 58)) q hq.len
 rw[s1] at BQ
 have HB:=hid (Bn b1 b2)
 have HBR:=hid BR
 have HBQ:=hid BQ
 have c0:=BR.c0
 have c1:=BR.c1
 have c34:=BR.c34
 have c35:=BR.c35
 have c36:=BR.c36
 have c37:=BR.c37
 have d0:=BQ.c0
 have d1:=BQ.c1
 have d34:=BQ.c34
 have d35:=BQ.c35
 have d36:=BQ.c36
 have d37:=BQ.c37
 have HRP:=hid BR.prev
 have HQP:=hid BQ.prev
 have hro:=hr.row.room
 have hmo:=hr.row.most
 have qro:=hq.row.room
 have qmo:=hq.row.most
 unfold maxLen at hmo qmo
 have heq:∀V,(Op.equalIn 10000 25 (.agg (r.prev.map (Value.int .u8)).toArray) (.agg (q.prev.map (Value.int .u8)).toArray)).run Tryd.prog V= .ok (decide (r.prev=q.prev)) V:=fun V=>eq37 r.prev q.prev hr.len hq.len V
 have hgd:=guard37
 have HRL:Hid ((r.prev.map (Value.int .u8)).length=32):=by show _=_;simp[hr.len]
 have HQL:Hid ((q.prev.map (Value.int .u8)).length=32):=by show _=_;simp[hq.len]
 have HRR:=hid (hr.row.later (Bn b1 b2))
 have HQR:=hid (hq.row.later (Bn b1 b2))
 clear BR BQ b1 b2 hr hq
 generalize hSB:sameB r q=SB at *
 have HSB:=hid hSB
 clear hSB
 unfold sameB at HSB
 have HF:Hid (SB=false):=by show _=_;rw[<-HSB.out];exact decide_eq_false (fun e=>t2 e.2.1)
 clear HSB HRR HQR HBR HBQ
 rw[t1] at c0
 clear t1
 go_enter Tryd.func23,Tryd.ntmps23
 go_wp2_with (first | refine wpList_load_g rfl 25 _ rfl w.heap.size 2 rfl (r.prev.map (Value.int .u8)) _ HRP.out Tryd.underlying25 rfl (by rw[HRL.out];exact Tryd.size25) ?_ | refine wpList_load_g rfl 25 _ rfl (w.heap.size+1) 2 rfl (q.prev.map (Value.int .u8)) _ HQP.out Tryd.underlying25 rfl (by rw[HQL.out];exact Tryd.size25) ?_)
 go_ret
 exact⟨by rw[HF.out];rfl,HB.out⟩
set_option maxHeartbeats 6400000 in
set_option maxRecDepth 100000 in
theorem dsame_3(r q:Rec)(w:World)(hr:Rv w r)(hq:Rv w q)(t1:r.seq=q.seq)(t2:r.epoch=q.epoch)(t3:r.prev≠q.prev):
 Calls Tryd.prog 23 #[.agg r.cs.toArray,.agg q.cs.toArray] w fun e w'=>e= .returned (.bool (sameB r q))∧Below w.heap.size w w':=by
 have b1:=bel_alc w (.cells r.cs.toArray 58)
 have b2:=bel_alc (w.alloc (.cells r.cs.toArray 58)) (.cells q.cs.toArray 58)
 have s1:(w.alloc (.cells r.cs.toArray 58)).heap.size=w.heap.size+1:=by simp
 have BR:=(Bx.mk' w r hr.len).later b2
 have BQ:=Bx.mk' (w.alloc (.cells r.cs.toArray 58)) q hq.len
 rw[s1] at BQ
 have HB:=hid (Bn b1 b2)
 have HBR:=hid BR
 have HBQ:=hid BQ
 have c0:=BR.c0
 have c1:=BR.c1
 have c34:=BR.c34
 have c35:=BR.c35
 have c36:=BR.c36
 have c37:=BR.c37
 have d0:=BQ.c0
 have d1:=BQ.c1
 have d34:=BQ.c34
 have d35:=BQ.c35
 have d36:=BQ.c36
 have d37:=BQ.c37
 have HRP:=hid BR.prev
 have HQP:=hid BQ.prev
 have hro:=hr.row.room
 have hmo:=hr.row.most
 have qro:=hq.row.room
 have qmo:=hq.row.most
 unfold maxLen at hmo qmo
 have heq:∀V,(Op.equalIn 10000 25 (.agg (r.prev.map (Value.int .u8)).toArray) (.agg (q.prev.map (Value.int .u8)).toArray)).run Tryd.prog V= .ok (decide (r.prev=q.prev)) V:=fun V=>eq37 r.prev q.prev hr.len hq.len V
 have hgd:=guard37
 have HRL:Hid ((r.prev.map (Value.int .u8)).length=32):=by show _=_;simp[hr.len]
 have HQL:Hid ((q.prev.map (Value.int .u8)).length=32):=by show _=_;simp[hq.len]
 have HRR:=hid (hr.row.later (Bn b1 b2))
 have HQR:=hid (hq.row.later (Bn b1 b2))
 clear BR BQ b1 b2 hr hq
 generalize hSB:sameB r q=SB at *
 have HSB:=hid hSB
 clear hSB
 unfold sameB at HSB
 have HF:Hid (SB=false):=by show _=_;rw[<-HSB.out];exact decide_eq_false (fun e=>t3 e.2.2.1)
 clear HSB HRR HQR HBR HBQ
 rw[t1] at c0
 clear t1
 rw[t2] at c1
 clear t2
 rw[decide_eq_false t3] at heq
 clear t3
 go_enter Tryd.func23,Tryd.ntmps23
 go_wp2_with (first | refine wpList_load_g rfl 25 _ rfl w.heap.size 2 rfl (r.prev.map (Value.int .u8)) _ HRP.out Tryd.underlying25 rfl (by rw[HRL.out];exact Tryd.size25) ?_ | refine wpList_load_g rfl 25 _ rfl (w.heap.size+1) 2 rfl (q.prev.map (Value.int .u8)) _ HQP.out Tryd.underlying25 rfl (by rw[HQL.out];exact Tryd.size25) ?_)
 go_ret
 exact⟨by rw[HF.out];rfl,HB.out⟩
end Go.Proofs.YtplinkmagnihmaaDoor
