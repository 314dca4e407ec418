/-
  The heads of a catalogue: the contract of check's headsOf. The document's side: records that follow one another. What an audit holds: check's reaches and has.
-/
import Derived.Test.YtplinkmagnihmaaDoorCkJc
import Derived.Test.YtplinkmagnihmaaDoorCkJa
import Derived.Test.YtplinkmagnihmaaDoorRcJd
namespace Go.Proofs.YtplinkmagnihmaaDoor
open Go.ChangeShapes Go.WideShapes Go.ChangeAt Go.RowKit Go.Deep Go.Lib
abbrev auC (kv hv mv:Value) (mp:Nat) (f:Int×Int×Int):Array Value:= #[kv,hv,mv,.map (some mp),.int .i64 f.1,.int .i64 f.2.1,.int .i64 f.2.2]
set_option maxHeartbeats 3200000 in
set_option maxRecDepth 100000 in
theorem reaches_word(A:Nat)(kv mv:Value)(ha:Option Addr)(hn hc mp:Nat)(f:Int×Int×Int)(x:Hd)(w:World)(hb:w.heap[A]?=some (.cells (auC kv (.slice ha hn hc) mv mp f) 74))(hl:x.2.2.length=32):
 Calls Tryd.prog 45 #[.pointer (some ⟨A,0,none⟩),.agg (hdV x).toArray] w fun e w'=>e= .returned (.bool (decide (x.1<(hn:Int))))∧Below w.heap.size w w':=by
 have HB1:=hid (bel_alc w (.cells (hdV x).toArray 27))
 have hbx:=heap_alc w (.cells (hdV x).toArray 27)
 obtain⟨W1,hW1⟩:∃W1,W1=w.alloc (.cells (hdV x).toArray 27):=⟨_,rfl⟩
 rw[<-hW1] at HB1 hbx
 have HW1:=hid hW1
 have HR:=hid (fun X (hX:Below W1.heap.size W1 X)=>blk_range (blk_later hbx hX))
 have HLN:=hid (hdV_len hl)
 have HC1:=hid (fun X (hX:Below W1.heap.size W1 X)=>(Joins.cell_of_block (blk_later (blk_later hb HB1.out) hX) 1).trans (show _=some (Value.slice ha hn hc) from rfl))
 obtain⟨n,hn0⟩:∃n,n=x.1:=⟨_,rfl⟩
 have HC0:=hid (fun X (hX:Below W1.heap.size W1 X)=>hd_seq (HR.out X hX))
 rw[<-hn0] at HC0
 rw[<-hn0]
 have HNN:=hid hn0
 clear hbx hW1 hb hl hn0
 go_enter Tryd.func45,Tryd.ntmps45
 go_wp2_with fail
 rw[<-HW1.out]
 refine wp_region_held_drew (S:=fun X=>Below W1.heap.size W1 X) (by kernel_rfl) (Below.refl _ _).drew (fun hS_v0=>?_)
 have hd_v0:Below W1.heap.size W1 W1.drew:=(Below.refl _ _).drew
 generalize W1.drew=v0 at *
 simp only[List.size_toArray,List.length_cons,List.length_nil,Nat.reduceAdd]
 clear hd_v0
 refine Ord.take (i:=0) (d:=5) (v:=?vR0) rfl rfl (by as_aux_lemma=>kernel_rfl) (by as_aux_lemma=>kernel_rfl) (by as_aux_lemma=>kernel_rfl) (fun _ _ _ h=>h) (by rfl) ?hR0 (by assumption) ?_
 case hR0=>intro wx hSw;go_simp;try with_reducible rfl
 try simp only[List.setIfInBounds_toArray,List.set_cons_zero,List.set_cons_succ]
 refine Ord.take (i:=1) (d:=6) (v:= .int .i64 n) rfl rfl (by as_aux_lemma=>kernel_rfl) (by as_aux_lemma=>kernel_rfl) (by as_aux_lemma=>kernel_rfl) (fun _ _ _ h=>h) (by rfl) ?hR1 (by assumption) ?_
 case hR1=>intro wx hSw;have hc:=HC0.out _ hSw;go_simp;try with_reducible rfl
 try simp only[List.setIfInBounds_toArray,List.set_cons_zero,List.set_cons_succ]
 refine Ord.take (i:=2) (d:=7) (v:=?vR2) rfl rfl (by as_aux_lemma=>kernel_rfl) (by as_aux_lemma=>kernel_rfl) (by as_aux_lemma=>kernel_rfl) (fun _ _ _ h=>h) (by rfl) ?hR2 (by assumption) ?_
 case hR2=>intro wx hSw;go_simp;try with_reducible rfl
 try simp only[List.setIfInBounds_toArray,List.set_cons_zero,List.set_cons_succ]
 refine Ord.take (i:=3) (d:=8) (v:=?vR3) rfl rfl (by as_aux_lemma=>kernel_rfl) (by as_aux_lemma=>kernel_rfl) (by as_aux_lemma=>kernel_rfl) (fun _ _ _ h=>h) (by rfl) ?hR3 (by assumption) ?_
 case hR3=>intro wx hSw;go_simp;try with_reducible rfl
 try simp only[List.setIfInBounds_toArray,List.set_cons_zero,List.set_cons_succ]
 refine Ord.take (i:=4) (d:=9) (v:=?vR4) rfl rfl (by as_aux_lemma=>kernel_rfl) (by as_aux_lemma=>kernel_rfl) (by as_aux_lemma=>kernel_rfl) (fun _ _ _ h=>h) (by rfl) ?hR4 (by assumption) ?_
 case hR4=>intro wx hSw;go_simp;try with_reducible rfl
 try simp only[List.setIfInBounds_toArray,List.set_cons_zero,List.set_cons_succ]
 refine Ord.take (i:=5) (d:=10) (v:= .slice ha hn hc) rfl rfl (by as_aux_lemma=>kernel_rfl) (by as_aux_lemma=>kernel_rfl) (by as_aux_lemma=>kernel_rfl) (fun _ _ _ h=>h) (by rfl) ?hR5 (by assumption) ?_
 case hR5=>intro wx hSw;have hc:=HC1.out _ hSw;go_simp;try with_reducible rfl
 try simp only[List.setIfInBounds_toArray,List.set_cons_zero,List.set_cons_succ]
 refine Ord.take (i:=6) (d:=11) (v:=?vR6) rfl rfl (by as_aux_lemma=>kernel_rfl) (by as_aux_lemma=>kernel_rfl) (by as_aux_lemma=>kernel_rfl) (fun _ _ _ h=>h) (by rfl) ?hR6 (by assumption) ?_
 case hR6=>intro wx hSw;go_simp;try with_reducible rfl
 try simp only[List.setIfInBounds_toArray,List.set_cons_zero,List.set_cons_succ]
 refine Ord.take (i:=7) (d:=12) (v:=?vR7) rfl rfl (by as_aux_lemma=>kernel_rfl) (by as_aux_lemma=>kernel_rfl) (by as_aux_lemma=>kernel_rfl) (fun _ _ _ h=>h) (by rfl) ?hR7 (by assumption) ?_
 case hR7=>intro wx hSw;go_simp;try with_reducible rfl
 try simp only[List.setIfInBounds_toArray,List.set_cons_zero,List.set_cons_succ]
 refine Ord.take (i:=8) (d:=4) (v:=?vR8) rfl rfl (by as_aux_lemma=>kernel_rfl) (by as_aux_lemma=>kernel_rfl) (by as_aux_lemma=>kernel_rfl) (fun _ _ _ h=>h) (by rfl) ?hR8 (by assumption) ?_
 case hR8=>intro wx hSw;go_simp;try with_reducible rfl
 try simp only[List.setIfInBounds_toArray,List.set_cons_zero,List.set_cons_succ]
 refine wpAnyH_done (by as_aux_lemma=>kernel_rfl) ?_ _
 have HS9:=hid (Bn HB1.out hS_v0)
 clear hS_v0
 go_wp2
 go_ret
 exact⟨rfl,HS9.out⟩
theorem hd_get{hs:List Hd}{n:Nat}(h:n<hs.length){P:Hd->Prop}(hp:∀y∈hs,P y):P (hs.getD n hdZ):=hp _ (by simp[List.getD,List.getElem?_eq_getElem h])
def hasB(hs:List Hd)(x:Hd):Bool:=decide (0<=x.1)&&decide (hs.getD x.1.toNat hdZ=x)
set_option maxHeartbeats 3200000 in
set_option maxRecDepth 100000 in
theorem has_word(A:Nat)(kv mv:Value)(ha:Option Addr)(hn hc mp:Nat)(f:Int×Int×Int)(x:Hd)(hs:List Hd)(w:World)(hb:w.heap[A]?=some (.cells (auC kv (.slice ha hn hc) mv mp f) 74))(hl:x.2.2.length=32)
 (hrw:Rw 34 hdV hdZ w ha hc hs) (hhn:hn=hs.length) (hlt:x.1<(hn:Int)) (h32:∀y∈hs,y.2.2.length=32) :
 Calls Tryd.prog 46 #[.pointer (some ⟨A,0,none⟩),.agg (hdV x).toArray] w fun e w'=>e= .returned (.bool (hasB hs x))∧Below w.heap.size w w':=by
 have HB1:=hid (bel_alc w (.cells (hdV x).toArray 27))
 have hbx:=heap_alc w (.cells (hdV x).toArray 27)
 obtain⟨W1,hW1⟩:∃W1,W1=w.alloc (.cells (hdV x).toArray 27):=⟨_,rfl⟩
 rw[<-hW1] at HB1 hbx
 have HW1:=hid hW1
 have HR:=hid (fun X (hX:Below W1.heap.size W1 X)=>blk_range (blk_later hbx hX))
 have HLN:=hid (hdV_len hl)
 have HC1:=hid (fun X (hX:Below W1.heap.size W1 X)=>(Joins.cell_of_block (blk_later (blk_later hb HB1.out) hX) 1).trans (show _=some (Value.slice ha hn hc) from rfl))
 have HC0:=hid (fun X (hX:Below W1.heap.size W1 X)=>hd_seq (HR.out X hX))
 obtain⟨q,hq⟩:∃q,q=hasB hs x:=⟨_,rfl⟩
 rw[<-hq]
 have HQ:=hid hq
 have hmost:=hrw.most
 have hroom:=hrw.room
 rw[<-hhn] at hroom
 unfold maxLen at hmost
 by_cases h0:0<=x.1
 ·obtain⟨n,hn0⟩:∃n:Nat,x.1=(n:Int):=⟨x.1.toNat,by omega⟩
  have hnl:n<hs.length:=by omega
  obtain⟨b,off,rfl,hbw,hcc⟩:=hrw.cells (by omega)
  obtain⟨y,hy⟩:∃y,y=hs.getD n hdZ:=⟨_,rfl⟩
  have hcy:=hcc n hnl
  have hyl:y.2.2.length=32:=by rw[hy];exact hd_get hnl h32
  rw[<-hy] at hcy
  have HY:=hid (fun X (hX:Below W1.heap.size W1 X)=>range_later (range_later hcy HB1.out hbw) hX (Nat.lt_of_lt_of_le hbw HB1.out.size))
  have HYL:=hid (hdV_len hyl)
  have HEQ:=hid (fun V=>eq55 y x hyl hl V)
  have HQY:Hid (decide (y=x)=q):=by
   show _=_
   rw[hq]
   unfold hasB
   rw[decide_eq_true h0,hn0,Int.toNat_natCast,<-hy]
   simp
  rw[hn0] at HC0 hlt
  have hlt2:(n:Int)<(hn:Int):=hlt
  clear hcc hcy hyl hy hbx hW1 hb hl hrw h32 hq h0 hlt hhn
  go_enter Tryd.func46,Tryd.ntmps46
  go_wp2_with fail
  rw[<-HW1.out]
  rw[HQY.out] at HEQ
  refine wp_region_held_drew (S:=fun X=>Below W1.heap.size W1 X) (by kernel_rfl) (Below.refl _ _).drew (fun hS_v0=>?_)
  have hd_v0:Below W1.heap.size W1 W1.drew:=(Below.refl _ _).drew
  generalize W1.drew=v0 at *
  simp only[List.size_toArray,List.length_cons,List.length_nil,Nat.reduceAdd]
  clear hd_v0
  refine Ord.take (i:=0) (d:=5) (v:=?vP0) rfl rfl (by as_aux_lemma=>kernel_rfl) (by as_aux_lemma=>kernel_rfl) (by as_aux_lemma=>kernel_rfl) (fun _ _ _ h=>h) (by rfl) ?hP0 (by assumption) ?_
  case hP0=>intro wx hSw;go_simp;try with_reducible rfl
  try simp only[List.setIfInBounds_toArray,List.set_cons_zero,List.set_cons_succ]
  refine Ord.take (i:=1) (d:=6) (v:= .int .i64 (n:Int)) rfl rfl (by as_aux_lemma=>kernel_rfl) (by as_aux_lemma=>kernel_rfl) (by as_aux_lemma=>kernel_rfl) (fun _ _ _ h=>h) (by rfl) ?hP1 (by assumption) ?_
  case hP1=>intro wx hSw;have hc:=HC0.out _ hSw;go_simp;try with_reducible rfl
  try simp only[List.setIfInBounds_toArray,List.set_cons_zero,List.set_cons_succ]
  refine Ord.take (i:=2) (d:=7) (v:= .bool true) rfl rfl (by as_aux_lemma=>kernel_rfl) (by as_aux_lemma=>kernel_rfl) (by as_aux_lemma=>kernel_rfl) (fun _ _ _ h=>h) (by rfl) ?hP2 (by assumption) ?_
  case hP2=>intro wx hSw;go_simp;try with_reducible rfl
  try simp only[List.setIfInBounds_toArray,List.set_cons_zero,List.set_cons_succ]
  refine Ord.take (i:=3) (d:=8) (v:= .bool true) rfl rfl (by as_aux_lemma=>kernel_rfl) (by as_aux_lemma=>kernel_rfl) (by as_aux_lemma=>kernel_rfl) (fun _ _ _ h=>h) (by rfl) ?hP3 (by assumption) ?_
  case hP3=>intro wx hSw;go_simp;try with_reducible rfl
  try simp only[List.setIfInBounds_toArray,List.set_cons_zero,List.set_cons_succ]
  refine Ord.take (i:=4) (d:=9) (v:=?vP4) rfl rfl (by as_aux_lemma=>kernel_rfl) (by as_aux_lemma=>kernel_rfl) (by as_aux_lemma=>kernel_rfl) (fun _ _ _ h=>h) (by rfl) ?hP4 (by assumption) ?_
  case hP4=>intro wx hSw;go_simp;try with_reducible rfl
  try simp only[List.setIfInBounds_toArray,List.set_cons_zero,List.set_cons_succ]
  refine Ord.take (i:=5) (d:=10) (v:=?vP5) rfl rfl (by as_aux_lemma=>kernel_rfl) (by as_aux_lemma=>kernel_rfl) (by as_aux_lemma=>kernel_rfl) (fun _ _ _ h=>h) (by rfl) ?hP5 (by assumption) ?_
  case hP5=>intro wx hSw;go_simp;try with_reducible rfl
  try simp only[List.setIfInBounds_toArray,List.set_cons_zero,List.set_cons_succ]
  refine Ord.take (i:=6) (d:=11) (v:=?vP6) rfl rfl (by as_aux_lemma=>kernel_rfl) (by as_aux_lemma=>kernel_rfl) (by as_aux_lemma=>kernel_rfl) (fun _ _ _ h=>h) (by rfl) ?hP6 (by assumption) ?_
  case hP6=>intro wx hSw;go_simp;try with_reducible rfl
  try simp only[List.setIfInBounds_toArray,List.set_cons_zero,List.set_cons_succ]
  refine Ord.take (i:=7) (d:=12) (v:= .slice (some ⟨b,off,none⟩) hn hc) rfl rfl (by as_aux_lemma=>kernel_rfl) (by as_aux_lemma=>kernel_rfl) (by as_aux_lemma=>kernel_rfl) (fun _ _ _ h=>h) (by rfl) ?hP7 (by assumption) ?_
  case hP7=>intro wx hSw;have hc:=HC1.out _ hSw;go_simp;try with_reducible rfl
  try simp only[List.setIfInBounds_toArray,List.set_cons_zero,List.set_cons_succ]
  refine Ord.take (i:=8) (d:=13) (v:=?vP8) rfl rfl (by as_aux_lemma=>kernel_rfl) (by as_aux_lemma=>kernel_rfl) (by as_aux_lemma=>kernel_rfl) (fun _ _ _ h=>h) (by rfl) ?hP8 (by assumption) ?_
  case hP8=>intro wx hSw;go_simp;try with_reducible rfl
  try simp only[List.setIfInBounds_toArray,List.set_cons_zero,List.set_cons_succ]
  refine Ord.take (i:=9) (d:=14) (v:= .int .i64 (n:Int)) rfl rfl (by as_aux_lemma=>kernel_rfl) (by as_aux_lemma=>kernel_rfl) (by as_aux_lemma=>kernel_rfl) (fun _ _ _ h=>h) (by rfl) ?hP9 (by assumption) ?_
  case hP9=>intro wx hSw;have hc:=HC0.out _ hSw;go_simp;try with_reducible rfl
  try simp only[List.setIfInBounds_toArray,List.set_cons_zero,List.set_cons_succ]
  refine Ord.take (i:=10) (d:=15) (v:=?vP10) rfl rfl (by as_aux_lemma=>kernel_rfl) (by as_aux_lemma=>kernel_rfl) (by as_aux_lemma=>kernel_rfl) (fun _ _ _ h=>h) (by rfl) ?hP10 (by assumption) ?_
  case hP10=>intro wx hSw;go_simp;try with_reducible rfl
  try simp only[List.setIfInBounds_toArray,List.set_cons_zero,List.set_cons_succ]
  refine Ord.take (i:=11) (d:=16) (v:= .agg (hdV y).toArray) rfl rfl (by as_aux_lemma=>kernel_rfl) (by as_aux_lemma=>kernel_rfl) (by as_aux_lemma=>kernel_rfl) (fun _ _ _ h=>h) (by rfl) ?hP11 (by assumption) ?_
  case hP11=>intro wx hSw;exact exec_load 27 (.tmp 15) rfl b (off+n*34) rfl (run_loadVar_mid wx b (off+n*34) 27 (hdV y) _ (HY.out _ hSw) Tryd.underlying27 rfl (by rw[HYL.out];exact Tryd.size27))
  try simp only[List.setIfInBounds_toArray,List.set_cons_zero,List.set_cons_succ]
  refine Ord.take (i:=12) (d:=17) (v:= .agg (hdV x).toArray) rfl rfl (by as_aux_lemma=>kernel_rfl) (by as_aux_lemma=>kernel_rfl) (by as_aux_lemma=>kernel_rfl) (fun _ _ _ h=>h) (by rfl) ?hP12 (by assumption) ?_
  case hP12=>intro wx hSw;exact exec_load 27 (.tmp 3) rfl w.heap.size 0 rfl (run_loadVar_mid wx w.heap.size 0 27 (hdV x) _ (HR.out _ hSw) Tryd.underlying27 rfl (by rw[HLN.out];exact Tryd.size27))
  try simp only[List.setIfInBounds_toArray,List.set_cons_zero,List.set_cons_succ]
  refine Ord.take (i:=13) (d:=18) (v:= .bool q) rfl rfl (by as_aux_lemma=>kernel_rfl) (by as_aux_lemma=>kernel_rfl) (by as_aux_lemma=>kernel_rfl) (fun _ _ _ h=>h) (by rfl) ?hP13 (by assumption) ?_
  case hP13=>intro wx hSw;exact run_eql_op rfl rfl rfl guard55 (HEQ.out _)
  try simp only[List.setIfInBounds_toArray,List.set_cons_zero,List.set_cons_succ]
  refine Ord.take (i:=14) (d:=19) (v:= .bool q) rfl rfl (by as_aux_lemma=>kernel_rfl) (by as_aux_lemma=>kernel_rfl) (by as_aux_lemma=>kernel_rfl) (fun _ _ _ h=>h) (by rfl) ?hP14 (by assumption) ?_
  case hP14=>intro wx hSw;go_simp;try with_reducible rfl
  try simp only[List.setIfInBounds_toArray,List.set_cons_zero,List.set_cons_succ]
  refine Ord.take (i:=15) (d:=4) (v:=?vP15) rfl rfl (by as_aux_lemma=>kernel_rfl) (by as_aux_lemma=>kernel_rfl) (by as_aux_lemma=>kernel_rfl) (fun _ _ _ h=>h) (by rfl) ?hP15 (by assumption) ?_
  case hP15=>intro wx hSw;go_simp;try with_reducible rfl
  try simp only[List.setIfInBounds_toArray,List.set_cons_zero,List.set_cons_succ]
  refine wpAnyH_done (by as_aux_lemma=>kernel_rfl) ?_ _
  have HS9:=hid (Bn HB1.out hS_v0)
  clear hS_v0
  go_wp2
  go_ret
  exact⟨rfl,HS9.out⟩
 ·have HQF:Hid (q=false):=by
   show _=_
   rw[hq]
   unfold hasB
   rw[decide_eq_false h0]
   rfl
  rw[HQF.out]
  obtain⟨n,hn0⟩:∃n,n=x.1:=⟨_,rfl⟩
  rw[<-hn0] at HC0 h0
  clear hbx hW1 hb hl hrw h32 hq hlt hhn hn0 hroom hmost
  go_enter Tryd.func46,Tryd.ntmps46
  go_wp2_with fail
  rw[<-HW1.out]
  refine wp_region_held_drew (S:=fun X=>Below W1.heap.size W1 X) (by kernel_rfl) (Below.refl _ _).drew (fun hS_v0=>?_)
  have hd_v0:Below W1.heap.size W1 W1.drew:=(Below.refl _ _).drew
  generalize W1.drew=v0 at *
  simp only[List.size_toArray,List.length_cons,List.length_nil,Nat.reduceAdd]
  clear hd_v0
  refine Ord.take (i:=0) (d:=5) (v:=?vN0) rfl rfl (by as_aux_lemma=>kernel_rfl) (by as_aux_lemma=>kernel_rfl) (by as_aux_lemma=>kernel_rfl) (fun _ _ _ h=>h) (by rfl) ?hN0 (by assumption) ?_
  case hN0=>intro wx hSw;go_simp;try with_reducible rfl
  try simp only[List.setIfInBounds_toArray,List.set_cons_zero,List.set_cons_succ]
  refine Ord.take (i:=1) (d:=6) (v:= .int .i64 n) rfl rfl (by as_aux_lemma=>kernel_rfl) (by as_aux_lemma=>kernel_rfl) (by as_aux_lemma=>kernel_rfl) (fun _ _ _ h=>h) (by rfl) ?hN1 (by assumption) ?_
  case hN1=>intro wx hSw;have hc:=HC0.out _ hSw;go_simp;try with_reducible rfl
  try simp only[List.setIfInBounds_toArray,List.set_cons_zero,List.set_cons_succ]
  refine Ord.take (i:=2) (d:=7) (v:= .bool false) rfl rfl (by as_aux_lemma=>kernel_rfl) (by as_aux_lemma=>kernel_rfl) (by as_aux_lemma=>kernel_rfl) (fun _ _ _ h=>h) (by rfl) ?hN2 (by assumption) ?_
  case hN2=>intro wx hSw;go_simp;try with_reducible rfl
  try simp only[List.setIfInBounds_toArray,List.set_cons_zero,List.set_cons_succ]
  refine Ord.take (i:=3) (d:=8) (v:= .bool false) rfl rfl (by as_aux_lemma=>kernel_rfl) (by as_aux_lemma=>kernel_rfl) (by as_aux_lemma=>kernel_rfl) (fun _ _ _ h=>h) (by rfl) ?hN3 (by assumption) ?_
  case hN3=>intro wx hSw;go_simp;try with_reducible rfl
  try simp only[List.setIfInBounds_toArray,List.set_cons_zero,List.set_cons_succ]
  refine Ord.skip (i:=4) (d:=9) rfl rfl (by as_aux_lemma=>kernel_rfl) (by as_aux_lemma=>kernel_rfl) (by as_aux_lemma=>kernel_rfl) (fun _ _ _ h=>h) (by rfl) (by assumption) ?_
  simp only[List.setIfInBounds_toArray,List.set_cons_zero,List.set_cons_succ]
  refine Ord.skip (i:=5) (d:=10) rfl rfl (by as_aux_lemma=>kernel_rfl) (by as_aux_lemma=>kernel_rfl) (by as_aux_lemma=>kernel_rfl) (fun _ _ _ h=>h) (by rfl) (by assumption) ?_
  simp only[List.setIfInBounds_toArray,List.set_cons_zero,List.set_cons_succ]
  refine Ord.skip (i:=6) (d:=11) rfl rfl (by as_aux_lemma=>kernel_rfl) (by as_aux_lemma=>kernel_rfl) (by as_aux_lemma=>kernel_rfl) (fun _ _ _ h=>h) (by rfl) (by assumption) ?_
  simp only[List.setIfInBounds_toArray,List.set_cons_zero,List.set_cons_succ]
  refine Ord.skip (i:=7) (d:=12) rfl rfl (by as_aux_lemma=>kernel_rfl) (by as_aux_lemma=>kernel_rfl) (by as_aux_lemma=>kernel_rfl) (fun _ _ _ h=>h) (by rfl) (by assumption) ?_
  simp only[List.setIfInBounds_toArray,List.set_cons_zero,List.set_cons_succ]
  refine Ord.skip (i:=8) (d:=13) rfl rfl (by as_aux_lemma=>kernel_rfl) (by as_aux_lemma=>kernel_rfl) (by as_aux_lemma=>kernel_rfl) (fun _ _ _ h=>h) (by rfl) (by assumption) ?_
  simp only[List.setIfInBounds_toArray,List.set_cons_zero,List.set_cons_succ]
  refine Ord.skip (i:=9) (d:=14) rfl rfl (by as_aux_lemma=>kernel_rfl) (by as_aux_lemma=>kernel_rfl) (by as_aux_lemma=>kernel_rfl) (fun _ _ _ h=>h) (by rfl) (by assumption) ?_
  simp only[List.setIfInBounds_toArray,List.set_cons_zero,List.set_cons_succ]
  refine Ord.skip (i:=10) (d:=15) rfl rfl (by as_aux_lemma=>kernel_rfl) (by as_aux_lemma=>kernel_rfl) (by as_aux_lemma=>kernel_rfl) (fun _ _ _ h=>h) (by rfl) (by assumption) ?_
  simp only[List.setIfInBounds_toArray,List.set_cons_zero,List.set_cons_succ]
  refine Ord.skip (i:=11) (d:=16) rfl rfl (by as_aux_lemma=>kernel_rfl) (by as_aux_lemma=>kernel_rfl) (by as_aux_lemma=>kernel_rfl) (fun _ _ _ h=>h) (by rfl) (by assumption) ?_
  simp only[List.setIfInBounds_toArray,List.set_cons_zero,List.set_cons_succ]
  refine Ord.skip (i:=12) (d:=17) rfl rfl (by as_aux_lemma=>kernel_rfl) (by as_aux_lemma=>kernel_rfl) (by as_aux_lemma=>kernel_rfl) (fun _ _ _ h=>h) (by rfl) (by assumption) ?_
  simp only[List.setIfInBounds_toArray,List.set_cons_zero,List.set_cons_succ]
  refine Ord.skip (i:=13) (d:=18) rfl rfl (by as_aux_lemma=>kernel_rfl) (by as_aux_lemma=>kernel_rfl) (by as_aux_lemma=>kernel_rfl) (fun _ _ _ h=>h) (by rfl) (by assumption) ?_
  simp only[List.setIfInBounds_toArray,List.set_cons_zero,List.set_cons_succ]
  refine Ord.take (i:=14) (d:=19) (v:= .bool false) rfl rfl (by as_aux_lemma=>kernel_rfl) (by as_aux_lemma=>kernel_rfl) (by as_aux_lemma=>kernel_rfl) (fun _ _ _ h=>h) (by rfl) ?hN14 (by assumption) ?_
  case hN14=>intro wx hSw;go_simp;try with_reducible rfl
  try simp only[List.setIfInBounds_toArray,List.set_cons_zero,List.set_cons_succ]
  refine Ord.take (i:=15) (d:=4) (v:=?vN15) rfl rfl (by as_aux_lemma=>kernel_rfl) (by as_aux_lemma=>kernel_rfl) (by as_aux_lemma=>kernel_rfl) (fun _ _ _ h=>h) (by rfl) ?hN15 (by assumption) ?_
  case hN15=>intro wx hSw;go_simp;try with_reducible rfl
  try simp only[List.setIfInBounds_toArray,List.set_cons_zero,List.set_cons_succ]
  refine wpAnyH_done (by as_aux_lemma=>kernel_rfl) ?_ _
  have HS9:=hid (Bn HB1.out hS_v0)
  clear hS_v0
  go_wp2
  go_ret
  exact⟨rfl,HS9.out⟩
end Go.Proofs.YtplinkmagnihmaaDoor
namespace Go.Proofs.YtplinkmagnihmaaDoor
open Go.ChangeShapes Go.WideShapes Go.ChangeAt Go.RowKit Go.Deep
theorem wp_alloc55{o:Oper}{a:Act}{w:World}{K:Act->World->Prop}{Q:Exit->Act->World->Prop}(ho:o.op= .alloc 27)(d:Option Tmp)(hd:o.dst=d)(N:Nat)(hN:N=w.heap.size)(h:K (a.put d (.pointer (some ⟨N,0,none⟩))) (w.alloc (.cells (hdL 0 0 z32).toArray 27))):o.wp Tryd.prog a w K Q:=by
 subst hd hN
 unfold Oper.wp execOp
 simp only[ho,Sem.run_bind,Instr.alloc,Tryd.zero27,newVar,newRow,run_newObj_alloc,Sem.run_pure,Result.andThen_ok,Value.cells]
 exact h
set_option maxHeartbeats 16000000 in
set_option maxRecDepth 100000 in
theorem dwalk_word(h0:Hd)(a:Option Addr)(cap:Nat)(l:List Rec)(w:World)(hcl:h0.2.2.length=32)(hr:Rr w a cap l)(hn:∀r∈l,r.ps.length<=1000):
 Calls Tryd.prog 22 #[.agg (hdV h0).toArray,.slice a l.length cap] w fun e w'=>e= .returned (.tuple #[.agg (hdV (wlk h0 l 0).1).toArray,.int .i64 ((wlk h0 l 0).2.1:Int),.int .i64 (wlk h0 l 0).2.2])∧Below w.heap.size w w':=by
 have hroom:=hr.room
 have hmost:=hr.most
 unfold maxLen at hmost
 have HR:=hid hr
 have HN:=hid hn
 have b1:=bel_alc w (.cells (hdV h0).toArray 27)
 have b2:=bel_alc (w.alloc (.cells (hdV h0).toArray 27)) (.cells (hdL 0 0 z32).toArray 27)
 have s1:(w.alloc (.cells (hdV h0).toArray 27)).heap.size=w.heap.size+1:=by simp
 obtain⟨W0,hW0⟩:∃W0,W0=(w.alloc (.cells (hdV h0).toArray 27)).alloc (.cells (hdL 0 0 z32).toArray 27):=⟨_,rfl⟩
 have HW0:=hid hW0
 have e0:W0.heap[w.heap.size]?=some (.cells (hdV h0).toArray 27):=by rw[hW0];exact(b2.block _ (by rw[s1];omega)).trans (heap_alc w _)
 have e1:W0.heap[w.heap.size+1]?=some (.cells (hdL 0 0 z32).toArray 27):=by
  rw[hW0]
  have:=heap_alc (w.alloc (.cells (hdV h0).toArray 27)) (.cells (hdL 0 0 z32).toArray 27)
  rw[s1] at this
  exact this
 have HE0:=hid e0
 have HE1:=hid e1
 have HB0:Hid (Below w.heap.size w W0):=by rw[hW0];exact Bn b1 b2
 have HS1:Hid (w.heap.size+1=(w.alloc (.cells (hdV h0).toArray 27)).heap.size):=s1.symm
 have HHL:=hid hcl
 obtain⟨len,hle⟩:∃n,n=l.length:=⟨_,rfl⟩
 have HL:=hid hle
 rw[<-hle] at hroom|-
 obtain⟨RR,hRR⟩:∃RR,RR=wlk h0 l 0:=⟨_,rfl⟩
 rw[<-hRR]
 have HRR:=hid hRR
 clear hr hle hn b1 b2 s1 hW0 e0 e1 hcl hRR
 go_enter Tryd.func22,Tryd.ntmps22
 go_wp2_with (first | refine wpList_alloc_to rfl 27 rfl (some 4) rfl _ Tryd.zero27 (w.heap.size+1) HS1.out W0 HW0.out ?_ | fail)
 go_loopw [7] (fun x7 wr=>∃(k:Nat) (h:Hd),k<=len∧x7= .int .i64 (k:Int)∧Hid (h.2.2.length=32)∧Hid (wr.heap[w.heap.size]?=some (.cells (hdV h).toArray 27))∧Hid (wr.heap[w.heap.size+1]?=some (.cells (hdL 0 0 z32).toArray 27))∧Hid (Below w.heap.size w wr)∧Hid (RR=wlk h (l.drop k) k)) (fun x7 _=>len-(intOf x7).toNat)
 case atStart=>exact⟨0,h0,by omega,rfl,HHL,HE0,HE1,HB0,HRR.out⟩
 case round=>
  obtain⟨k,h,hk,rfl,HHL2,HH,HO,HB,HW⟩:=hrel
  clear HE0 HE1 HB0 HHL HRR HW0 HS1
  by_cases hlt:k<len
  ·have hkz:(k:Int)<(len:Int):=by omega
   obtain⟨b,off,rfl,hbw,hc⟩:=HR.out.cells (by rw[<-HL.out];omega)
   have hrg:=(hc k (by rw[<-HL.out];exact hlt))
   have HRG:Hid (wr.rangeAt b (off+k*38) (l.getD k recZ).cs):=fun j v hv=>(HB.out.cell (p:=⟨b,off+k*38+j,none⟩) hbw).trans (hrg j v hv)
   have HBL:Hid (b<wr.heap.size):=Nat.lt_of_lt_of_le hbw HB.out.size
   have hok:=hid (HR.out.get (j:=k) (by rw[<-HL.out];exact hlt))
   have HNK:=hid (HN.out (l.getD k recZ) (by simp[List.getD,List.getElem?_eq_getElem (show k<l.length by rw[<-HL.out];exact hlt)]))
   have HST:=hid (wlk_step h (show k<l.length by rw[<-HL.out];exact hlt))
   generalize l.getD k recZ=x at *
   have HLX:=hid hok.out.len
   have HHV:Hid ((hdV h).length=34):=hdL_len _ _ _ HHL2.out
   obtain⟨N,hN⟩:∃N,N=nxtH h x:=⟨_,rfl⟩
   have HNE:=hid hN
   have hNl:N.2.2.length=32:=by rw[hN];exact nxO_len _ _ _ _
   have HNL:=hid hNl
   have HNV:Hid ((hdV N).length=34):=hdL_len _ _ _ hNl
   have HZS:Hid ((hdL 0 0 z32).toArray.size=(hdV N).toArray.size):=by show _=_;rw[List.size_toArray,List.size_toArray,HNV.out];rfl
   have HHS:Hid ((hdV h).toArray.size=(hdV N).toArray.size):=by show _=_;rw[List.size_toArray,List.size_toArray,HNV.out,HHV.out]
   have HZH:Hid ((hdL 0 0 z32).toArray.size=(hdV h).toArray.size):=by show _=_;rw[List.size_toArray,List.size_toArray,HHV.out];rfl
   have HSN:Hid ((Tryd.prog.info? 27).map (·.size)=some (hdV N).toArray.size):=size_hd hNl
   have HSH:Hid ((Tryd.prog.info? 27).map (·.size)=some (hdV h).toArray.size):=size_hd HHL2.out
   have HON:=hid (all_oneCell_toArray (show ∀u∈hdV N,u.oneCell'=true from hdL_one _ _ _))
   have HOH:=hid (all_oneCell_toArray (show ∀u∈hdV h,u.oneCell'=true from hdL_one _ _ _))
   have HST2:Hid (RR=if fltO h.1 h.2.1 h.2.2 x=0 then wlk N (l.drop (k+1)) (k+1) else (h,k,fltO h.1 h.2.1 h.2.2 x)):=by show _=_;rw[hN];exact HW.out.trans HST.out
   clear hrg hc hbw hN hNl HST
   go_wp2_with fail
   refine wp_region_held_drew (S:=fun V=>Below wr.heap.size wr V) (by kernel_rfl) (Below.refl _ _).drew (fun hS0=>?_)
   generalize wr.drew=v0 at *
   simp only[List.size_toArray,List.length_cons,List.length_nil,Nat.reduceAdd]
   refine Ord.take (i:=0) (d:=17) (v:= .agg (hdV h).toArray) rfl rfl (by as_aux_lemma=>kernel_rfl) (by as_aux_lemma=>kernel_rfl) (by as_aux_lemma=>kernel_rfl) (fun _ _ _ h=>h) (by rfl) ?hA0 (by assumption) ?_
   case hA0=>intro V hSw;exact exec_load 27 (.tmp 2) rfl w.heap.size 0 rfl (load_hd ((hSw.block _ (Array.getElem?_eq_some_iff.1 HH.out).1).trans HH.out) HHL2.out)
   try simp only[List.setIfInBounds_toArray,List.set_cons_zero,List.set_cons_succ]
   refine Ord.take (i:=1) (d:=18) (v:=?v1) rfl rfl (by as_aux_lemma=>kernel_rfl) (by as_aux_lemma=>kernel_rfl) (by as_aux_lemma=>kernel_rfl) (fun _ _ _ h=>h) (by rfl) ?hA1 (by assumption) ?_
   case hA1=>intro V hSw;go_simp;try with_reducible rfl
   try simp only[List.setIfInBounds_toArray,List.set_cons_zero,List.set_cons_succ]
   refine Ord.take (i:=2) (d:=19) (v:=?v2) rfl rfl (by as_aux_lemma=>kernel_rfl) (by as_aux_lemma=>kernel_rfl) (by as_aux_lemma=>kernel_rfl) (fun _ _ _ h=>h) (by rfl) ?hA2 (by assumption) ?_
   case hA2=>intro V hSw;go_simp;try with_reducible rfl
   try simp only[List.setIfInBounds_toArray,List.set_cons_zero,List.set_cons_succ]
   refine Ord.take (i:=3) (d:=20) (v:= .pointer (some ⟨b,off+k*38,none⟩)) rfl rfl (by as_aux_lemma=>kernel_rfl) (by as_aux_lemma=>kernel_rfl) (by as_aux_lemma=>kernel_rfl) (fun _ _ _ h=>h) (by rfl) ?hA3 (by assumption) ?_
   case hA3=>intro V hSw;go_simp;try with_reducible rfl
   try simp only[List.setIfInBounds_toArray,List.set_cons_zero,List.set_cons_succ]
   refine Ord.take (i:=4) (d:=21) (v:= .agg x.cs.toArray) rfl rfl (by as_aux_lemma=>kernel_rfl) (by as_aux_lemma=>kernel_rfl) (by as_aux_lemma=>kernel_rfl) (fun _ _ _ h=>h) (by rfl) ?hA4 (by assumption) ?_
   case hA4=>intro V hSw;exact exec_load 58 (.tmp 20) rfl b (off+k*38) rfl (run_loadVar_mid V b (off+k*38) 58 x.cs _ (range_later HRG.out hSw HBL.out) Tryd.underlying58 rfl (by rw[Rec.cs_len HLX.out];exact Tryd.size58))
   try simp only[List.setIfInBounds_toArray,List.set_cons_zero,List.set_cons_succ]
   refine wpAnyH_ready (rs:= [5,9]) (by as_aux_lemma=>kernel_rfl) (by simp) (AllReadyH.cons rfl (fun K hK=>?_) (AllReadyH.cons rfl (fun K hK=>?_) AllReadyH.nil))
   ·go_simp
    refine(dnext_word h.1 h.2.1 h.2.2 x v0 HHL2.out (hok.out.later (Bn HB.out hS0)) HNK.out).mono ?_
    rintro _ v1 ⟨rfl,hb_v1⟩
    rw[show hdL (nxO h.1 h.2.1 h.2.2 x).1 (nxO h.1 h.2.1 h.2.2 x).2.1 (nxO h.1 h.2.1 h.2.2 x).2.2=hdV N from by rw[HNE.out];rfl]
    have hS_v1:=Bn hS0 hb_v1
    refine hK.out _ _ hS_v1 (fun _=>?_)
    clear hK K
    try simp only[List.setIfInBounds_toArray,List.set_cons_zero,List.set_cons_succ]
    generalize fltO h.1 h.2.1 h.2.2 x=F at *
    refine Ord.take (i:=6) (d:=16) (v:=?v6B) rfl rfl (by as_aux_lemma=>kernel_rfl) (by as_aux_lemma=>kernel_rfl) (by as_aux_lemma=>kernel_rfl) (fun _ _ _ h=>h) (by rfl) ?hB6 (by assumption) ?_
    case hB6=>intro V hSw;go_simp;try with_reducible rfl
    try simp only[List.setIfInBounds_toArray,List.set_cons_zero,List.set_cons_succ]
    refine Ord.take (i:=7) (d:=23) (v:= .agg (hdV N).toArray) rfl rfl (by as_aux_lemma=>kernel_rfl) (by as_aux_lemma=>kernel_rfl) (by as_aux_lemma=>kernel_rfl) (fun _ _ _ h=>h) (by rfl) ?hB7 (by assumption) ?_
    case hB7=>intro V hSw;go_simp;try with_reducible rfl
    try simp only[List.setIfInBounds_toArray,List.set_cons_zero,List.set_cons_succ]
    refine Ord.take (i:=8) (d:=24) (v:=?v8B) rfl rfl (by as_aux_lemma=>kernel_rfl) (by as_aux_lemma=>kernel_rfl) (by as_aux_lemma=>kernel_rfl) (fun _ _ _ h=>h) (by rfl) ?hB8 (by assumption) ?_
    case hB8=>intro V hSw;go_simp;try with_reducible rfl
    try simp only[List.setIfInBounds_toArray,List.set_cons_zero,List.set_cons_succ]
    refine wpAnyH_ready (rs:= [9]) (by as_aux_lemma=>kernel_rfl) (by simp) (AllReadyH.cons rfl (fun K hK=>?_) AllReadyH.nil)
    rw[if_pos (by rfl)]
    refine wp_alloc55 rfl (some 8) rfl v1.heap.size rfl ?_
    have HZv2:=hid (heap_alc v1 (.cells (hdL 0 0 z32).toArray 27))
    have hS_v2:=Bn hS_v1 (bel_alc v1 (.cells (hdL 0 0 z32).toArray 27))
    have HGv2:Hid (wr.heap.size<=v1.heap.size):=hS_v1.size
    refine hK.out _ _ hS_v2 (fun _=>?_)
    clear hK K
    generalize hv2:v1.alloc (.cells (hdL 0 0 z32).toArray 27)=v2 at *
    clear hv2
    try simp only[List.setIfInBounds_toArray,List.set_cons_zero,List.set_cons_succ]
    refine wpAnyH_ready (rs:= [10]) (by as_aux_lemma=>kernel_rfl) (by simp) (AllReadyH.cons rfl (fun K hK=>?_) AllReadyH.nil)
    rw[if_pos (by rfl)]
    refine wp_store_row 27 _ _ rfl v1.heap.size (hdV N).toArray rfl rfl 27 _ HZv2.out HSN.out HZS.out HON.out ?_
    have hS_e:Below wr.heap.size wr (v2.setRow v1.heap.size (hdV N).toArray):=below_setRow hS_v2 HGv2.out _
    refine hK.out _ _ hS_e (fun _=>?_)
    clear hK K
    have HEN:=hid (setRow_heap _ _ _ (hdV N).toArray _ _ HZv2.out)
    generalize v2.setRow v1.heap.size (hdV N).toArray=ve at *
    try simp only[List.setIfInBounds_toArray,List.set_cons_zero,List.set_cons_succ]
    refine Ord.take (i:=11) (d:=9) (v:=?v11B) rfl rfl (by as_aux_lemma=>kernel_rfl) (by as_aux_lemma=>kernel_rfl) (by as_aux_lemma=>kernel_rfl) (fun _ _ _ h=>h) (by rfl) ?hB11 (by assumption) ?_
    case hB11=>intro V hSw;go_simp;try with_reducible rfl
    try simp only[List.setIfInBounds_toArray,List.set_cons_zero,List.set_cons_succ]
    refine wpAnyH_done (by as_aux_lemma=>kernel_rfl) ?_ _
    have HB3:=hid (Bn HB.out hS_e)
    have HH3:=hid ((hS_e.block _ (Array.getElem?_eq_some_iff.1 HH.out).1).trans HH.out)
    have HO3:=hid ((hS_e.block _ (Array.getElem?_eq_some_iff.1 HO.out).1).trans HO.out)
    have HR3:Hid (ve.rangeAt w.heap.size 0 (hdV h)):=fun j v hv=>by
     rw[Nat.zero_add,Joins.cell_of_block HH3.out j,List.getElem?_toArray]
     exact hv
    have HN3:Hid (ve.rangeAt v1.heap.size 0 (hdV N)):=fun j v hv=>by
     rw[Nat.zero_add,Joins.cell_of_block HEN.out j,List.getElem?_toArray]
     exact hv
    by_cases hF:F=0
    ·subst hF
     go_wp2_with (first | refine wpList_load_g rfl 27 _ rfl v1.heap.size 0 rfl (hdV N) _ HN3.out Tryd.underlying27 rfl (by rw[HNV.out];exact Tryd.size27) ?_ | refine wpList_store_rowTo rfl 27 _ _ rfl rfl w.heap.size (hdV N).toArray rfl rfl 27 _ HH3.out HSN.out HHS.out HON.out ?_ | fail)
     go_round
     case rel=>exact⟨k+1,N,by omega,by go_num,HNL,setRow_heap _ _ _ _ _ _ HH3.out,(other_setRow _ _ _ _ (by omega)).trans HO3.out,below_setRow HB3.out (Nat.le_refl _) _,by show _=_;rw[HST2.out];simp⟩
     case measure=>simp[intOf];omega
    ·have HF0:=hid hF
     go_wp2_with (first | refine wpList_load_g rfl 27 _ rfl w.heap.size 0 rfl (hdV h) _ HR3.out Tryd.underlying27 rfl (by rw[HHV.out];exact Tryd.size27) ?_ | refine wpList_store_rowTo rfl 27 _ _ rfl rfl (w.heap.size+1) (hdV h).toArray rfl rfl 27 _ HO3.out HSH.out HZH.out HOH.out ?_ | fail)
     refine bodyPost_ret (results_row_tmp2 rfl _ _ (w.heap.size+1) _ rfl (load_hd (setRow_heap _ _ _ _ _ _ HO3.out) HHL2.out)) rfl ?_
     exact⟨by rw[HST2.out,if_neg HF0.out];rfl,below_setRow HB3.out (by omega) _⟩
   ·rw[if_pos (by rfl)]
    refine wp_alloc55 rfl (some 8) rfl v0.heap.size rfl ?_
    have HZv1:=hid (heap_alc v0 (.cells (hdL 0 0 z32).toArray 27))
    have hS_v1:=Bn hS0 (bel_alc v0 (.cells (hdL 0 0 z32).toArray 27))
    have HGv1:Hid (wr.heap.size<=v0.heap.size):=hS0.size
    refine hK.out _ _ hS_v1 (fun _=>?_)
    clear hK K
    generalize hv1:v0.alloc (.cells (hdL 0 0 z32).toArray 27)=v1 at *
    clear hv1
    try simp only[List.setIfInBounds_toArray,List.set_cons_zero,List.set_cons_succ]
    refine wpAnyH_ready (rs:= [5]) (by as_aux_lemma=>kernel_rfl) (by simp) (AllReadyH.cons rfl (fun K hK=>?_) AllReadyH.nil)
    go_simp
    refine(dnext_word h.1 h.2.1 h.2.2 x v1 HHL2.out (hok.out.later (Bn HB.out hS_v1)) HNK.out).mono ?_
    rintro _ v2 ⟨rfl,hb_v2⟩
    rw[show hdL (nxO h.1 h.2.1 h.2.2 x).1 (nxO h.1 h.2.1 h.2.2 x).2.1 (nxO h.1 h.2.1 h.2.2 x).2.2=hdV N from by rw[HNE.out];rfl]
    have hS_v2:=Bn hS_v1 hb_v2
    refine hK.out _ _ hS_v2 (fun _=>?_)
    clear hK K
    try simp only[List.setIfInBounds_toArray,List.set_cons_zero,List.set_cons_succ]
    have HZv2:=hid ((hb_v2.block _ (Array.getElem?_eq_some_iff.1 HZv1.out).1).trans HZv1.out)
    have HGv2:=HGv1
    generalize fltO h.1 h.2.1 h.2.2 x=F at *
    refine Ord.take (i:=6) (d:=16) (v:=?v6C) rfl rfl (by as_aux_lemma=>kernel_rfl) (by as_aux_lemma=>kernel_rfl) (by as_aux_lemma=>kernel_rfl) (fun _ _ _ h=>h) (by rfl) ?hC6 (by assumption) ?_
    case hC6=>intro V hSw;go_simp;try with_reducible rfl
    try simp only[List.setIfInBounds_toArray,List.set_cons_zero,List.set_cons_succ]
    refine Ord.take (i:=7) (d:=23) (v:= .agg (hdV N).toArray) rfl rfl (by as_aux_lemma=>kernel_rfl) (by as_aux_lemma=>kernel_rfl) (by as_aux_lemma=>kernel_rfl) (fun _ _ _ h=>h) (by rfl) ?hC7 (by assumption) ?_
    case hC7=>intro V hSw;go_simp;try with_reducible rfl
    try simp only[List.setIfInBounds_toArray,List.set_cons_zero,List.set_cons_succ]
    refine Ord.take (i:=8) (d:=24) (v:=?v8C) rfl rfl (by as_aux_lemma=>kernel_rfl) (by as_aux_lemma=>kernel_rfl) (by as_aux_lemma=>kernel_rfl) (fun _ _ _ h=>h) (by rfl) ?hC8 (by assumption) ?_
    case hC8=>intro V hSw;go_simp;try with_reducible rfl
    try simp only[List.setIfInBounds_toArray,List.set_cons_zero,List.set_cons_succ]
    refine wpAnyH_ready (rs:= [10]) (by as_aux_lemma=>kernel_rfl) (by simp) (AllReadyH.cons rfl (fun K hK=>?_) AllReadyH.nil)
    rw[if_pos (by rfl)]
    refine wp_store_row 27 _ _ rfl v0.heap.size (hdV N).toArray rfl rfl 27 _ HZv2.out HSN.out HZS.out HON.out ?_
    have hS_e:Below wr.heap.size wr (v2.setRow v0.heap.size (hdV N).toArray):=below_setRow hS_v2 HGv2.out _
    refine hK.out _ _ hS_e (fun _=>?_)
    clear hK K
    have HEN:=hid (setRow_heap _ _ _ (hdV N).toArray _ _ HZv2.out)
    generalize v2.setRow v0.heap.size (hdV N).toArray=ve at *
    try simp only[List.setIfInBounds_toArray,List.set_cons_zero,List.set_cons_succ]
    refine Ord.take (i:=11) (d:=9) (v:=?v11C) rfl rfl (by as_aux_lemma=>kernel_rfl) (by as_aux_lemma=>kernel_rfl) (by as_aux_lemma=>kernel_rfl) (fun _ _ _ h=>h) (by rfl) ?hC11 (by assumption) ?_
    case hC11=>intro V hSw;go_simp;try with_reducible rfl
    try simp only[List.setIfInBounds_toArray,List.set_cons_zero,List.set_cons_succ]
    refine wpAnyH_done (by as_aux_lemma=>kernel_rfl) ?_ _
    have HB3:=hid (Bn HB.out hS_e)
    have HH3:=hid ((hS_e.block _ (Array.getElem?_eq_some_iff.1 HH.out).1).trans HH.out)
    have HO3:=hid ((hS_e.block _ (Array.getElem?_eq_some_iff.1 HO.out).1).trans HO.out)
    have HR3:Hid (ve.rangeAt w.heap.size 0 (hdV h)):=fun j v hv=>by
     rw[Nat.zero_add,Joins.cell_of_block HH3.out j,List.getElem?_toArray]
     exact hv
    have HN3:Hid (ve.rangeAt v0.heap.size 0 (hdV N)):=fun j v hv=>by
     rw[Nat.zero_add,Joins.cell_of_block HEN.out j,List.getElem?_toArray]
     exact hv
    by_cases hF:F=0
    ·subst hF
     go_wp2_with (first | refine wpList_load_g rfl 27 _ rfl v0.heap.size 0 rfl (hdV N) _ HN3.out Tryd.underlying27 rfl (by rw[HNV.out];exact Tryd.size27) ?_ | refine wpList_store_rowTo rfl 27 _ _ rfl rfl w.heap.size (hdV N).toArray rfl rfl 27 _ HH3.out HSN.out HHS.out HON.out ?_ | fail)
     go_round
     case rel=>exact⟨k+1,N,by omega,by go_num,HNL,setRow_heap _ _ _ _ _ _ HH3.out,(other_setRow _ _ _ _ (by omega)).trans HO3.out,below_setRow HB3.out (Nat.le_refl _) _,by show _=_;rw[HST2.out];simp⟩
     case measure=>simp[intOf];omega
    ·have HF0:=hid hF
     go_wp2_with (first | refine wpList_load_g rfl 27 _ rfl w.heap.size 0 rfl (hdV h) _ HR3.out Tryd.underlying27 rfl (by rw[HHV.out];exact Tryd.size27) ?_ | refine wpList_store_rowTo rfl 27 _ _ rfl rfl (w.heap.size+1) (hdV h).toArray rfl rfl 27 _ HO3.out HSH.out HZH.out HOH.out ?_ | fail)
     refine bodyPost_ret (results_row_tmp2 rfl _ _ (w.heap.size+1) _ rfl (load_hd (setRow_heap _ _ _ _ _ _ HO3.out) HHL2.out)) rfl ?_
     exact⟨by rw[HST2.out,if_neg HF0.out];rfl,below_setRow HB3.out (by omega) _⟩
  ·have hkl:k=len:=by omega
   have hkz:¬(k:Int)<(len:Int):=by omega
   have HHV:Hid ((hdV h).length=34):=hdL_len _ _ _ HHL2.out
   have HR3:Hid (wr.rangeAt w.heap.size 0 (hdV h)):=fun j v hv=>by
    rw[Nat.zero_add,Joins.cell_of_block HH.out j,List.getElem?_toArray]
    exact hv
   have HZH:Hid ((hdL 0 0 z32).toArray.size=(hdV h).toArray.size):=by show _=_;rw[List.size_toArray,List.size_toArray,HHV.out];rfl
   have HSH:Hid ((Tryd.prog.info? 27).map (·.size)=some (hdV h).toArray.size):=size_hd HHL2.out
   have HOH:=hid (all_oneCell_toArray (show ∀u∈hdV h,u.oneCell'=true from hdL_one _ _ _))
   have HEN:Hid (RR=(h,k,0)):=by
    show _=_
    rw[HW.out,List.drop_eq_nil_of_le (by rw[<-HL.out];omega),wlk]
   subst hkl
   go_wp2_with (first | refine wpList_load_g rfl 27 _ rfl w.heap.size 0 rfl (hdV h) _ HR3.out Tryd.underlying27 rfl (by rw[HHV.out];exact Tryd.size27) ?_ | refine wpList_store_rowTo rfl 27 _ _ rfl rfl (w.heap.size+1) (hdV h).toArray rfl rfl 27 _ HO.out HSH.out HZH.out HOH.out ?_ | fail)
   refine bodyPost_ret (results_row_tmp2 rfl _ _ (w.heap.size+1) _ rfl (load_hd (setRow_heap _ _ _ _ _ _ HO.out) HHL2.out)) rfl ?_
   exact⟨by rw[HEN.out];rfl,below_setRow HB.out (by omega) _⟩
end Go.Proofs.YtplinkmagnihmaaDoor
namespace Go.Proofs.YtplinkmagnihmaaDoor
open Go.ChangeShapes Go.WideShapes Go.ChangeAt Go.RowKit Go.Deep Go.Lib
def hsL:Hd->List Rec->List Hd
 | h,[]=> [h]
 | h,r::l=>if fltH h r=0 then h::hsL (nxtH h r) l else [h]
theorem hsL_pos:∀(l:List Rec) (h:Hd),0<(hsL h l).length
 | [],_=>Nat.one_pos
 | r::l,h=>by
   rw[hsL]
   split<;>simp
theorem hsL_le:∀(l:List Rec) (h:Hd),(hsL h l).length<=l.length+1
 | [],_=>Nat.le_refl _
 | r::l,h=>by
   rw[hsL]
   split
   ·have:=hsL_le l (nxtH h r)
    simp only[List.length_cons]
    omega
   ·simp
theorem hsL_32:∀(l:List Rec) (h:Hd),h.2.2.length=32->∀y∈hsL h l,y.2.2.length=32
 | [],h,q,y,hy=>by rw[List.mem_singleton.1 hy];exact q
 | r::l,h,q,y,hy=>by
   rw[hsL] at hy
   split at hy
   ·rcases List.mem_cons.1 hy with rfl | hy
    ·exact q
    ·exact hsL_32 l _ (nxO_len _ _ _ _) y hy
   ·rw[List.mem_singleton.1 hy];exact q
theorem hsL_drop{l:List Rec}{k:Nat}(h:Hd)(hk:k<l.length):hsL h (l.drop k)=if fltH h (l.getD k recZ)=0 then h::hsL (nxtH h (l.getD k recZ)) (l.drop (k+1)) else [h]:=by
 have e:l.drop k=l.getD k recZ::l.drop (k+1):=by
  rw[List.drop_eq_getElem_cons hk]
  simp[List.getD,List.getElem?_eq_getElem hk]
 rw[e,hsL]
theorem flat_hd(l:List Hd)(x:Hd):(l++ [x]).flatMap hdV=l.flatMap hdV++hdV x:=by simp
theorem Tryd.info27:(Tryd.prog.info? 27).map (fun i=>(i.zero,i.size,i.bytes))=some (some (.agg (hdL 0 0 z32).toArray),34,48):=by kernel_rfl
def HsP(w:World)(l:List Rec)(e:Ending)(w':World):Prop:=
 ∃a cap,e= .returned (.slice a (hsL hdZ l).length cap)∧Rw 34 hdV hdZ w' a cap (hsL hdZ l)∧Below w.heap.size w w'
theorem hd_row{W:World}{B:Nat}{v:Value}{L:List Hd}(h:W.ownsRow B 27 34 v L.length (L.flatMap hdV))(h32:∀y∈L,y.2.2.length=32):∃a cap,v= .slice a L.length cap∧Rw 34 hdV hdZ W a cap L:=by
 obtain⟨a,cap,hv,hr,_⟩:=Rw.own (z:=hdZ) h (fun y hy=>hdV_len (h32 y hy))
 exact⟨a,cap,hv,hr⟩
set_option maxHeartbeats 12800000 in
set_option maxRecDepth 100000 in
theorem heads_word(a:Option Addr)(cap:Nat)(l:List Rec)(w:World)(hr:Rr w a cap l)(hL:Sh.Laid w)(hn:∀r∈l,r.ps.length<=1000)(hfew:l.length<=100000):
 Calls Tryd.prog 31 #[.slice a l.length cap] w (HsP w l):=by
 obtain⟨i0,hi,hz0,hz1,hz2⟩:=info_parts Tryd.info27
 have hroom:=hr.room
 have hmost:=hr.most
 unfold maxLen at hmost
 have HR:=hid hr
 have HLA:=hid hL
 have HN:=hid hn
 obtain⟨len,hle⟩:∃n,n=l.length:=⟨_,rfl⟩
 have HL:=hid hle
 have HPP:Hid (∀e w',HsP w l e w' ↔ ∃a cap,e= .returned (.slice a (hsL hdZ l).length cap)∧Rw 34 hdV hdZ w' a cap (hsL hdZ l)∧Below w.heap.size w w'):=fun e w'=>Iff.rfl
 generalize HsP w l=PP at *
 rw[<-hle] at hroom hfew|-
 clear hr hL hn hle
 have HB0:=hid (bel_alc w (.cells (hdV hdZ).toArray 27))
 have HO0:Hid ((w.alloc (.cells (hdV hdZ).toArray 27)).ownsRow w.heap.size 27 34 (.slice (some ⟨w.heap.size,0,none⟩) 1 1) ([hdZ]:List Hd).length (([hdZ]:List Hd).flatMap hdV)):=by
  refine⟨rfl,.inr ⟨w.heap.size,1,(hdV hdZ).toArray,rfl,Nat.le_refl _,heap_alc w _,Nat.le_refl _,by unfold maxLen;omega,rfl,rfl⟩⟩
 obtain⟨W1,hW1⟩:∃W1,W1=w.alloc (.cells (hdV hdZ).toArray 27):=⟨_,rfl⟩
 rw[<-hW1] at HB0 HO0
 have HW1:=hid hW1
 have HZR:=hid Tryd.zero58
 have HZH:=hid Tryd.zero27
 clear hW1
 go_enter Tryd.func31,Tryd.ntmps31
 go_wp2
 change Code.wp _ _ _ _ (w.alloc (.cells (hdV hdZ).toArray 27))
 rw[<-HW1.out]
 go_loopw [3,12] (fun x3 x12 wr=>∃(k:Nat) (h:Hd) (pre:List Hd),k<=len∧x12= .int .i64 (k:Int)∧Hid (pre.length=k)∧Hid (hsL hdZ l=pre++hsL h (l.drop k))∧Hid (h.2.2.length=32)∧Hid (∀y∈pre,y.2.2.length=32)∧Hid (wr.ownsRow w.heap.size 27 34 x3 (pre++ [h]).length ((pre++ [h]).flatMap hdV))∧Hid (Below w.heap.size w wr)) (fun _ x12 _=>len-(RowKit.intOf x12).toNat)
 case atStart=>exact⟨0,hdZ,[],by omega,rfl,rfl,rfl,rfl,(fun y hy=>by cases hy),HO0.out,HB0.out⟩
 case round=>
  obtain⟨k,h,pre,hk,rfl,HPL,HSP,HHL,HPR,HO,HB⟩:=hrel
  have hlen:(pre++ [h]).length=k+1:=by rw[List.length_append,HPL.out];rfl
  have HPR2:Hid (∀y∈pre++ [h],y.2.2.length=32):=fun y hy=>by
   rcases List.mem_append.1 hy with hy | hy
   ·exact HPR.out y hy
   ·rw[List.mem_singleton.1 hy];exact HHL.out
  obtain⟨a3,cap3,hv3,hr3⟩:=hd_row HO.out HPR2.out
  obtain⟨g,o3,ha3,hgw,hc3⟩:=hr3.cells (by rw[hlen];exact Nat.succ_pos _)
  have hroom3:=hr3.room
  have hmost3:=hr3.most
  unfold maxLen at hmost3
  obtain⟨n1,hn1⟩:∃n1,n1=(pre++ [h]).length:=⟨_,rfl⟩
  have hk1:(k:Int)<(n1:Int):=by omega
  have hn5:n1<=100001:=by omega
  have HN1:Hid (n1=k+1):=hn1.trans hlen
  rw[<-hn1] at hv3 hroom3 HO
  subst ha3
  subst hv3
  have hrh:=hc3 k (by rw[hlen];exact Nat.lt_succ_self _)
  rw[show(pre++ [h]).getD k hdZ=h from by simp[List.getD,<-HPL.out]] at hrh
  have HRH:=hid hrh
  have HGW:=hid hgw
  have HR3:=hid hr3
  have HHV:=hid (hdV_len HHL.out)
  have HNL1:=hid hn1
  have HLEN:=hid hlen
  clear hrh hgw hc3 hr3 hn1 hlen
  by_cases hlt:k<len
  ·have hkz:(k:Int)<(len:Int):=by omega
   obtain⟨b,off,rfl,hbw,hc⟩:=HR.out.cells (by rw[<-HL.out];omega)
   have hrg:=hc k (by rw[<-HL.out];exact hlt)
   have hrv:=HR.out.get (j:=k) (by rw[<-HL.out];exact hlt)
   have HNK:=hid (HN.out (l.getD k recZ) (by simp[List.getD,List.getElem?_eq_getElem (show k<l.length by rw[<-HL.out];exact hlt)]))
   have HST:=hid (hsL_drop h (show k<l.length by rw[<-HL.out];exact hlt))
   obtain⟨x,hx⟩:∃x,x=l.getD k recZ:=⟨_,rfl⟩
   rw[<-hx] at hrg hrv HNK HST
   have HRG:=hid (range_later hrg HB.out hbw)
   have HRV:=hid hrv
   have HLX:=hid (Rec.cs_len hrv.len)
   have HRS:=hid (size_recs hrv.len)
   obtain⟨N,hN⟩:∃N,N=nxtH h x:=⟨_,rfl⟩
   have HNE:=hid hN
   have hNl:N.2.2.length=32:=by rw[hN];exact nxO_len _ _ _ _
   have HNL:=hid hNl
   have HNV:=hid (hdV_len hNl)
   have HSN:Hid ((Tryd.prog.info? 27).map (·.size)=some (hdV N).toArray.size):=size_hd hNl
   have HZS:Hid ((hdL 0 0 z32).toArray.size=(hdV N).toArray.size):=by show _=_;rw[List.size_toArray,List.size_toArray,HNV.out];rfl
   have HON:=hid (all_oneCell_toArray (show ∀u∈hdV N,u.oneCell'=true from hdL_one _ _ _))
   clear hrg hrv hc hbw hx hN hNl
   obtain⟨T,hT⟩:∃T,T=wr.heap.size:=⟨_,rfl⟩
   have HTQ:=hid hT
   clear hT
   go_wp2_with (first | refine wpList_load_P rfl 58 _ rfl b (off+k*38) rfl x.cs _ HRG.out Tryd.underlying58 rfl (by rw[HLX.out];exact Tryd.size58) ?_ | refine wpList_alloc_W rfl 58 rfl (some 5) rfl _ HZR.out T HTQ.out ?_ | fail)
   intro V1 HG1 HBl1 HS1
   go_wp2_with (first | refine wpList_store_W rfl 58 _ _ rfl rfl T x.cs.toArray rfl rfl 58 _ HG1.out HRS.out (by rw[List.size_toArray,List.size_toArray,HLX.out];rfl) (all_oneCell_toArray (Rec.cs_one _)) ?_ | fail)
   intro V2 HG2 HGR2 HS2
   have hb2:Below wr.heap.size wr V2:=by
    rw[<-HTQ.out]
    exact HBl1.out.trans (bel_grown HGR2.out (Nat.le_refl _) (by rw[HTQ.out];exact HBl1.out.size))
   have HB2:=hid (Bn HB.out hb2)
   have HO2:=hid (own_later HO.out hb2)
   have HRH2:=hid (fun X (hX:Below V2.heap.size V2 X)=>range_later (range_later HRH.out hb2 HGW.out) hX (Nat.lt_of_lt_of_le HGW.out hb2.size))
   have HX2:=hid (fun X (hX:Below V2.heap.size V2 X)=>blk_range (blk_later HG2.out hX))
   have HNW:=hid (fun V (hV:Below V2.heap.size V2 V)=>next_word h.1 h.2.1 h.2.2 x V HHL.out (HRV.out.later (Bn HB2.out hV)) (HLA.out.later (Bn HB2.out hV)) HNK.out)
   obtain⟨F,hF⟩:∃F,F=fltO h.1 h.2.1 h.2.2 x:=⟨_,rfl⟩
   rw[<-hF] at HNW
   have HST2:Hid (hsL h (l.drop k)=if F=0 then h::hsL N (l.drop (k+1)) else [h]):=by show _=_;rw[HST.out,hF,HNE.out];rfl
   have HNN:Hid (∀V:World,hdL (nxO h.1 h.2.1 h.2.2 x).1 (nxO h.1 h.2.1 h.2.2 x).2.1 (nxO h.1 h.2.1 h.2.2 x).2.2=hdV N):=fun V=>by rw[HNE.out];rfl
   clear hb2 hF HG1 HBl1 HS1 HGR2 HS2 HG2 HB HO HRH HGW HRG HTQ HST HR3
   by_cases h0:F=0
   ·subst h0
    rw[if_pos rfl] at HST2
    go_wp2_with fail
    refine wp_region_held_drew (S:=fun X=>Below V2.heap.size V2 X) (by kernel_rfl) (Below.refl _ _).drew (fun hS_v0=>?_)
    have hd_v0:Below V2.heap.size V2 V2.drew:=(Below.refl _ _).drew
    generalize V2.drew=v0 at *
    simp only[List.size_toArray,List.length_cons,List.length_nil,Nat.reduceAdd]
    clear hd_v0
    refine Ord.take (i:=0) (d:=18) (v:=?vM0) rfl rfl (by as_aux_lemma=>kernel_rfl) (by as_aux_lemma=>kernel_rfl) (by as_aux_lemma=>kernel_rfl) (fun _ _ _ h=>h) (by rfl) ?hM0 (by assumption) ?_
    case hM0=>intro wx hSw;go_simp;try with_reducible rfl
    try simp only[List.setIfInBounds_toArray,List.set_cons_zero,List.set_cons_succ]
    refine Ord.take (i:=1) (d:=19) (v:=?vM1) rfl rfl (by as_aux_lemma=>kernel_rfl) (by as_aux_lemma=>kernel_rfl) (by as_aux_lemma=>kernel_rfl) (fun _ _ _ h=>h) (by rfl) ?hM1 (by assumption) ?_
    case hM1=>intro wx hSw;go_simp;try with_reducible rfl
    try simp only[List.setIfInBounds_toArray,List.set_cons_zero,List.set_cons_succ]
    refine Ord.take (i:=2) (d:=20) (v:= .pointer (some ⟨g,o3+k*34,none⟩)) rfl rfl (by as_aux_lemma=>kernel_rfl) (by as_aux_lemma=>kernel_rfl) (by as_aux_lemma=>kernel_rfl) (fun _ _ _ h=>h) (by rfl) ?hM2 (by assumption) ?_
    case hM2=>intro wx hSw;go_simp;try with_reducible rfl
    try simp only[List.setIfInBounds_toArray,List.set_cons_zero,List.set_cons_succ]
    refine Ord.take (i:=3) (d:=21) (v:= .agg (hdV h).toArray) rfl rfl (by as_aux_lemma=>kernel_rfl) (by as_aux_lemma=>kernel_rfl) (by as_aux_lemma=>kernel_rfl) (fun _ _ _ h=>h) (by rfl) ?hM3 (by assumption) ?_
    case hM3=>intro wx hSw;exact exec_load 27 (.tmp 20) rfl g (o3+k*34) rfl (run_loadVar_mid wx g (o3+k*34) 27 (hdV h) _ (HRH2.out _ hSw) Tryd.underlying27 rfl (by rw[HHV.out];exact Tryd.size27))
    try simp only[List.setIfInBounds_toArray,List.set_cons_zero,List.set_cons_succ]
    refine Ord.take (i:=4) (d:=22) (v:= .agg x.cs.toArray) rfl rfl (by as_aux_lemma=>kernel_rfl) (by as_aux_lemma=>kernel_rfl) (by as_aux_lemma=>kernel_rfl) (fun _ _ _ h=>h) (by rfl) ?hM4 (by assumption) ?_
    case hM4=>intro wx hSw;exact exec_load 58 (.tmp 5) rfl T 0 rfl (run_loadVar_mid wx T 0 58 x.cs _ (HX2.out _ hSw) Tryd.underlying58 rfl (by rw[HLX.out];exact Tryd.size58))
    try simp only[List.setIfInBounds_toArray,List.set_cons_zero,List.set_cons_succ]
    refine wpAnyH_ready (rs:= [5,9]) (by as_aux_lemma=>kernel_rfl) (by simp) (AllReadyH.cons rfl (fun K hK=>?_) (AllReadyH.cons rfl (fun K hK=>?_) (AllReadyH.nil)))
    ·go_simp
     refine(HNW.out v0 hS_v0).mono ?_
     rintro _ v1 ⟨rfl,hb_v1⟩
     rw[HNN.out v1]
     have hS_v1:Below V2.heap.size V2 v1:=Bn hS_v0 hb_v1
     have HQv1:=hid hb_v1
     refine hK.out _ _ hS_v1 (fun _=>?_)
     clear hK K hb_v1
     try simp only[List.setIfInBounds_toArray,List.set_cons_zero,List.set_cons_succ]
     refine Ord.take (i:=6) (d:=17) (v:= .tuple #[.agg (hdV N).toArray,.int .i64 0]) rfl rfl (by as_aux_lemma=>kernel_rfl) (by as_aux_lemma=>kernel_rfl) (by as_aux_lemma=>kernel_rfl) (fun _ _ _ h=>h) (by rfl) ?hA6 (by assumption) ?_
     case hA6=>intro wx hSw;go_simp;try with_reducible rfl
     try simp only[List.setIfInBounds_toArray,List.set_cons_zero,List.set_cons_succ]
     refine Ord.take (i:=7) (d:=24) (v:= .agg (hdV N).toArray) rfl rfl (by as_aux_lemma=>kernel_rfl) (by as_aux_lemma=>kernel_rfl) (by as_aux_lemma=>kernel_rfl) (fun _ _ _ h=>h) (by rfl) ?hA7 (by assumption) ?_
     case hA7=>intro wx hSw;go_simp;try with_reducible rfl
     try simp only[List.setIfInBounds_toArray,List.set_cons_zero,List.set_cons_succ]
     refine Ord.take (i:=8) (d:=25) (v:= .int .i64 0) rfl rfl (by as_aux_lemma=>kernel_rfl) (by as_aux_lemma=>kernel_rfl) (by as_aux_lemma=>kernel_rfl) (fun _ _ _ h=>h) (by rfl) ?hA8 (by assumption) ?_
     case hA8=>intro wx hSw;go_simp;try with_reducible rfl
     try simp only[List.setIfInBounds_toArray,List.set_cons_zero,List.set_cons_succ]
     refine wpAnyH_ready (rs:= [9]) (by as_aux_lemma=>kernel_rfl) (by simp) (AllReadyH.cons rfl (fun K hK=>?_) (AllReadyH.nil))
     rw[if_pos (by rfl)]
     obtain⟨T6,hT6⟩:∃T6,T6=v1.heap.size:=⟨_,rfl⟩
     refine wp_alloc55 rfl (some 6) rfl T6 hT6 ?_
     have HZ6:Hid ((v1.alloc (.cells (hdL 0 0 z32).toArray 27)).heap[T6]?=some (.cells (hdL 0 0 z32).toArray 27)):=by show _=_;rw[hT6];exact heap_alc v1 _
     have hS_v2:Below V2.heap.size V2 (v1.alloc (.cells (hdL 0 0 z32).toArray 27)):=Bn hS_v1 (bel_alc v1 _)
     have HGE:Hid (V2.heap.size<=T6):=by show _<=_;rw[hT6];exact hS_v1.size
     refine hK.out _ _ hS_v2 (fun _=>?_)
     clear hK K hT6
     generalize v1.alloc (.cells (hdL 0 0 z32).toArray 27)=v2 at *
     try simp only[List.setIfInBounds_toArray,List.set_cons_zero,List.set_cons_succ]
     refine wpAnyH_ready (rs:= [10]) (by as_aux_lemma=>kernel_rfl) (by simp) (AllReadyH.cons rfl (fun K hK=>?_) (AllReadyH.nil))
     rw[if_pos (by rfl)]
     refine wp_store_row 27 _ _ rfl T6 (hdV N).toArray rfl rfl 27 _ HZ6.out HSN.out HZS.out HON.out ?_
     have hS_v3:Below V2.heap.size V2 (v2.setRow T6 (hdV N).toArray):=below_setRow hS_v2 HGE.out _
     refine hK.out _ _ hS_v3 (fun _=>?_)
     clear hK K
     have HEN:=hid (setRow_heap _ _ _ (hdV N).toArray _ _ HZ6.out)
     generalize v2.setRow T6 (hdV N).toArray=v3 at *
     try simp only[List.setIfInBounds_toArray,List.set_cons_zero,List.set_cons_succ]
     refine Ord.take (i:=11) (d:=7) (v:= .int .i64 0) rfl rfl (by as_aux_lemma=>kernel_rfl) (by as_aux_lemma=>kernel_rfl) (by as_aux_lemma=>kernel_rfl) (fun _ _ _ h=>h) (by rfl) ?hA11 (by assumption) ?_
     case hA11=>intro wx hSw;go_simp;try with_reducible rfl
     try simp only[List.setIfInBounds_toArray,List.set_cons_zero,List.set_cons_succ]
     refine wpAnyH_done (by as_aux_lemma=>kernel_rfl) ?_ _
     have HS9:=hid hS_v3
     clear hS_v3 hS_v2 hS_v1 hS_v0
     have HO9:=hid (own_later HO2.out HS9.out)
     have HB9:=hid (Bn HB2.out HS9.out)
     have HR9:=hid (blk_range HEN.out)
     have HPB:Hid (w.heap.size<=v3.heap.size):=HB9.out.size
     obtain⟨W9,hW9⟩:∃W9,W9=v3.alloc (.cells (hdV N).toArray 27):=⟨_,rfl⟩
     have HWN:=hid hW9
     have HB10:Hid (Below v3.heap.size v3 W9):=by show Below _ _ _;rw[hW9];exact bel_alc v3 _
     have HG10:Hid (W9.heap[v3.heap.size]?=some (.cells (hdV N).toArray 27)):=by show _=_;rw[hW9];exact heap_alc v3 _
     have HO10:=hid (own_later HO9.out HB10.out)
     clear hW9
     go_wp2_with (first | refine wpList_load_P rfl 27 _ rfl T6 0 rfl (hdV N) _ HR9.out Tryd.underlying27 rfl (by rw[HNV.out];exact Tryd.size27) ?_ | (refine wpList_buildOne rfl 70 27 _ rfl (some 30) rfl (hdV N).toArray i0 _ Tryd.underlying70 hi hz0 (by rw[hz1,List.size_toArray,HNV.out]) (by rw[List.size_toArray,HNV.out];decide) (by rw[List.size_toArray,HNV.out];decide) rfl ?_;rw[<-HWN.out]) | (at_builtin;refine wpList_append_own _ rfl _ _ 70 rfl w.heap.size 27 i0 _ 34 48 Tryd.underlying70 hi hz0 hz1 hz2 rfl (by decide) _ n1 _ rfl HO10.out ⟨v3.heap.size,0,none⟩ 1 1 (hdV N) rfl (by rw[HNV.out]) (fun j u hu=>(by rw[add_plain,Nat.zero_add];exact(Joins.cell_of_block HG10.out j).trans (by rw[List.getElem?_toArray];exact hu))) (hdL_one _ _ _) (by unfold maxLen;omega) (by omega) (Nat.le_trans HPB.out HB10.out.size) ?_) | fail)
     intro v' V9 hro hgr _
     have HRO:Hid (V9.ownsRow w.heap.size 27 34 v' ((pre++ [h])++ [N]).length (((pre++ [h])++ [N]).flatMap hdV)):=by
      show World.ownsRow _ _ _ _ _ _ _
      rw[List.length_append,<-HNL1.out,flat_hd,flat_hd,List.append_assoc]
      simpa using hro
     have HBZ:Hid (Below w.heap.size w V9):=(Bn HB9.out HB10.out).grown hgr (Bn HB9.out HB10.out).size (fun j hj=>(HO10.out.lt j hj).1)
     clear hro hgr
     go_wp2
     go_round
     case rel=>exact⟨k+1,N,pre++ [h],by omega,by go_num,HLEN.out,(by show _=_;rw[HSP.out,HST2.out];simp),HNL.out,HPR2.out,HRO.out,HBZ.out⟩
     case measure=>simp[RowKit.intOf];omega
    ·rw[if_pos (by rfl)]
     obtain⟨T6,hT6⟩:∃T6,T6=v0.heap.size:=⟨_,rfl⟩
     refine wp_alloc55 rfl (some 6) rfl T6 hT6 ?_
     have HZ60:Hid ((v0.alloc (.cells (hdL 0 0 z32).toArray 27)).heap[T6]?=some (.cells (hdL 0 0 z32).toArray 27)):=by show _=_;rw[hT6];exact heap_alc v0 _
     have hS_v1:Below V2.heap.size V2 (v0.alloc (.cells (hdL 0 0 z32).toArray 27)):=Bn hS_v0 (bel_alc v0 _)
     have HGE:Hid (V2.heap.size<=T6):=by show _<=_;rw[hT6];exact hS_v0.size
     refine hK.out _ _ hS_v1 (fun _=>?_)
     clear hK K hT6
     generalize v0.alloc (.cells (hdL 0 0 z32).toArray 27)=v1 at *
     try simp only[List.setIfInBounds_toArray,List.set_cons_zero,List.set_cons_succ]
     refine wpAnyH_ready (rs:= [5]) (by as_aux_lemma=>kernel_rfl) (by simp) (AllReadyH.cons rfl (fun K hK=>?_) (AllReadyH.nil))
     go_simp
     refine(HNW.out v1 hS_v1).mono ?_
     rintro _ v2 ⟨rfl,hb_v2⟩
     rw[HNN.out v2]
     have hS_v2:Below V2.heap.size V2 v2:=Bn hS_v1 hb_v2
     have HQv2:=hid hb_v2
     refine hK.out _ _ hS_v2 (fun _=>?_)
     clear hK K hb_v2
     try simp only[List.setIfInBounds_toArray,List.set_cons_zero,List.set_cons_succ]
     have HZ6:=hid (blk_later HZ60.out HQv2.out)
     clear HZ60
     refine Ord.take (i:=6) (d:=17) (v:= .tuple #[.agg (hdV N).toArray,.int .i64 0]) rfl rfl (by as_aux_lemma=>kernel_rfl) (by as_aux_lemma=>kernel_rfl) (by as_aux_lemma=>kernel_rfl) (fun _ _ _ h=>h) (by rfl) ?hB6 (by assumption) ?_
     case hB6=>intro wx hSw;go_simp;try with_reducible rfl
     try simp only[List.setIfInBounds_toArray,List.set_cons_zero,List.set_cons_succ]
     refine Ord.take (i:=7) (d:=24) (v:= .agg (hdV N).toArray) rfl rfl (by as_aux_lemma=>kernel_rfl) (by as_aux_lemma=>kernel_rfl) (by as_aux_lemma=>kernel_rfl) (fun _ _ _ h=>h) (by rfl) ?hB7 (by assumption) ?_
     case hB7=>intro wx hSw;go_simp;try with_reducible rfl
     try simp only[List.setIfInBounds_toArray,List.set_cons_zero,List.set_cons_succ]
     refine Ord.take (i:=8) (d:=25) (v:= .int .i64 0) rfl rfl (by as_aux_lemma=>kernel_rfl) (by as_aux_lemma=>kernel_rfl) (by as_aux_lemma=>kernel_rfl) (fun _ _ _ h=>h) (by rfl) ?hB8 (by assumption) ?_
     case hB8=>intro wx hSw;go_simp;try with_reducible rfl
     try simp only[List.setIfInBounds_toArray,List.set_cons_zero,List.set_cons_succ]
     refine wpAnyH_ready (rs:= [10]) (by as_aux_lemma=>kernel_rfl) (by simp) (AllReadyH.cons rfl (fun K hK=>?_) (AllReadyH.nil))
     rw[if_pos (by rfl)]
     refine wp_store_row 27 _ _ rfl T6 (hdV N).toArray rfl rfl 27 _ HZ6.out HSN.out HZS.out HON.out ?_
     have hS_v3:Below V2.heap.size V2 (v2.setRow T6 (hdV N).toArray):=below_setRow hS_v2 HGE.out _
     refine hK.out _ _ hS_v3 (fun _=>?_)
     clear hK K
     have HEN:=hid (setRow_heap _ _ _ (hdV N).toArray _ _ HZ6.out)
     generalize v2.setRow T6 (hdV N).toArray=v3 at *
     try simp only[List.setIfInBounds_toArray,List.set_cons_zero,List.set_cons_succ]
     refine Ord.take (i:=11) (d:=7) (v:= .int .i64 0) rfl rfl (by as_aux_lemma=>kernel_rfl) (by as_aux_lemma=>kernel_rfl) (by as_aux_lemma=>kernel_rfl) (fun _ _ _ h=>h) (by rfl) ?hB11 (by assumption) ?_
     case hB11=>intro wx hSw;go_simp;try with_reducible rfl
     try simp only[List.setIfInBounds_toArray,List.set_cons_zero,List.set_cons_succ]
     refine wpAnyH_done (by as_aux_lemma=>kernel_rfl) ?_ _
     have HS9:=hid hS_v3
     clear hS_v3 hS_v2 hS_v1 hS_v0
     have HO9:=hid (own_later HO2.out HS9.out)
     have HB9:=hid (Bn HB2.out HS9.out)
     have HR9:=hid (blk_range HEN.out)
     have HPB:Hid (w.heap.size<=v3.heap.size):=HB9.out.size
     obtain⟨W9,hW9⟩:∃W9,W9=v3.alloc (.cells (hdV N).toArray 27):=⟨_,rfl⟩
     have HWN:=hid hW9
     have HB10:Hid (Below v3.heap.size v3 W9):=by show Below _ _ _;rw[hW9];exact bel_alc v3 _
     have HG10:Hid (W9.heap[v3.heap.size]?=some (.cells (hdV N).toArray 27)):=by show _=_;rw[hW9];exact heap_alc v3 _
     have HO10:=hid (own_later HO9.out HB10.out)
     clear hW9
     go_wp2_with (first | refine wpList_load_P rfl 27 _ rfl T6 0 rfl (hdV N) _ HR9.out Tryd.underlying27 rfl (by rw[HNV.out];exact Tryd.size27) ?_ | (refine wpList_buildOne rfl 70 27 _ rfl (some 30) rfl (hdV N).toArray i0 _ Tryd.underlying70 hi hz0 (by rw[hz1,List.size_toArray,HNV.out]) (by rw[List.size_toArray,HNV.out];decide) (by rw[List.size_toArray,HNV.out];decide) rfl ?_;rw[<-HWN.out]) | (at_builtin;refine wpList_append_own _ rfl _ _ 70 rfl w.heap.size 27 i0 _ 34 48 Tryd.underlying70 hi hz0 hz1 hz2 rfl (by decide) _ n1 _ rfl HO10.out ⟨v3.heap.size,0,none⟩ 1 1 (hdV N) rfl (by rw[HNV.out]) (fun j u hu=>(by rw[add_plain,Nat.zero_add];exact(Joins.cell_of_block HG10.out j).trans (by rw[List.getElem?_toArray];exact hu))) (hdL_one _ _ _) (by unfold maxLen;omega) (by omega) (Nat.le_trans HPB.out HB10.out.size) ?_) | fail)
     intro v' V9 hro hgr _
     have HRO:Hid (V9.ownsRow w.heap.size 27 34 v' ((pre++ [h])++ [N]).length (((pre++ [h])++ [N]).flatMap hdV)):=by
      show World.ownsRow _ _ _ _ _ _ _
      rw[List.length_append,<-HNL1.out,flat_hd,flat_hd,List.append_assoc]
      simpa using hro
     have HBZ:Hid (Below w.heap.size w V9):=(Bn HB9.out HB10.out).grown hgr (Bn HB9.out HB10.out).size (fun j hj=>(HO10.out.lt j hj).1)
     clear hro hgr
     go_wp2
     go_round
     case rel=>exact⟨k+1,N,pre++ [h],by omega,by go_num,HLEN.out,(by show _=_;rw[HSP.out,HST2.out];simp),HNL.out,HPR2.out,HRO.out,HBZ.out⟩
     case measure=>simp[RowKit.intOf];omega
   ·have H0:=hid h0
    rw[if_neg h0] at HST2
    clear h0
    go_wp2_with fail
    refine wp_region_held_drew (S:=fun X=>Below V2.heap.size V2 X) (by kernel_rfl) (Below.refl _ _).drew (fun hS_v0=>?_)
    have hd_v0:Below V2.heap.size V2 V2.drew:=(Below.refl _ _).drew
    generalize V2.drew=v0 at *
    simp only[List.size_toArray,List.length_cons,List.length_nil,Nat.reduceAdd]
    clear hd_v0
    refine Ord.take (i:=0) (d:=18) (v:=?vM0) rfl rfl (by as_aux_lemma=>kernel_rfl) (by as_aux_lemma=>kernel_rfl) (by as_aux_lemma=>kernel_rfl) (fun _ _ _ h=>h) (by rfl) ?hM0 (by assumption) ?_
    case hM0=>intro wx hSw;go_simp;try with_reducible rfl
    try simp only[List.setIfInBounds_toArray,List.set_cons_zero,List.set_cons_succ]
    refine Ord.take (i:=1) (d:=19) (v:=?vM1) rfl rfl (by as_aux_lemma=>kernel_rfl) (by as_aux_lemma=>kernel_rfl) (by as_aux_lemma=>kernel_rfl) (fun _ _ _ h=>h) (by rfl) ?hM1 (by assumption) ?_
    case hM1=>intro wx hSw;go_simp;try with_reducible rfl
    try simp only[List.setIfInBounds_toArray,List.set_cons_zero,List.set_cons_succ]
    refine Ord.take (i:=2) (d:=20) (v:= .pointer (some ⟨g,o3+k*34,none⟩)) rfl rfl (by as_aux_lemma=>kernel_rfl) (by as_aux_lemma=>kernel_rfl) (by as_aux_lemma=>kernel_rfl) (fun _ _ _ h=>h) (by rfl) ?hM2 (by assumption) ?_
    case hM2=>intro wx hSw;go_simp;try with_reducible rfl
    try simp only[List.setIfInBounds_toArray,List.set_cons_zero,List.set_cons_succ]
    refine Ord.take (i:=3) (d:=21) (v:= .agg (hdV h).toArray) rfl rfl (by as_aux_lemma=>kernel_rfl) (by as_aux_lemma=>kernel_rfl) (by as_aux_lemma=>kernel_rfl) (fun _ _ _ h=>h) (by rfl) ?hM3 (by assumption) ?_
    case hM3=>intro wx hSw;exact exec_load 27 (.tmp 20) rfl g (o3+k*34) rfl (run_loadVar_mid wx g (o3+k*34) 27 (hdV h) _ (HRH2.out _ hSw) Tryd.underlying27 rfl (by rw[HHV.out];exact Tryd.size27))
    try simp only[List.setIfInBounds_toArray,List.set_cons_zero,List.set_cons_succ]
    refine Ord.take (i:=4) (d:=22) (v:= .agg x.cs.toArray) rfl rfl (by as_aux_lemma=>kernel_rfl) (by as_aux_lemma=>kernel_rfl) (by as_aux_lemma=>kernel_rfl) (fun _ _ _ h=>h) (by rfl) ?hM4 (by assumption) ?_
    case hM4=>intro wx hSw;exact exec_load 58 (.tmp 5) rfl T 0 rfl (run_loadVar_mid wx T 0 58 x.cs _ (HX2.out _ hSw) Tryd.underlying58 rfl (by rw[HLX.out];exact Tryd.size58))
    try simp only[List.setIfInBounds_toArray,List.set_cons_zero,List.set_cons_succ]
    refine wpAnyH_ready (rs:= [5,9]) (by as_aux_lemma=>kernel_rfl) (by simp) (AllReadyH.cons rfl (fun K hK=>?_) (AllReadyH.cons rfl (fun K hK=>?_) (AllReadyH.nil)))
    ·go_simp
     refine(HNW.out v0 hS_v0).mono ?_
     rintro _ v1 ⟨rfl,hb_v1⟩
     rw[HNN.out v1]
     have hS_v1:Below V2.heap.size V2 v1:=Bn hS_v0 hb_v1
     have HQv1:=hid hb_v1
     refine hK.out _ _ hS_v1 (fun _=>?_)
     clear hK K hb_v1
     try simp only[List.setIfInBounds_toArray,List.set_cons_zero,List.set_cons_succ]
     refine Ord.take (i:=6) (d:=17) (v:= .tuple #[.agg (hdV N).toArray,.int .i64 F]) rfl rfl (by as_aux_lemma=>kernel_rfl) (by as_aux_lemma=>kernel_rfl) (by as_aux_lemma=>kernel_rfl) (fun _ _ _ h=>h) (by rfl) ?hA6 (by assumption) ?_
     case hA6=>intro wx hSw;go_simp;try with_reducible rfl
     try simp only[List.setIfInBounds_toArray,List.set_cons_zero,List.set_cons_succ]
     refine Ord.take (i:=7) (d:=24) (v:= .agg (hdV N).toArray) rfl rfl (by as_aux_lemma=>kernel_rfl) (by as_aux_lemma=>kernel_rfl) (by as_aux_lemma=>kernel_rfl) (fun _ _ _ h=>h) (by rfl) ?hA7 (by assumption) ?_
     case hA7=>intro wx hSw;go_simp;try with_reducible rfl
     try simp only[List.setIfInBounds_toArray,List.set_cons_zero,List.set_cons_succ]
     refine Ord.take (i:=8) (d:=25) (v:= .int .i64 F) rfl rfl (by as_aux_lemma=>kernel_rfl) (by as_aux_lemma=>kernel_rfl) (by as_aux_lemma=>kernel_rfl) (fun _ _ _ h=>h) (by rfl) ?hA8 (by assumption) ?_
     case hA8=>intro wx hSw;go_simp;try with_reducible rfl
     try simp only[List.setIfInBounds_toArray,List.set_cons_zero,List.set_cons_succ]
     refine wpAnyH_ready (rs:= [9]) (by as_aux_lemma=>kernel_rfl) (by simp) (AllReadyH.cons rfl (fun K hK=>?_) (AllReadyH.nil))
     rw[if_pos (by rfl)]
     obtain⟨T6,hT6⟩:∃T6,T6=v1.heap.size:=⟨_,rfl⟩
     refine wp_alloc55 rfl (some 6) rfl T6 hT6 ?_
     have HZ6:Hid ((v1.alloc (.cells (hdL 0 0 z32).toArray 27)).heap[T6]?=some (.cells (hdL 0 0 z32).toArray 27)):=by show _=_;rw[hT6];exact heap_alc v1 _
     have hS_v2:Below V2.heap.size V2 (v1.alloc (.cells (hdL 0 0 z32).toArray 27)):=Bn hS_v1 (bel_alc v1 _)
     have HGE:Hid (V2.heap.size<=T6):=by show _<=_;rw[hT6];exact hS_v1.size
     refine hK.out _ _ hS_v2 (fun _=>?_)
     clear hK K hT6
     generalize v1.alloc (.cells (hdL 0 0 z32).toArray 27)=v2 at *
     try simp only[List.setIfInBounds_toArray,List.set_cons_zero,List.set_cons_succ]
     refine wpAnyH_ready (rs:= [10]) (by as_aux_lemma=>kernel_rfl) (by simp) (AllReadyH.cons rfl (fun K hK=>?_) (AllReadyH.nil))
     rw[if_pos (by rfl)]
     refine wp_store_row 27 _ _ rfl T6 (hdV N).toArray rfl rfl 27 _ HZ6.out HSN.out HZS.out HON.out ?_
     have hS_v3:Below V2.heap.size V2 (v2.setRow T6 (hdV N).toArray):=below_setRow hS_v2 HGE.out _
     refine hK.out _ _ hS_v3 (fun _=>?_)
     clear hK K
     have HEN:=hid (setRow_heap _ _ _ (hdV N).toArray _ _ HZ6.out)
     generalize v2.setRow T6 (hdV N).toArray=v3 at *
     try simp only[List.setIfInBounds_toArray,List.set_cons_zero,List.set_cons_succ]
     refine Ord.take (i:=11) (d:=7) (v:= .int .i64 F) rfl rfl (by as_aux_lemma=>kernel_rfl) (by as_aux_lemma=>kernel_rfl) (by as_aux_lemma=>kernel_rfl) (fun _ _ _ h=>h) (by rfl) ?hA11 (by assumption) ?_
     case hA11=>intro wx hSw;go_simp;try with_reducible rfl
     try simp only[List.setIfInBounds_toArray,List.set_cons_zero,List.set_cons_succ]
     refine wpAnyH_done (by as_aux_lemma=>kernel_rfl) ?_ _
     have HS9:=hid hS_v3
     clear hS_v3 hS_v2 hS_v1 hS_v0
     have HSE:Hid (hsL hdZ l=pre++ [h]):=by show _=_;rw[HSP.out,HST2.out]
     have HO9:=hid (own_later HO2.out HS9.out)
     have HB9:=hid (Bn HB2.out HS9.out)
     have h0b:=H0.out
     go_wp2
     obtain⟨a9,cap9,hv9,hr9⟩:=hd_row (by rw[<-HNL1.out];exact HO9.out) HPR2.out
     rw[<-HNL1.out] at hv9
     injection hv9 with hv1 hv2 hv3
     subst hv1
     subst hv3
     refine(HPP.out _ _).2 ⟨some ⟨g,o3,none⟩,cap3,?_,?_,HB9.out⟩
     ·rw[HSE.out,<-HNL1.out]
      rfl
     ·rw[HSE.out]
      exact hr9
    ·rw[if_pos (by rfl)]
     obtain⟨T6,hT6⟩:∃T6,T6=v0.heap.size:=⟨_,rfl⟩
     refine wp_alloc55 rfl (some 6) rfl T6 hT6 ?_
     have HZ60:Hid ((v0.alloc (.cells (hdL 0 0 z32).toArray 27)).heap[T6]?=some (.cells (hdL 0 0 z32).toArray 27)):=by show _=_;rw[hT6];exact heap_alc v0 _
     have hS_v1:Below V2.heap.size V2 (v0.alloc (.cells (hdL 0 0 z32).toArray 27)):=Bn hS_v0 (bel_alc v0 _)
     have HGE:Hid (V2.heap.size<=T6):=by show _<=_;rw[hT6];exact hS_v0.size
     refine hK.out _ _ hS_v1 (fun _=>?_)
     clear hK K hT6
     generalize v0.alloc (.cells (hdL 0 0 z32).toArray 27)=v1 at *
     try simp only[List.setIfInBounds_toArray,List.set_cons_zero,List.set_cons_succ]
     refine wpAnyH_ready (rs:= [5]) (by as_aux_lemma=>kernel_rfl) (by simp) (AllReadyH.cons rfl (fun K hK=>?_) (AllReadyH.nil))
     go_simp
     refine(HNW.out v1 hS_v1).mono ?_
     rintro _ v2 ⟨rfl,hb_v2⟩
     rw[HNN.out v2]
     have hS_v2:Below V2.heap.size V2 v2:=Bn hS_v1 hb_v2
     have HQv2:=hid hb_v2
     refine hK.out _ _ hS_v2 (fun _=>?_)
     clear hK K hb_v2
     try simp only[List.setIfInBounds_toArray,List.set_cons_zero,List.set_cons_succ]
     have HZ6:=hid (blk_later HZ60.out HQv2.out)
     clear HZ60
     refine Ord.take (i:=6) (d:=17) (v:= .tuple #[.agg (hdV N).toArray,.int .i64 F]) rfl rfl (by as_aux_lemma=>kernel_rfl) (by as_aux_lemma=>kernel_rfl) (by as_aux_lemma=>kernel_rfl) (fun _ _ _ h=>h) (by rfl) ?hB6 (by assumption) ?_
     case hB6=>intro wx hSw;go_simp;try with_reducible rfl
     try simp only[List.setIfInBounds_toArray,List.set_cons_zero,List.set_cons_succ]
     refine Ord.take (i:=7) (d:=24) (v:= .agg (hdV N).toArray) rfl rfl (by as_aux_lemma=>kernel_rfl) (by as_aux_lemma=>kernel_rfl) (by as_aux_lemma=>kernel_rfl) (fun _ _ _ h=>h) (by rfl) ?hB7 (by assumption) ?_
     case hB7=>intro wx hSw;go_simp;try with_reducible rfl
     try simp only[List.setIfInBounds_toArray,List.set_cons_zero,List.set_cons_succ]
     refine Ord.take (i:=8) (d:=25) (v:= .int .i64 F) rfl rfl (by as_aux_lemma=>kernel_rfl) (by as_aux_lemma=>kernel_rfl) (by as_aux_lemma=>kernel_rfl) (fun _ _ _ h=>h) (by rfl) ?hB8 (by assumption) ?_
     case hB8=>intro wx hSw;go_simp;try with_reducible rfl
     try simp only[List.setIfInBounds_toArray,List.set_cons_zero,List.set_cons_succ]
     refine wpAnyH_ready (rs:= [10]) (by as_aux_lemma=>kernel_rfl) (by simp) (AllReadyH.cons rfl (fun K hK=>?_) (AllReadyH.nil))
     rw[if_pos (by rfl)]
     refine wp_store_row 27 _ _ rfl T6 (hdV N).toArray rfl rfl 27 _ HZ6.out HSN.out HZS.out HON.out ?_
     have hS_v3:Below V2.heap.size V2 (v2.setRow T6 (hdV N).toArray):=below_setRow hS_v2 HGE.out _
     refine hK.out _ _ hS_v3 (fun _=>?_)
     clear hK K
     have HEN:=hid (setRow_heap _ _ _ (hdV N).toArray _ _ HZ6.out)
     generalize v2.setRow T6 (hdV N).toArray=v3 at *
     try simp only[List.setIfInBounds_toArray,List.set_cons_zero,List.set_cons_succ]
     refine Ord.take (i:=11) (d:=7) (v:= .int .i64 F) rfl rfl (by as_aux_lemma=>kernel_rfl) (by as_aux_lemma=>kernel_rfl) (by as_aux_lemma=>kernel_rfl) (fun _ _ _ h=>h) (by rfl) ?hB11 (by assumption) ?_
     case hB11=>intro wx hSw;go_simp;try with_reducible rfl
     try simp only[List.setIfInBounds_toArray,List.set_cons_zero,List.set_cons_succ]
     refine wpAnyH_done (by as_aux_lemma=>kernel_rfl) ?_ _
     have HS9:=hid hS_v3
     clear hS_v3 hS_v2 hS_v1 hS_v0
     have HSE:Hid (hsL hdZ l=pre++ [h]):=by show _=_;rw[HSP.out,HST2.out]
     have HO9:=hid (own_later HO2.out HS9.out)
     have HB9:=hid (Bn HB2.out HS9.out)
     have h0b:=H0.out
     go_wp2
     obtain⟨a9,cap9,hv9,hr9⟩:=hd_row (by rw[<-HNL1.out];exact HO9.out) HPR2.out
     rw[<-HNL1.out] at hv9
     injection hv9 with hv1 hv2 hv3
     subst hv1
     subst hv3
     refine(HPP.out _ _).2 ⟨some ⟨g,o3,none⟩,cap3,?_,?_,HB9.out⟩
     ·rw[HSE.out,<-HNL1.out]
      rfl
     ·rw[HSE.out]
      exact hr9
  ·have hke:k=len:=by omega
   have hkz:¬(k:Int)<(len:Int):=by omega
   have HSE:Hid (hsL hdZ l=pre++ [h]):=by
    show _=_
    rw[HSP.out,List.drop_of_length_le (by rw[<-HL.out];omega)]
    rfl
   go_wp2
   refine(HPP.out _ _).2 ⟨some ⟨g,o3,none⟩,cap3,?_,?_,HB.out⟩
   ·rw[HSE.out,<-HNL1.out]
   ·rw[HSE.out]
    exact HR3.out
end Go.Proofs.YtplinkmagnihmaaDoor
