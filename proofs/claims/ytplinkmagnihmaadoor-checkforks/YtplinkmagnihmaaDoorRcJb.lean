/-
  A first record, and one that does not follow: record's Next where it refuses, and the law's alive. A record that is made to follow: the contract of record's Make. Pieces copied, and what changes in a record's box: the contract of slices.Clone at pieces, fields of a record set. Which records follow: the contracts of record's Bytes, follows, fault. A record's bytes: the contract of record's written.
-/
import Derived.Test.YtplinkmagnihmaaDoorRcJa
namespace Go.Proofs.YtplinkmagnihmaaDoor
open Go.ChangeShapes Go.WideShapes Go.ChangeAt Go.RowKit Go.Deep Go.Lib
def pathL(s:ByteArray):List Int:=s.data.toList.map fun b=>((b.toNat:Nat):Int)
theorem pathL_len(s:ByteArray):(pathL s).length=s.size:=by simp[pathL]
theorem pathL_cells(s:ByteArray):strCells s=(pathL s).map (Value.int .u8):=by simp[strCells,pathL]
def wrH(r:Rec):List Int:=([82,r.kind]++vint r.seq++vint r.epoch)++r.prev
def wrB(r:Rec):List Int:=if r.kind=1 then wrH r++ [r.site] else if r.kind=2 then ((wrH r++ [(r.path.size:Int)])++pathL r.path)++pcsB r.ps else (wrH r++ [(r.path.size:Int)])++pathL r.path
theorem app_u8{x y:List Int}(h1:∀z∈x,(Lit.int .u8 z).wf=true)(h2:∀z∈y,(Lit.int .u8 z).wf=true):∀z∈x++y,(Lit.int .u8 z).wf=true:=fun z hz=>by
 rcases List.mem_append.1 hz with h | h
 ·exact h1 z h
 ·exact h2 z h
theorem get_u8{x:List Int}(h:∀z∈x,(Lit.int .u8 z).wf=true)(j:Nat):(Lit.int .u8 (x.getD j 0)).wf=true:=by
 by_cases hj:j<x.length
 ·simpa [List.getD,List.getElem?_eq_getElem hj] using h _ (List.getElem_mem hj)
 ·simp[List.getD,List.getElem?_eq_none (show x.length<=j by omega)];exact wf_zero _
theorem mem_u8{x:List Int}(h:∀j,(Lit.int .u8 (x.getD j 0)).wf=true):∀z∈x,(Lit.int .u8 z).wf=true:=fun z hz=>by
 obtain⟨j,hj,rfl⟩:=List.getElem_of_mem hz
 have:=h j
 rwa[List.getD,List.getElem?_eq_getElem hj] at this
theorem vint_mem(x:Int)(h0:0<=x)(h1:x<18446744073709551616):∀z∈vint x,(Lit.int .u8 z).wf=true:=mem_u8 (fun j=>wf_mk_u8 (vint_u8 x h0 h1 j).1 (vint_u8 x h0 h1 j).2)
theorem pcs_mem(l:List Pc)(hl:l.length<=100000)(h:∀x∈l,PcOk x∧nOk x=true):∀z∈pcsB l,(Lit.int .u8 z).wf=true:=by
 refine app_u8 (vint_mem _ (by omega) (by omega)) (fun z hz=>?_)
 obtain⟨x,hx,hz⟩:=List.mem_flatMap.1 hz
 obtain⟨h1,h2⟩:=h x hx
 have h3:=of_decide_eq_true h2
 exact app_u8 (vint_mem x.2 (by omega) (by omega)) (mem_u8 h1.u8) z hz
theorem pcs_u8(l:List Pc)(hl:l.length<=100000)(h:∀x∈l,PcOk x∧nOk x=true)(j:Nat):(Lit.int .u8 ((pcsB l).getD j 0)).wf=true:=get_u8 (pcs_mem l hl h) j
structure Wr (w W:World) (r:Rec) (v:Value) (A:List Int):Prop where
 own:W.ownsRow (w.heap.size+1) 5 1 v A.length (A.map (Value.int .u8))
 box:Bx W w.heap.size r
 bel:Below w.heap.size w W
 few:A.length<=1000
theorem Wr.ge{w W:World}{r:Rec}{v:Value}{A:List Int}(h:Wr w W r v A):w.heap.size+1<=W.heap.size:=h.box.lt
theorem Wr.later{w W W':World}{r:Rec}{v:Value}{A:List Int}(h:Wr w W r v A)(hb:Below W.heap.size W W'):Wr w W' r v A:=⟨own_later h.own hb,h.box.later hb,Bn h.bel hb,h.few⟩
theorem Wr.app{w W W':World}{r:Rec}{v v':Value}{A Z:List Int}(h:Wr w W r v A)(ho:W'.ownsRow (w.heap.size+1) 5 1 v' (A++Z).length ((A++Z).map (Value.int .u8)))(hb:Below (w.heap.size+1) W W')(hl:(A++Z).length<=1000):Wr w W' r v' (A++Z):=
 ⟨ho,⟨(hb.block _ (Nat.lt_succ_self _)).trans h.box.blk,h.box.len⟩,h.bel.trans (hb.mono (Nat.le_succ _)),hl⟩
theorem own_base{w:World}{b c e n:Nat}{v:Value}{k:Nat}{xs:List Value}(h:w.ownsRow b e n v k xs)(hc:c<=b):w.ownsRow c e n v k xs:=by
 refine⟨h.1,?_⟩
 rcases h.2 with h | ⟨g,cap,cur,h1,h2,h3⟩
 ·exact .inl h
 ·exact .inr ⟨g,cap,cur,h1,Nat.le_trans hc h2,h3⟩
theorem Wr.start(w:World)(r:Rec)(x y:Int)(h:r.prev.length=32):Wr w ((w.alloc (.cells r.cs.toArray 58)).alloc (.cells #[.int .u8 x,.int .u8 y] 5)) r (.slice (some ⟨w.heap.size+1,0,none⟩) 2 2) [x,y]:=by
 have s:(w.alloc (.cells r.cs.toArray 58)).heap.size=w.heap.size+1:=by simp
 refine⟨⟨rfl,.inr ⟨w.heap.size+1,2,#[.int .u8 x,.int .u8 y],rfl,Nat.le_refl _,?_,Nat.le_refl _,by unfold maxLen;omega,rfl,rfl⟩⟩,(Bx.mk' w r h).later (bel_alc _ _),Bn (bel_alc _ _) (bel_alc _ _),by simp⟩
 have:=heap_alc (w.alloc (.cells r.cs.toArray 58)) (.cells #[.int .u8 x,.int .u8 y] 5)
 rw[s] at this
 exact this
set_option maxHeartbeats 3200000 in
set_option maxRecDepth 100000 in
theorem written_word(r:Rec)(w:World)(h:Rv w r)(hm:mayB r=true):
 Calls Tryd.prog 62 #[.agg r.cs.toArray] w fun e w'=>∃v,e= .returned v∧w'.ownsRow w.heap.size 5 1 v (wrB r).length ((wrB r).map (Value.int .u8))∧Below w.heap.size w w':=by
 obtain⟨⟨hsq,hep⟩,hkb⟩:(((1<=r.seq∧r.seq<=1073741824)∧1<=r.epoch∧r.epoch<=1073741824))∧kindB r=true:=by
  unfold mayB at hm
  simpa [and_assoc] using hm
 have hki:r.kind=1∨r.kind=2∨r.kind=3:=by
  unfold kindB at hkb
  split at hkb
  ·exact .inl ‹_›
  ·split at hkb
   ·exact .inr (.inr ‹_›)
   ·split at hkb
    ·exact .inr (.inl ‹_›)
    ·cases hkb
 have hk0:1<=r.kind:=by omega
 have hk1:r.kind<=3:=by omega
 have H0:=hid (Wr.start w r 82 r.kind h.len)
 have hs0:(w.alloc (.cells r.cs.toArray 58)).heap.size=w.heap.size+1:=by simp
 have c34:=(Bx.mk' w r h.len).c34
 have hb0:=bel_alc (w.alloc (.cells r.cs.toArray 58)) (.cells #[.int .u8 82,.int .u8 r.kind] 5)
 have c0:((w.alloc (.cells r.cs.toArray 58)).alloc (.cells #[.int .u8 82,.int .u8 r.kind] 5)).cell? ⟨w.heap.size,0,none⟩=some (.int .i64 r.seq):=H0.out.box.c0
 have HV1:=hid (fun V=>varint_ri r.seq V (by omega) (by omega))
 have HV2:=hid (fun V=>varint_ri r.epoch V (by omega) (by omega))
 have HVV:=hid h
 have HKB:=hid hkb
 have hsq1:=hsq.1
 have hsq2:=hsq.2
 have hep1:=hep.1
 have hep2:=hep.2
 clear h hm hsq hep hb0 hkb
 go_enter Tryd.func62,Tryd.ntmps62
 have HL1:=hid (vint10 r.seq)
 have HL2:=hid (vint10 r.epoch)
 go_wp2_with fail
 refine(HV1.out _).mono ?_
 rintro _ W1 ⟨a1,c1,rfl,hr1,hb1⟩
 have H1:=hid (H0.out.later hb1)
 have R1:=hid hr1
 clear hr1 hb1 H0 HV1 c0 c34 hs0
 go_wp2_with (at_builtin;refine own_app _ rfl _ _ rfl (w.heap.size+1) _ [82,r.kind] rfl H1.out.own a1 c1 (vint r.seq) rfl R1.out (by have:=HL1.out;simp;omega) H1.out.ge ?_)
 intro v2 W2 ho2 hb2
 have H2:=hid (H1.out.app (Z:=vint r.seq) (by simpa using ho2) hb2 (by have:=HL1.out;simp;omega))
 have c1:=H2.out.box.c1
 clear ho2 hb2 H1 R1
 generalize hA2: [82,r.kind]++vint r.seq=A2 at *
 have HA2:=hid hA2
 have HN2:Hid (A2.length<=12):=by show _<=_;rw[<-hA2];have:=HL1.out;simp;omega
 clear hA2
 go_wp2_with fail
 refine(HV2.out _).mono ?_
 rintro _ W3 ⟨a3,c3,rfl,hr3,hb3⟩
 have H3:=hid (H2.out.later hb3)
 have R3:=hid hr3
 clear hr3 hb3 H2 HV2 c1
 go_wp2_with (at_builtin;refine own_app _ rfl _ _ rfl (w.heap.size+1) _ A2 rfl H3.out.own a3 c3 (vint r.epoch) rfl R3.out (by have:=HL2.out;have:=HN2.out;omega) H3.out.ge ?_)
 intro v4 W4 ho4 hb4
 have H4:=hid (H3.out.app (Z:=vint r.epoch) (by simpa using ho4) hb4 (by have:=HL2.out;have:=HN2.out;simp;omega))
 have R4:=hid (H4.out.box.ri HVV.out.u8)
 have HPL:=hid HVV.out.len
 clear ho4 hb4 H3 R3
 generalize hA4:A2++vint r.epoch=A4 at *
 have HA4:=hid hA4
 have HN4:Hid (A4.length<=22):=by show _<=_;rw[<-hA4];have:=HL2.out;have:=HN2.out;simp;omega
 clear hA4
 go_wp2_with (at_builtin;refine own_app _ rfl _ _ rfl (w.heap.size+1) _ A4 rfl H4.out.own (some ⟨w.heap.size,2,none⟩) 32 r.prev (by rw[HPL.out];rfl) R4.out (by have:=HPL.out;have:=HN4.out;omega) H4.out.ge ?_)
 intro v5 W5 ho5 hb5
 have H5:=hid (H4.out.app (Z:=r.prev) (by simpa using ho5) hb5 (by have:=HPL.out;have:=HN4.out;simp;omega))
 clear ho5 hb5 H4 R4
 have HA5:Hid (A4++r.prev=wrH r):=by show _=_;rw[<-HA4.out,<-HA2.out];rfl
 have HN5:Hid ((wrH r).length<=54):=by show _<=_;rw[<-HA5.out];have:=HPL.out;have:=HN4.out;simp;omega
 rw[HA5.out] at H5
 clear HA5 HA4 HA2 HN4 HN2 HL1 HL2
 have c34:=H5.out.box.c34
 have c35:=H5.out.box.c35
 have c36:=H5.out.box.c36
 have hmost:r.path.size<=9223372036854775807:=by have:=HVV.out.path;unfold maxLen at this;omega
 by_cases h1:r.kind=1
 ·have HKL:Hid (wrB r=wrH r++ [r.site]):=by show _=_;unfold wrB;rw[if_pos h1]
  have hst:0<=r.site∧r.site<=1:=by
   have:=HKB.out
   unfold kindB at this
   rw[if_pos h1] at this
   simp only[Bool.and_eq_true,decide_eq_true_eq] at this
   omega
  have hst0:=hst.1
  have hst1:=hst.2
  rw[h1] at c34
  have H6:=hid (H5.out.later (bel_alc W5 (.cells #[.int .u8 r.site] 5)))
  have R6:=hid (ri_one W5 r.site (by omega))
  clear hst h1
  go_wp2_with (at_builtin;refine own_app _ rfl _ _ rfl (w.heap.size+1) _ (wrH r) rfl H6.out.own (some ⟨W5.heap.size,0,none⟩) 1 [r.site] rfl R6.out (by have:=HN5.out;simp;omega) H6.out.ge ?_)
  intro v7 W7 ho7 hb7
  have H7:=hid (H6.out.app (Z:= [r.site]) (by simpa using ho7) hb7 (by have:=HN5.out;simp;omega))
  clear ho7 hb7
  go_wp2
  go_ret
  exact⟨_,rfl,by rw[HKL.out];exact own_base H7.out.own (Nat.le_succ _),H7.out.bel⟩
 ·have hpb:pathB r.path=true∧(r.kind=2->(sizO r.ps).2=0):=by
   have:=HKB.out
   unfold kindB at this
   rw[if_neg h1] at this
   rcases hki with q | q | q
   ·exact absurd q h1
   ·rw[q] at this;simp at this;exact⟨this.1.2,fun _=>this.2⟩
   ·rw[q] at this;simp at this;exact⟨this.2.1.2,fun e=>by omega⟩
  have hpz:r.path.size<=255:=by
   have:=hpb.1
   unfold pathB at this
   simp only[Bool.and_eq_true,decide_eq_true_eq] at this
   omega
  have H6:=hid (H5.out.later (bel_alc W5 (.cells #[.int .u8 (r.path.size:Int)] 5)))
  have R6:=hid (ri_one W5 (r.path.size:Int) (by omega))
  have HPB:=hid hpb
  clear hpb
  go_wp2_with (at_builtin;refine own_app _ rfl _ _ rfl (w.heap.size+1) _ (wrH r) rfl H6.out.own (some ⟨W5.heap.size,0,none⟩) 1 [(r.path.size:Int)] rfl R6.out (by have:=HN5.out;simp;omega) H6.out.ge ?_)
  intro v7 W7 ho7 hb7
  have H7:=hid (H6.out.app (Z:= [(r.path.size:Int)]) (by simpa using ho7) hb7 (by have:=HN5.out;simp;omega))
  clear ho7 hb7 H6 R6 H5 c34 c35 c36
  have c36:=H7.out.box.c36
  generalize hA7:wrH r++ [(r.path.size:Int)]=A7 at *
  have HA7:=hid hA7
  have HN7:Hid (A7.length<=55):=by show _<=_;rw[<-hA7];have:=HN5.out;simp;omega
  clear hA7
  obtain⟨i0,hi,hz0,hz1,hz2⟩:=info_parts Tryd.info5W
  go_wp2_with (at_builtin;refine wpList_append_own_string _ rfl _ _ 22 9 rfl (w.heap.size+1) 5 i0 Tryd.underlying22 Tryd.underlying9 hi hz0 hz1 hz2 _ A7.length (A7.map (Value.int .u8)) rfl H7.out.own r.path rfl (by have:=HN7.out;unfold maxLen;omega) (by have:=HN7.out;omega) H7.out.ge ?_)
  intro v8 W8 ho8 hg8 _
  have hb8:Below (w.heap.size+1) W7 W8:=(Below.refl _ W7).grown hg8 H7.out.ge (fun j hj=>(H7.out.own.lt j hj).1)
  have ho8':W8.ownsRow (w.heap.size+1) 5 1 v8 (A7++pathL r.path).length ((A7++pathL r.path).map (Value.int .u8)):=by
   rw[pathL_cells] at ho8
   rw[List.length_append,pathL_len,List.map_append]
   exact ho8
  have H8:=hid (H7.out.app (Z:=pathL r.path) ho8' hb8 (by have:=HN7.out;rw[List.length_append,pathL_len];omega))
  have HN8:Hid ((A7++pathL r.path).length<=310):=by show _<=_;have:=HN7.out;rw[List.length_append,pathL_len];omega
  clear ho8 ho8' hg8 hb8 H7 c36
  have c34:=H8.out.box.c34
  have c37:=H8.out.box.c37
  by_cases h2:r.kind=2
  ·have HKL:Hid (wrB r=(A7++pathL r.path)++pcsB r.ps):=by show _=_;unfold wrB;rw[if_neg h1,if_pos h2,HA7.out]
   have hsz:=HPB.out.2 h2
   have hsz2:r.ps.length<=4096∧r.ps.all nOk=true:=by
    unfold sizO at hsz
    split at hsz
    ·cases hsz
    ·split at hsz
     ·exact⟨by omega, ‹_›⟩
     ·cases hsz
   have HPW:=hid (pieces_word r.a r.cap r.ps W8 (HVV.out.row.later H8.out.bel) hsz2.1 hsz2.2)
   have HPN:Hid ((pcsB r.ps).length<=180000):=by
    show _<=_
    have h1:=vint10 (r.ps.length:Int)
    have h2:=flat_len r.ps (fun x hx=>(HVV.out.row.fits x hx).len)
    have:=hsz2.1
    unfold pcsB
    rw[List.length_append]
    omega
   rw[h2] at c34
   have HP8:Hid (∀j,(Lit.int .u8 ((pcsB r.ps).getD j 0)).wf=true):=pcs_u8 r.ps (by have:=hsz2.1;omega) (fun x hx=>⟨HVV.out.row.fits x hx,List.all_eq_true.1 hsz2.2 x hx⟩)
   clear hsz hsz2 h1 h2
   generalize hA8:A7++pathL r.path=A8 at *
   go_wp2_with fail
   refine HPW.out.mono ?_
   rintro _ W9 ⟨v9,rfl,ho9,hb9⟩
   obtain⟨a9,c9,rfl,hr9⟩:=Ri.own ho9 HP8.out
   have H9:=hid (H8.out.later hb9)
   have R9:=hid hr9
   clear ho9 hr9 hb9 H8 HPW
   go_wp2_with (at_builtin;refine own_app _ rfl _ _ rfl (w.heap.size+1) _ A8 rfl H9.out.own a9 c9 (pcsB r.ps) rfl R9.out (by have:=HPN.out;have:=HN8.out;omega) H9.out.ge ?_)
   intro v10 W10 ho10 hb10
   have ho10':W10.ownsRow (w.heap.size+1) 5 1 v10 (A8++pcsB r.ps).length ((A8++pcsB r.ps).map (Value.int .u8)):=by simpa using ho10
   have HO:=hid ho10'
   have HBF:=hid (H9.out.bel.trans (hb10.mono (Nat.le_succ _)))
   clear ho10 ho10' hb10 H9 R9
   go_wp2
   go_ret
   exact⟨_,rfl,by rw[HKL.out];exact own_base HO.out (Nat.le_succ _),HBF.out⟩
  ·have HKL:Hid (wrB r=A7++pathL r.path):=by show _=_;unfold wrB;rw[if_neg h1,if_neg h2,HA7.out]
   have h3:r.kind=3:=by omega
   rw[h3] at c34
   clear h1 h2 h3 c37
   go_wp2
   go_ret
   exact⟨_,rfl,by rw[HKL.out];exact own_base H8.out.own (Nat.le_succ _),H8.out.bel⟩
end Go.Proofs.YtplinkmagnihmaaDoor
namespace Go.Proofs.YtplinkmagnihmaaDoor
open Go.ChangeShapes Go.WideShapes Go.ChangeAt Go.RowKit Go.Deep Go.Lib
def BytP(b:Bool)(w w':World)(v:Value)(l:List Int):Prop:=(b=false∧v= .slice none 0 0)∨(b=true∧w'.ownsRow w.heap.size 5 1 v l.length (l.map (Value.int .u8)))
def hdL(n k:Int)(d:List Int):List Value:= .int .i64 n:: .int .i64 k::d.map (Value.int .u8)
theorem hdL_len(n k:Int)(d:List Int)(h:d.length=32):(hdL n k d).length=34:=by simp[hdL,h]
theorem hdL_one(n k:Int)(d:List Int):∀u∈hdL n k d,u.oneCell'=true:=by
 intro v hv
 simp only[hdL,List.mem_cons,List.mem_map] at hv
 rcases hv with rfl | rfl | ⟨z,_,rfl⟩<;>rfl
structure Bh (w:World) (g:Nat) (n k:Int) (d:List Int):Prop where
 blk:w.heap[g]?=some (.cells (hdL n k d).toArray 27)
 len:d.length=32
theorem Bh.lt{w:World}{g:Nat}{n k:Int}{d:List Int}(h:Bh w g n k d):g<w.heap.size:=(Array.getElem?_eq_some_iff.1 h.blk).1
theorem Bh.later{w w':World}{g:Nat}{n k:Int}{d:List Int}(h:Bh w g n k d)(hb:Below w.heap.size w w'):Bh w' g n k d:=⟨(hb.block _ h.lt).trans h.blk,h.len⟩
theorem Bh.mk'(w:World)(n k:Int)(d:List Int)(h:d.length=32):Bh (w.alloc (.cells (hdL n k d).toArray 27)) w.heap.size n k d:=⟨heap_alc w _,h⟩
theorem Bh.c0{w:World}{g:Nat}{n k:Int}{d:List Int}(h:Bh w g n k d):w.cell? ⟨g,0,none⟩=some (.int .i64 n):=(Joins.cell_of_block h.blk 0).trans rfl
theorem Bh.c1{w:World}{g:Nat}{n k:Int}{d:List Int}(h:Bh w g n k d):w.cell? ⟨g,1,none⟩=some (.int .i64 k):=(Joins.cell_of_block h.blk 1).trans rfl
theorem Bh.range{w:World}{g:Nat}{n k:Int}{d:List Int}(h:Bh w g n k d):w.rangeAt g 0 (hdL n k d):=fun j v hv=>by
 rw[Nat.zero_add,Joins.cell_of_block h.blk j,List.getElem?_toArray]
 exact hv
theorem Bh.chain{w:World}{g:Nat}{n k:Int}{d:List Int}(h:Bh w g n k d):w.rangeAt g 2 (d.map (Value.int .u8)):=fun j v hv=>by
 rw[Joins.cell_of_block h.blk (2+j),List.getElem?_toArray,<-hv]
 unfold hdL
 rw[show 2+j=j+1+1 from by omega,List.getElem?_cons_succ,List.getElem?_cons_succ]
def folB(hs he:Int)(hc:List Int)(r:Rec):Bool:=decide (r.seq-1=hs∧r.prev=hc)&&(if r.kind=1 then decide (he<r.epoch) else decide (r.epoch=he))
set_option maxHeartbeats 3200000 in
set_option maxRecDepth 100000 in
theorem follows_word(hs he:Int)(hc:List Int)(r:Rec)(w:World)(hcl:hc.length=32)(h:r.prev.length=32)(hq:1<=r.seq∧r.seq<=1073741824):
 Calls Tryd.prog 78 #[.agg (hdL hs he hc).toArray,.agg r.cs.toArray] w fun e w'=>e= .returned (.bool (folB hs he hc r))∧Below w.heap.size w w':=by
 have b1:=bel_alc w (.cells (hdL hs he hc).toArray 27)
 have b2:=bel_alc (w.alloc (.cells (hdL hs he hc).toArray 27)) (.cells r.cs.toArray 58)
 have s1:(w.alloc (.cells (hdL hs he hc).toArray 27)).heap.size=w.heap.size+1:=by simp
 have BH:=(Bh.mk' w hs he hc hcl).later b2
 have BX:=Bx.mk' (w.alloc (.cells (hdL hs he hc).toArray 27)) r h
 rw[s1] at BX
 have HB:=hid (Bn b1 b2)
 have d0:=BH.c0
 have d1:=BH.c1
 have c0:=BX.c0
 have c1:=BX.c1
 have c34:=BX.c34
 have HRC:=hid BH.chain
 have HRP:=hid BX.prev
 have HF:Hid (folB hs he hc r=(decide (r.seq-1=hs∧r.prev=hc)&&(if r.kind=1 then decide (he<r.epoch) else decide (r.epoch=he)))):=rfl
 have heq:∀V,(Op.equalIn 10000 25 (.agg (r.prev.map (Value.int .u8)).toArray) (.agg (hc.map (Value.int .u8)).toArray)).run Tryd.prog V= .ok (decide (r.prev=hc)) V:=fun V=>eq37 r.prev hc h hcl V
 have hgd:=guard37
 have HPL:Hid ((r.prev.map (Value.int .u8)).length=32):=by show _=_;simp[h]
 have HCL:Hid ((hc.map (Value.int .u8)).length=32):=by show _=_;simp[hcl]
 have hq1:=hq.1
 have hq2:=hq.2
 clear BH BX hq b1 b2
 generalize folB hs he hc r=F at *
 generalize (hdL hs he hc).toArray=A1 at *
 generalize r.cs.toArray=A2 at *
 generalize r.prev.map (Value.int .u8)=P at *
 generalize hc.map (Value.int .u8)=C at *
 generalize r.seq=sq at *
 generalize r.epoch=ep at *
 generalize r.kind=ki at *
 by_cases h1:sq-1=hs
 ·subst h1
  by_cases h2:r.prev=hc
  ·have hd2:decide (r.prev=hc)=true:=decide_eq_true h2
   rw[hd2] at heq
   have HF2:Hid (F=if ki=1 then decide (he<ep) else decide (ep=he)):=by show _=_;rw[HF.out,h2];simp
   clear HF h2 hd2
   by_cases h3:ki=1
   ·subst h3
    go_enter Tryd.func78,Tryd.ntmps78
    go_wp2_with (first | refine wpList_load_g rfl 25 _ rfl (w.heap.size+1) 2 rfl P _ HRP.out Tryd.underlying25 rfl (by rw[HPL.out];exact Tryd.size25) ?_ | refine wpList_load_g rfl 25 _ rfl w.heap.size 2 rfl C _ HRC.out Tryd.underlying25 rfl (by rw[HCL.out];exact Tryd.size25) ?_)
    go_ret
    exact⟨by rw[HF2.out];simp,HB.out⟩
   ·go_enter Tryd.func78,Tryd.ntmps78
    go_wp2_with (first | refine wpList_load_g rfl 25 _ rfl (w.heap.size+1) 2 rfl P _ HRP.out Tryd.underlying25 rfl (by rw[HPL.out];exact Tryd.size25) ?_ | refine wpList_load_g rfl 25 _ rfl w.heap.size 2 rfl C _ HRC.out Tryd.underlying25 rfl (by rw[HCL.out];exact Tryd.size25) ?_)
    go_ret
    exact⟨by rw[HF2.out,if_neg h3];rfl,HB.out⟩
  ·have hd2:decide (r.prev=hc)=false:=decide_eq_false h2
   rw[hd2] at heq
   have HF2:Hid (F=false):=by show _=_;rw[HF.out];simp[h2]
   clear HF h2 hd2
   go_enter Tryd.func78,Tryd.ntmps78
   go_wp2_with (first | refine wpList_load_g rfl 25 _ rfl (w.heap.size+1) 2 rfl P _ HRP.out Tryd.underlying25 rfl (by rw[HPL.out];exact Tryd.size25) ?_ | refine wpList_load_g rfl 25 _ rfl w.heap.size 2 rfl C _ HRC.out Tryd.underlying25 rfl (by rw[HCL.out];exact Tryd.size25) ?_)
   go_ret
   exact⟨by rw[HF2.out];rfl,HB.out⟩
 ·have HF2:Hid (F=false):=by show _=_;rw[HF.out];simp[h1]
  clear HF heq
  go_enter Tryd.func78,Tryd.ntmps78
  go_wp2
  go_ret
  exact⟨by rw[HF2.out];rfl,HB.out⟩
def fltO(hs he:Int)(hc:List Int)(r:Rec):Int:=if mayB r=true then (if folB hs he hc r=true then 0 else 131) else 130
set_option maxHeartbeats 3200000 in
set_option maxRecDepth 100000 in
theorem fault_word(hs he:Int)(hc:List Int)(r:Rec)(w:World)(hcl:hc.length=32)(h:Rv w r):
 Calls Tryd.prog 60 #[.agg (hdL hs he hc).toArray,.agg r.cs.toArray] w fun e w'=>e= .returned (.int .i64 (fltO hs he hc r))∧Below w.heap.size w w':=by
 have b1:=bel_alc w (.cells (hdL hs he hc).toArray 27)
 have b2:=bel_alc (w.alloc (.cells (hdL hs he hc).toArray 27)) (.cells r.cs.toArray 58)
 have s1:(w.alloc (.cells (hdL hs he hc).toArray 27)).heap.size=w.heap.size+1:=by simp
 have BH:=(Bh.mk' w hs he hc hcl).later b2
 have BX:=Bx.mk' (w.alloc (.cells (hdL hs he hc).toArray 27)) r h.len
 rw[s1] at BX
 have HB:=hid (Bn b1 b2)
 have HBH:=hid BH
 have HBX:=hid BX
 have HLX:=hid BX.range
 have HLL:=hid (Rec.cs_len h.len)
 have HHL:=hid (hdL_len hs he hc hcl)
 have HCK:=hid (check_word r _ (h.later HB.out))
 have HFW:=hid (fun V q=>follows_word hs he hc r V hcl h.len q)
 have HMQ:Hid (mayB r=true->1<=r.seq∧r.seq<=1073741824):=fun q=>by
  unfold mayB at q
  simp only[Bool.and_eq_true,decide_eq_true_eq] at q
  exact q.1.1
 have HF:Hid (fltO hs he hc r=if mayB r=true then (if folB hs he hc r=true then 0 else 131) else 130):=rfl
 clear BH BX b1 b2 h
 generalize fltO hs he hc r=F at *
 generalize mayB r=MB at *
 generalize folB hs he hc r=FB at *
 go_enter Tryd.func60,Tryd.ntmps60
 go_wp2_with (first | refine wpList_load_g rfl 58 _ rfl (w.heap.size+1) 0 rfl r.cs _ HLX.out Tryd.underlying58 rfl (by rw[HLL.out];exact Tryd.size58) ?_ | fail)
 refine HCK.out.mono ?_
 rintro _ w2 ⟨rfl,hb2⟩
 have HB2:=hid (Bn HB.out hb2)
 have HL2:=hid (HBX.out.later hb2).range
 have HH2:=hid (HBH.out.later hb2).range
 clear hb2 HCK HLX HBX HBH
 cases MB with
 | false=>
   go_wp2
   go_ret
   exact⟨by rw[HF.out];rfl,HB2.out⟩
 | true=>
   have HFW2:=hid (HFW.out w2 (HMQ.out rfl))
   clear HFW HMQ
   go_wp2_with (first | refine wpList_load_g rfl 58 _ rfl (w.heap.size+1) 0 rfl r.cs _ HL2.out Tryd.underlying58 rfl (by rw[HLL.out];exact Tryd.size58) ?_ | refine wpList_load_g rfl 27 _ rfl w.heap.size 0 rfl (hdL hs he hc) _ HH2.out Tryd.underlying27 rfl (by rw[HHL.out];exact Tryd.size27) ?_ | fail)
   refine HFW2.out.mono ?_
   rintro _ w3 ⟨rfl,hb3⟩
   have HB3:=hid (Bn HB2.out hb3)
   clear hb3 HFW2
   cases FB with
   | false=>
     go_wp2
     go_ret
     exact⟨by rw[HF.out];rfl,HB3.out⟩
   | true=>
     go_wp2
     go_ret
     exact⟨by rw[HF.out];rfl,HB3.out⟩
end Go.Proofs.YtplinkmagnihmaaDoor
namespace Go.Proofs.YtplinkmagnihmaaDoor
open Go.ChangeShapes Go.WideShapes Go.ChangeAt Go.RowKit Go.Deep Go.Lib
theorem flat_pc(l:List Pc)(h:∀x∈l,PcOk x):(l.flatMap pcC).length=l.length*33:=by
 induction l with
 | nil=>rfl
 | cons x l ih=>rw[List.flatMap_cons,List.length_append,pcC_len (h x (by simp)).len,ih (fun y hy=>h y (by simp[hy])),List.length_cons];omega
theorem flat_one(l:List Pc):∀u∈l.flatMap pcC,u.oneCell'=true:=fun u hu=>by
 obtain⟨x,_,hx⟩:=List.mem_flatMap.1 hu
 exact pcC_one x u hx
theorem flat_at(l:List Pc)(h:∀x∈l,PcOk x):∀j,j<l.length->∀i u,(pcC (l.getD j pc0))[i]?=some u->(l.flatMap pcC)[j*33+i]?=some u:=by
 induction l with
 | nil=>intro j hj;simp at hj
 | cons x l ih=>
   intro j hj i u hu
   have hx:=pcC_len (h x (by simp)).len
   rw[List.flatMap_cons]
   cases j with
   | zero=>
     have hu':(pcC x)[i]?=some u:=hu
     have hi:i<(pcC x).length:=(List.getElem?_eq_some_iff.1 hu').1
     rw[show 0*33+i=i from by omega,List.getElem?_append_left hi]
     exact hu'
   | succ j=>
     rw[List.getElem?_append_right (by rw[hx];omega),hx,show(j+1)*33+i-33=j*33+i from by omega]
     exact ih (fun y hy=>h y (by simp[hy])) j (by simp at hj;omega) i u (by simpa using hu)
theorem flat_back(l:List Pc)(h:∀x∈l,PcOk x)(k:Nat)(u:Value)(hk:(l.flatMap pcC)[k]?=some u):∃j i,j<l.length∧k=j*33+i∧(pcC (l.getD j pc0))[i]?=some u:=by
 have hlt:k<(l.flatMap pcC).length:=(List.getElem?_eq_some_iff.1 hk).1
 rw[flat_pc l h] at hlt
 have hj:k/33<l.length:=by omega
 refine⟨k/33,k%33,hj,by omega,?_⟩
 have hok:PcOk (l.getD (k/33) pc0):=h _ (by simp[List.getD,List.getElem?_eq_getElem hj])
 have hi:k%33<(pcC (l.getD (k/33) pc0)).length:=by rw[pcC_len hok.len];omega
 have:=flat_at l h (k/33) hj (k%33) _ (List.getElem?_eq_getElem hi)
 rw[show k/33*33+k%33=k from by omega,hk] at this
 rw[List.getElem?_eq_getElem hi,this]
theorem Rp.own{w:World}{base:Nat}{v:Value}{l:List Pc}(h:w.ownsRow base 80 33 v l.length (l.flatMap pcC))(hf:∀x∈l,PcOk x):∃a cap,v= .slice a l.length cap∧Rp w a cap l∧∀b off,a=some ⟨b,off,none⟩->base<=b:=by
 rcases h.2 with ⟨rfl,hn⟩ | ⟨g,cap,cur,rfl,hbg,hg,hc,hm,hs,ht⟩
 ·rw[hn]
  exact⟨none,0,rfl,⟨by omega,by unfold maxLen;omega,fun _=>rfl,fun h0=>by omega,hf⟩,fun _ _ h=>by cases h⟩
 ·refine⟨some ⟨g,0,none⟩,cap,rfl,⟨hc,hm,(fun h=>by cases h),fun _=>⟨g,0,rfl,(Array.getElem?_eq_some_iff.1 hg).1,fun j hj i u hu=>?_⟩,hf⟩,fun b off h=>by injection h with h;injection h with h;omega⟩
  have:=flat_at l hf j hj i u hu
  rw[<-ht] at this
  rw[Nat.zero_add]
  refine(Joins.cell_of_block hg _).trans ?_
  have hlt:j*33+i<(cur.toList.take (l.length*33)).length:=(List.getElem?_eq_some_iff.1 this).1
  rw[List.getElem?_take_of_lt (by simp at hlt;omega)] at this
  simpa using this
theorem Tryd.info80:(Tryd.prog.info? 80).map (fun i=>(i.zero,i.size,i.bytes))=some (some (.agg pcZ),33,40):=by kernel_rfl
theorem own_zero(w:World):(w.alloc (.cells #[] 80)).ownsRow w.heap.size 80 33 (.slice (some ⟨w.heap.size,0,none⟩) 0 0) 0 []:=
 ⟨rfl,.inr ⟨w.heap.size,0,#[],rfl,Nat.le_refl _,heap_alc w _,Nat.le_refl _,by unfold maxLen;omega,rfl,rfl⟩⟩
theorem bq25(a:Option Addr)(n c:Nat)(W:World):(binOp .eql 56 (.slice a n c) (.slice none 0 0)).run Tryd.prog W= .ok (.bool a.isNone) W:=run_eql_slice_nil W 56 80 a n c 0 0 Tryd.underlying56
def setL:List Value->Nat->List Value->List Value
 | C,_,[]=>C
 | C,o,v::vs=>setL (C.set o v) (o+1) vs
theorem block_setCells(b:Nat)(t:TypeId)(fr:Nat×Nat):∀(vs:List Value) (o:Nat) (w:World) (C:List Value),w.heap[b]?=some (.cells C.toArray t fr)->(w.setCells b o vs).heap[b]?=some (.cells (setL C o vs).toArray t fr)
 | [],_,_,_,h=>h
 | v::vs,o,w,C,h=>by
   refine block_setCells b t fr vs (o+1) _ (C.set o v) ?_
   rw[Joins.block_setCell h]
   simp
theorem setL_mid:∀(Y A X Z:List Value),X.length=Y.length->setL (A++X++Z) A.length Y=A++Y++Z
 | [],A,X,Z,h=>by
   have:X= []:=List.length_eq_zero_iff.1 (by simpa using h)
   subst this
   rfl
 | y::Y,A,x::X,Z,h=>by
   have e:(A++x::X++Z).set A.length y=(A++ [y])++X++Z:=by simp
   have:=setL_mid Y (A++ [y]) X Z (by simpa using h)
   rw[setL,e,show A.length+1=(A++ [y]).length from by simp,this]
   simp
theorem below_setCells{B b:Nat}{w0:World}(hb:B<=b):∀(vs:List Value) (o:Nat) (w:World),Below B w0 w->Below B w0 (w.setCells b o vs)
 | [],_,_,h=>h
 | v::vs,o,_,h=>below_setCells hb vs (o+1) _ (h.setCell (p:=⟨b,o,none⟩) hb v)
theorem Bx.setPrev{w:World}{g:Nat}{r:Rec}(h:Bx w g r)(d:List Int)(hd:d.length=32):Bx (w.setCells g 2 (d.map (Value.int .u8))) g {r with prev:=d}:=by
 refine⟨?_,hd⟩
 rw[block_setCells g 58 (0,0) _ 2 w r.cs h.blk]
 have:=setL_mid (d.map (Value.int .u8)) [.int .i64 r.seq,.int .i64 r.epoch] (r.prev.map (Value.int .u8)) [.int .i64 r.kind,.int .i64 r.site,.string r.path,.slice r.a r.ps.length r.cap] (by simp[h.len,hd])
 rw[show r.cs= [Value.int .i64 r.seq,.int .i64 r.epoch]++r.prev.map (Value.int .u8)++ [.int .i64 r.kind,.int .i64 r.site,.string r.path,.slice r.a r.ps.length r.cap] from rfl,show(2:Nat)= [Value.int .i64 r.seq,.int .i64 r.epoch].length from rfl,this]
 rfl
theorem Bx.setSeq{w:World}{g:Nat}{r:Rec}(h:Bx w g r)(x:Int):Bx (w.setCell ⟨g,0,none⟩ (.int .i64 x)) g {r with seq:=x}:=
 ⟨by rw[Joins.block_setCell h.blk];simp[Rec.cs],h.len⟩
theorem Bx.setEpoch{w:World}{g:Nat}{r:Rec}(h:Bx w g r)(x:Int):Bx (w.setCell ⟨g,1,none⟩ (.int .i64 x)) g {r with epoch:=x}:=
 ⟨by rw[Joins.block_setCell h.blk];simp[Rec.cs],h.len⟩
theorem Bx.setRow{w:World}{g:Nat}{r:Rec}(h:Bx w g r)(a':Option Addr)(cap':Nat):Bx (w.setCell ⟨g,37,none⟩ (.slice a' r.ps.length cap')) g {r with a:=a',cap:=cap'}:=by
 refine⟨?_,h.len⟩
 rw[Joins.block_setCell h.blk,show r.cs=([Value.int .i64 r.seq,.int .i64 r.epoch]++r.prev.map (Value.int .u8)++ [.int .i64 r.kind,.int .i64 r.site,.string r.path])++ [.slice r.a r.ps.length r.cap] from by simp[Rec.cs]]
 have e:([Value.int .i64 r.seq,.int .i64 r.epoch]++r.prev.map (Value.int .u8)++ [Value.int .i64 r.kind,Value.int .i64 r.site,Value.string r.path]).length=37:=by simp[h.len]
 rw[List.setIfInBounds_toArray,List.set_append_right _ _ (by omega),e]
 simp[Rec.cs]
theorem Bx.there{w:World}{g:Nat}{r:Rec}(h:Bx w g r):w.there g 2 32:=fun j hj=>⟨by rw[h.cp j hj];rfl,Joins.unfrozen_of_block h.blk _⟩
theorem Rp.kept{w w':World}{a:Option Addr}{cap:Nat}{l:List Pc}(h:Rp w a cap l)(hk:∀b off,a=some ⟨b,off,none⟩->w'.heap[b]?=w.heap[b]?):Rp w' a cap l:=by
 refine⟨h.room,h.most,h.none0,fun h0=>?_,h.fits⟩
 obtain⟨b,off,ha,hb,hc⟩:=h.cells h0
 have e:=hk b off ha
 refine⟨b,off,ha,?_,fun j hj i u hu=>(World.cell?_of_block (w:=w) (a:=⟨b,off+j*33+i,none⟩) e).trans (hc j hj i u hu)⟩
 have:w.heap[b]?≠none:=by simp;omega
 rw[<-e] at this
 simpa using this
theorem other_setRow(w:World)(g:Nat)(cs:Array Value)(i:Nat)(h:i≠g):(w.setRow g cs).heap[i]?=w.heap[i]?:=by
 simp only[World.setRow,Array.getElem?_modify]
 rw[if_neg (by omega)]
end Go.Proofs.YtplinkmagnihmaaDoor
namespace Go.Proofs.YtplinkmagnihmaaDoor
open Go.ChangeShapes Go.WideShapes Go.ChangeAt Go.RowKit Go.Deep Go.Lib
def recZ:Rec:=⟨0,0,z32,0,0,ByteArray.empty,none,0,[]⟩
theorem Tryd.zero58:∀w,(zeroValue 58).run Tryd.prog w= .ok (.agg recZ.cs.toArray) w:=fun w=>by kernel_rfl
theorem Tryd.built27:Tryd.prog.built 58 []=some recZ.cs.toArray:=by kernel_rfl
theorem recZ_rv(w:World):Rv w recZ:=⟨rfl,fun j=>get_u8 (x:=z32) (fun z hz=>by rw[List.eq_of_mem_replicate hz];rfl) j,rfl,rfl,rfl,rfl,by unfold maxLen;exact Nat.zero_le _,⟨Nat.le_refl _,by unfold maxLen;exact Nat.zero_le _,fun _=>rfl,fun h=>absurd h (by simp[recZ]),fun x hx=>by cases hx⟩⟩
def mkR(hs he:Int)(hc:List Int)(r:Rec):Rec:= {r with seq:=wrap64 (hs+1),prev:=hc,epoch:=if r.kind=1 then r.epoch else he}
structure Mk (w W:World) (hs he:Int) (hc:List Int) (r:Rec):Prop where
 hd:Bh W w.heap.size hs he hc
 box:Bx W (w.heap.size+1) r
 out:W.heap[w.heap.size+2]?=some (.cells recZ.cs.toArray 58)
 bel:Below w.heap.size w W
theorem Mk.later{w W W':World}{hs he:Int}{hc:List Int}{r:Rec}(h:Mk w W hs he hc r)(hb:Below W.heap.size W W'):Mk w W' hs he hc r:=
 ⟨h.hd.later hb,h.box.later hb,(hb.block _ (Array.getElem?_eq_some_iff.1 h.out).1).trans h.out,Bn h.bel hb⟩
theorem Mk.start(w:World)(hs he:Int)(hc:List Int)(r:Rec)(h1:hc.length=32)(h2:r.prev.length=32):Mk w (((w.alloc (.cells (hdL hs he hc).toArray 27)).alloc (.cells r.cs.toArray 58)).alloc (.cells recZ.cs.toArray 58)) hs he hc r:=by
 have s1:(w.alloc (.cells (hdL hs he hc).toArray 27)).heap.size=w.heap.size+1:=by simp
 have s2:((w.alloc (.cells (hdL hs he hc).toArray 27)).alloc (.cells r.cs.toArray 58)).heap.size=w.heap.size+2:=by simp
 have BX:=(Bx.mk' (w.alloc (.cells (hdL hs he hc).toArray 27)) r h2).later (bel_alc _ (.cells recZ.cs.toArray 58))
 rw[s1] at BX
 have HO:=heap_alc ((w.alloc (.cells (hdL hs he hc).toArray 27)).alloc (.cells r.cs.toArray 58)) (.cells recZ.cs.toArray 58)
 rw[s2] at HO
 exact⟨((Bh.mk' w hs he hc h1).later (bel_alc _ _)).later (bel_alc _ _),BX,HO,Bn (Bn (bel_alc _ _) (bel_alc _ _)) (bel_alc _ _)⟩
theorem Mk.put{w W W':World}{hs he:Int}{hc:List Int}{r r':Rec}(h:Mk w W hs he hc r)(hx:Bx W' (w.heap.size+1) r')(hb:Below (w.heap.size+1) W W')(ho:W'.heap[w.heap.size+2]?=W.heap[w.heap.size+2]?):Mk w W' hs he hc r':=
 ⟨⟨(hb.block _ (Nat.lt_succ_self _)).trans h.hd.blk,h.hd.len⟩,hx,ho.trans h.out,h.bel.trans (hb.mono (Nat.le_succ _))⟩
theorem Mk.seq{w W:World}{hs he:Int}{hc:List Int}{r:Rec}(h:Mk w W hs he hc r)(x:Int):Mk w (W.setCell ⟨w.heap.size+1,0,none⟩ (.int .i64 x)) hs he hc {r with seq:=x}:=
 h.put (h.box.setSeq x) ((Below.refl _ W).setCell (p:=⟨w.heap.size+1,0,none⟩) (Nat.le_refl _) _) (Deep.blk_setCell_other _ _ _ _ (by show w.heap.size+2≠w.heap.size+1;omega))
theorem Mk.epoch{w W:World}{hs he:Int}{hc:List Int}{r:Rec}(h:Mk w W hs he hc r)(x:Int):Mk w (W.setCell ⟨w.heap.size+1,1,none⟩ (.int .i64 x)) hs he hc {r with epoch:=x}:=
 h.put (h.box.setEpoch x) ((Below.refl _ W).setCell (p:=⟨w.heap.size+1,1,none⟩) (Nat.le_refl _) _) (Deep.blk_setCell_other _ _ _ _ (by show w.heap.size+2≠w.heap.size+1;omega))
theorem Mk.row{w W:World}{hs he:Int}{hc:List Int}{r:Rec}(h:Mk w W hs he hc r)(a':Option Addr)(cap':Nat):Mk w (W.setCell ⟨w.heap.size+1,37,none⟩ (.slice a' r.ps.length cap')) hs he hc {r with a:=a',cap:=cap'}:=
 h.put (h.box.setRow a' cap') ((Below.refl _ W).setCell (p:=⟨w.heap.size+1,37,none⟩) (Nat.le_refl _) _) (Deep.blk_setCell_other _ _ _ _ (by show w.heap.size+2≠w.heap.size+1;omega))
theorem other_setCells(b i:Nat)(hne:i≠b):∀(vs:List Value) (o:Nat) (w:World),(w.setCells b o vs).heap[i]?=w.heap[i]?
 | [],_,_=>rfl
 | _::vs,o,_=>(other_setCells b i hne vs (o+1) _).trans (Deep.blk_setCell_other _ _ _ _ hne)
theorem Mk.prev{w W:World}{hs he:Int}{hc:List Int}{r:Rec}(h:Mk w W hs he hc r)(d:List Int)(hd:d.length=32):Mk w (W.setCells (w.heap.size+1) 2 (d.map (Value.int .u8))) hs he hc {r with prev:=d}:=
 h.put (h.box.setPrev d hd) (below_setCells (Nat.le_refl _) _ _ _ (Below.refl _ W)) (other_setCells _ _ (by omega) _ _ _)
def MkP(w':World)(hs he:Int)(hc:List Int)(r:Rec)(v:Value)(e:Int):Prop:=
 e=fltO hs he hc (mkR hs he hc r)∧((e≠0∧v= .agg recZ.cs.toArray)∨(e=0∧∃a' cap',v= .agg ({mkR hs he hc r with a:=a',cap:=cap'}:Rec).cs.toArray∧Rp w' a' cap' r.ps))
theorem flt_few{hs he:Int}{hc:List Int}{r:Rec}(h:fltO hs he hc r=0):r.ps.length<=4096:=by
 unfold fltO at h
 split at h
 ·rename_i hm
  unfold mayB at hm
  simp only[Bool.and_eq_true,decide_eq_true_eq] at hm
  have hk:=hm.2
  have hz:∀q,(sizO q).2=0->q.length<=4096:=fun q hq=>by
   unfold sizO at hq
   split at hq
   ·cases hq
   ·omega
  unfold kindB at hk
  split at hk
  ·simp at hk;simp[hk.2]
  ·split at hk
   ·simp at hk;simp[hk.1]
   ·split at hk
    ·simp at hk;exact hz _ hk.2
    ·cases hk
 ·cases h
theorem wrap_wf(x:Int):(Lit.int .i64 (wrap64 x)).wf=true:=by
 refine wf_mk_i64 ?_ ?_<;>unfold wrap64<;>omega
theorem wpList_alloc_to{P:Program}{ops:Array Oper}{rest:List Oper}{o:Oper}{a:Act}{w:World}{Q:Exit->Act->World->Prop}(hgd:o.guard=none)(ty:TypeId)(ho:o.op= .alloc ty)(d:Option Tmp)(hd:o.dst=d)(cs:Array Value)
 (hz:∀w,(zeroValue ty).run P w= .ok (.agg cs) w) (N:Nat) (hN:N=w.heap.size) (W:World) (hW:W=w.alloc (.cells cs ty)) (h:wpList P ops Q rest (a.put d (.pointer (some ⟨N,0,none⟩))) W):wpList P ops Q (o::rest) a w:=by
 subst hW
 exact wpList_alloc_at hgd ty ho d hd cs hz N hN h
theorem size_recs{r:Rec}(h:r.prev.length=32):(Tryd.prog.info? 58).map (·.size)=some r.cs.toArray.size:=by rw[Rec.cs_size h];exact Tryd.size58
theorem load_recs{W:World}{g:Nat}{r:Rec}(h:W.heap[g]?=some (.cells r.cs.toArray 58))(hl:r.prev.length=32):(loadVar 58 ⟨g,0,none⟩).run Tryd.prog W= .ok (.agg r.cs.toArray) W:=(Bx.mk h hl).load
end Go.Proofs.YtplinkmagnihmaaDoor
namespace Go.Proofs.YtplinkmagnihmaaDoor
open Go.ChangeShapes Go.WideShapes Go.ChangeAt Go.RowKit Go.Deep Go.Lib
theorem Tryd.zero27:∀w,(zeroValue 27).run Tryd.prog w= .ok (.agg (hdL 0 0 z32).toArray) w:=fun w=>by kernel_rfl
theorem Tryd.built55:Tryd.prog.built 27 []=some (hdL 0 0 z32).toArray:=by kernel_rfl
theorem size_hd{n k:Int}{d:List Int}(h:d.length=32):(Tryd.prog.info? 27).map (·.size)=some (hdL n k d).toArray.size:=by rw[List.size_toArray,hdL_len n k d h];exact Tryd.size27
theorem load_hd{W:World}{g:Nat}{n k:Int}{d:List Int}(h:W.heap[g]?=some (.cells (hdL n k d).toArray 27))(hl:d.length=32):(loadVar 27 ⟨g,0,none⟩).run Tryd.prog W= .ok (.agg (hdL n k d).toArray) W:=
 run_loadVar_row (P:=Tryd.prog) W g 27 27 (hdL n k d).toArray (0,0) _ h Tryd.underlying27 rfl (size_hd hl)
structure Nx (w W:World) (hs he:Int) (hc:List Int) (r:Rec):Prop where
 hd:Bh W w.heap.size hs he hc
 box:Bx W (w.heap.size+1) r
 out:W.heap[w.heap.size+2]?=some (.cells (hdL 0 0 z32).toArray 27)
 bel:Below w.heap.size w W
theorem Nx.later{w W W':World}{hs he:Int}{hc:List Int}{r:Rec}(h:Nx w W hs he hc r)(hb:Below W.heap.size W W'):Nx w W' hs he hc r:=
 ⟨h.hd.later hb,h.box.later hb,(hb.block _ (Array.getElem?_eq_some_iff.1 h.out).1).trans h.out,Bn h.bel hb⟩
theorem Nx.start(w:World)(hs he:Int)(hc:List Int)(r:Rec)(h1:hc.length=32)(h2:r.prev.length=32):Nx w (((w.alloc (.cells (hdL hs he hc).toArray 27)).alloc (.cells r.cs.toArray 58)).alloc (.cells (hdL 0 0 z32).toArray 27)) hs he hc r:=by
 have s1:(w.alloc (.cells (hdL hs he hc).toArray 27)).heap.size=w.heap.size+1:=by simp
 have s2:((w.alloc (.cells (hdL hs he hc).toArray 27)).alloc (.cells r.cs.toArray 58)).heap.size=w.heap.size+2:=by simp
 have BX:=(Bx.mk' (w.alloc (.cells (hdL hs he hc).toArray 27)) r h2).later (bel_alc _ (.cells (hdL 0 0 z32).toArray 27))
 rw[s1] at BX
 have HO:=heap_alc ((w.alloc (.cells (hdL hs he hc).toArray 27)).alloc (.cells r.cs.toArray 58)) (.cells (hdL 0 0 z32).toArray 27)
 rw[s2] at HO
 exact⟨((Bh.mk' w hs he hc h1).later (bel_alc _ _)).later (bel_alc _ _),BX,HO,Bn (Bn (bel_alc _ _) (bel_alc _ _)) (bel_alc _ _)⟩
set_option maxHeartbeats 3200000 in
set_option maxRecDepth 100000 in
theorem next_no(hs he:Int)(hc:List Int)(r:Rec)(w:World)(hcl:hc.length=32)(h:Rv w r)(hf:fltO hs he hc r≠0):
 Calls Tryd.prog 42 #[.agg (hdL hs he hc).toArray,.agg r.cs.toArray] w fun e w'=>e= .returned (.tuple #[.agg (hdL 0 0 z32).toArray,.int .i64 (fltO hs he hc r)])∧Below w.heap.size w w':=by
 have N0:=Nx.start w hs he hc r hcl h.len
 obtain⟨W0,hW0⟩:∃W0,W0=((w.alloc (.cells (hdL hs he hc).toArray 27)).alloc (.cells r.cs.toArray 58)).alloc (.cells (hdL 0 0 z32).toArray 27):=⟨_,rfl⟩
 rw[<-hW0] at N0
 have HW0:=hid hW0
 clear hW0
 have HN0:=hid N0
 have HHL:=hid (hdL_len hs he hc hcl)
 have HRL:=hid (Rec.cs_len h.len)
 have HR0:=hid N0.hd.range
 have HX0:=hid N0.box.range
 have HFW:=hid (fault_word hs he hc r _ hcl (h.later N0.bel))
 have s1:(w.alloc (.cells (hdL hs he hc).toArray 27)).heap.size=w.heap.size+1:=by simp
 have HS2:Hid (w.heap.size+2=((w.alloc (.cells (hdL hs he hc).toArray 27)).alloc (.cells r.cs.toArray 58)).heap.size):=by show _=_;simp
 clear N0 h
 generalize fltO hs he hc r=F at *
 go_enter Tryd.func42,Tryd.ntmps42
 go_wp2_with (first | refine wpList_alloc_to rfl 27 rfl (some 4) rfl _ Tryd.zero27 (w.heap.size+2) HS2.out W0 HW0.out ?_ | refine wpList_load_g rfl 27 _ rfl w.heap.size 0 rfl (hdL hs he hc) _ HR0.out Tryd.underlying27 rfl (by rw[HHL.out];exact Tryd.size27) ?_ | refine wpList_load_g rfl 58 _ rfl (w.heap.size+1) 0 rfl r.cs _ HX0.out Tryd.underlying58 rfl (by rw[HRL.out];exact Tryd.size58) ?_ | fail)
 refine HFW.out.mono ?_
 rintro _ W4 ⟨rfl,hb4⟩
 have N4:=HN0.out.later hb4
 have HO4:=hid N4.out
 have HB4:=hid N4.bel
 clear HFW hb4 HN0 HR0 HX0 N4 s1
 go_wp2_with (first | refine wpList_buildTo rfl 27 _ rfl (some 12) rfl (hdL 0 0 z32).toArray Tryd.built55 ?_ | refine wpList_store_rowTo rfl 27 _ _ rfl rfl (w.heap.size+2) (hdL 0 0 z32).toArray rfl rfl 27 _ HO4.out (size_hd rfl) rfl (all_oneCell_toArray (hdL_one _ _ _)) ?_ | fail)
 refine bodyPost_ret (results_row_tmp rfl _ _ (w.heap.size+2) _ rfl (load_hd (setRow_heap _ _ _ _ _ _ HO4.out) rfl)) rfl ?_
 exact⟨rfl,below_setRow HB4.out (by omega) _⟩
def recA:Rec:=⟨0,1,z32,1,0,ByteArray.empty,none,0,[]⟩
def recB:Rec:=⟨1,1,z32,3,0,⟨#[97]⟩,none,0,[]⟩
theorem Tryd.builtA:Tryd.prog.built 58 [(3,.int .i64 1),(1,.int .i64 1)]=some recA.cs.toArray:=by kernel_rfl
theorem Tryd.builtB:Tryd.prog.built 58 [(0,.int .i64 1),(1,.int .i64 1),(3,.int .i64 3),(5,.string ⟨#[97]⟩)]=some recB.cs.toArray:=by kernel_rfl
theorem z32_u8(j:Nat):(Lit.int .u8 (z32.getD j 0)).wf=true:=get_u8 (x:=z32) (fun z hz=>by rw[List.eq_of_mem_replicate hz];rfl) j
theorem rp_nil(w:World):Rp w none 0 []:=⟨Nat.le_refl _,by unfold maxLen;exact Nat.zero_le _,fun _=>rfl,fun h=>absurd h (by simp),fun x hx=>by cases hx⟩
theorem recA_rv(w:World):Rv w recA:=⟨rfl,z32_u8,rfl,rfl,rfl,rfl,by unfold maxLen;exact Nat.zero_le _,rp_nil w⟩
theorem recB_rv(w:World):Rv w recB:=⟨rfl,z32_u8,rfl,rfl,rfl,rfl,by unfold maxLen;decide,rp_nil w⟩
theorem flA:fltO 0 0 z32 (mkR 0 0 z32 recA)=0:=by decide +kernel
theorem flB:fltO 0 0 z32 recB=131:=by decide +kernel
def recC(a:Option Addr)(cap:Nat):Rec:=⟨1,1,z32,1,0,ByteArray.empty,a,cap,[]⟩
theorem mkA(a:Option Addr)(cap:Nat):({mkR 0 0 z32 recA with a:=a,cap:=cap}:Rec)=recC a cap:=by
 have h1:wrap64 (0+1)=1:=by unfold wrap64;omega
 have h2:(if recA.kind=1 then recA.epoch else (0:Int))=1:=if_pos rfl
 unfold mkR
 rw[h1,h2]
 rfl
theorem may_C(a:Option Addr)(cap:Nat):mayB (recC a cap)=true:=by
 show mayB (recC none 0)=true
 decide +kernel
def bytC:List Int:= [82,1,1,1]++z32++ [0]
theorem wr_C(a:Option Addr)(cap:Nat):wrB (recC a cap)=bytC:=by
 show wrB (recC none 0)=bytC
 decide +kernel
theorem bytC_len:bytC.length=37:=rfl
theorem bytC_u8:∀j,(Lit.int .u8 (bytC.getD j 0)).wf=true:=get_u8 (by decide)
end Go.Proofs.YtplinkmagnihmaaDoor
