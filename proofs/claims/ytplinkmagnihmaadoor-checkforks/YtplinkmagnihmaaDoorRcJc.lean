/-
  Records, pieces and heads as arguments: what is handed in is one, and reads as one. A record cut to what a law looks at. Records that are alike: slices.Equal at pieces, record's Same, the document's Same. The head behind a record: the contract of record's Next. Declarations that later texts of another seat want, out of several.
-/
import Derived.Test.YtplinkmagnihmaaDoorBas
import Derived.Test.YtplinkmagnihmaaDoorShDigest
import Derived.Test.YtplinkmagnihmaaDoorRcJb
namespace Go.Proofs.YtplinkmagnihmaaDoor
open Go.RowKit

/-- The digest of a row. -/
def digL (bs : List Int) : List Int := (Sh.Sha.digest (nats bs)).map fun z : Nat => (z : Int)
theorem arr_dig (l : List Nat) : Sh.arr .u8 l = u8A (l.map fun z : Nat => (z : Int)) := by simp [Sh.arr, u8A, List.map_map, Function.comp_def]
theorem digL_len (bs : List Int) : (digL bs).length = 32 := by simp only [digL, List.length_map]; rfl
theorem four_u8 (x : Nat) : ∀ z ∈ Sh.Sha.four x, z < 256 := by
  intro z hz
  simp only [Sh.Sha.four, List.mem_cons, List.not_mem_nil, or_false] at hz
  rcases hz with rfl | rfl | rfl | rfl <;> omega
theorem bytes_u8 (s : Sh.Sha.St) : ∀ z ∈ Sh.Sha.bytes s, z < 256 := by
  intro z hz
  simp only [Sh.Sha.bytes, List.mem_append] at hz
  rcases hz with ((((((h | h) | h) | h) | h) | h) | h) | h <;> exact four_u8 _ z h
theorem dig_u8 (l : List Nat) (j : Nat) : (Sh.Sha.digest l).getD j 0 < 256 := (Sh.all_lt _).2 (bytes_u8 _) j
theorem digL_u8 (bs : List Int) (j : Nat) : 0 ≤ (digL bs).getD j 0 ∧ (digL bs).getD j 0 ≤ 255 := by
  unfold digL
  have := dig_u8 (nats bs) j
  rw [show ((Sh.Sha.digest (nats bs)).map fun z : Nat => (z : Int)).getD j 0 = (((Sh.Sha.digest (nats bs)).getD j 0 : Nat) : Int) from by
    simp only [List.getD, List.getElem?_map]
    cases (Sh.Sha.digest (nats bs))[j]? <;> rfl]
  omega
theorem Ri.rdS {w : World} {b off cap : Nat} {zs : List Int} (h : Ri w .u8 (some ⟨b, off, none⟩) cap zs) : Sh.Rd w (.slice (some ⟨b, off, none⟩) zs.length cap) (some ⟨b, off, none⟩) cap (nats zs) := by
  refine ⟨by rw [nats_len], by rw [nats_len]; exact h.room, h.most, fun h0 => ?_, fun j => ?_, fun h => by cases h⟩
  · rw [nats_len] at h0 ⊢
    obtain ⟨b', off', ha, hb, hc⟩ := h.cells h0
    refine ⟨b', off', ha, hb, fun j hj => ?_⟩
    have := wf_u8 (h.fits j)
    rw [hc j hj, nats_get, Int.toNat_of_nonneg this.1]
  · have := wf_u8 (h.fits j)
    rw [nats_get]; omega
set_option maxHeartbeats 3200000 in
set_option maxRecDepth 100000 in
theorem psum_word (b off cap : Nat) (zs : List Int) (w : World) (hl : Sh.Laid w) (hr : Ri w .u8 (some ⟨b, off, none⟩) cap zs) (hn : zs.length ≤ 100000) (g : Nat) (hg : g = w.heap.size) :
    Calls Tryd.prog 61 #[.slice (some ⟨g, 0, none⟩) 1 1] (w.alloc (.cells #[.slice (some ⟨b, off, none⟩) zs.length cap] 22)) fun e w' => e = .returned (.agg (u8A (digL zs))) ∧ Below w.heap.size w w' := by
  have hb := bel_alc w (.cells #[.slice (some ⟨b, off, none⟩) zs.length cap] 22)
  have e0 := heap_alc w (.cells #[.slice (some ⟨b, off, none⟩) zs.length cap] 22)
  have hps : Sh.Ps (w.alloc (.cells #[.slice (some ⟨b, off, none⟩) zs.length cap] 22)) (some ⟨g, 0, none⟩) 1 [nats zs] := by
    refine ⟨Nat.le_refl _, by unfold maxLen; omega, fun _ => ⟨g, 0, rfl, by rw [hg]; simp, fun j hj => ?_⟩⟩
    have : j = 0 := by simp at hj; omega
    subst this
    exact ⟨.slice (some ⟨b, off, none⟩) zs.length cap, some ⟨b, off, none⟩, cap, by rw [hg, Nat.zero_add]; exact Joins.cell_of_block e0 0, hr.rdS.later hb⟩
  have h := Sh.sum_word (some ⟨g, 0, none⟩) 1 [nats zs] (w.alloc (.cells #[.slice (some ⟨b, off, none⟩) zs.length cap] 22)) (hl.later hb) hps (by simp [nats_len]; omega)
  rw [show [nats zs].flatten = nats zs from by simp] at h
  refine h.mono (fun e w' h => ⟨?_, Bn hb h.2⟩)
  rw [h.1, arr_dig]
  rfl
end Go.Proofs.YtplinkmagnihmaaDoor
namespace Go.Proofs.YtplinkmagnihmaaDoor
open Go.ChangeShapes Go.WideShapes Go.ChangeAt Go.RowKit Go.Deep Go.Lib
theorem list32(d:List Int)(h:d.length=32):∃a0 a1 a2 a3 a4 a5 a6 a7 a8 a9 a10 a11 a12 a13 a14 a15 a16 a17 a18 a19 a20 a21 a22 a23 a24 a25 a26 a27 a28 a29 a30 a31:Int,d= [a0,a1,a2,a3,a4,a5,a6,a7,a8,a9,a10,a11,a12,a13,a14,a15,a16,a17,a18,a19,a20,a21,a22,a23,a24,a25,a26,a27,a28,a29,a30,a31]:=by
 match d,h with
 | [a0,a1,a2,a3,a4,a5,a6,a7,a8,a9,a10,a11,a12,a13,a14,a15,a16,a17,a18,a19,a20,a21,a22,a23,a24,a25,a26,a27,a28,a29,a30,a31],_=>exact⟨_,_,_,_,_,_,_,_,_,_,_,_,_,_,_,_,_,_,_,_,_,_,_,_,_,_,_,_,_,_,_,_,rfl⟩
theorem built55(n k:Int)(d:List Int)(h:d.length=32):Tryd.prog.built 27 [(0,.int .i64 n),(1,.int .i64 k),(2,.agg (u8A d))]=some (hdL n k d).toArray:=by
 obtain⟨a0,a1,a2,a3,a4,a5,a6,a7,a8,a9,a10,a11,a12,a13,a14,a15,a16,a17,a18,a19,a20,a21,a22,a23,a24,a25,a26,a27,a28,a29,a30,a31,rfl⟩:=list32 d h
 kernel_rfl
theorem wp_buildTo{P:Program}{o:Oper}{a:Act}{w:World}{K:Act->World->Prop}{Q:Exit->Act->World->Prop}(t:TypeId)(parts:Array (Nat×Operand))(ho:o.op= .build t parts)(cells:Array Value)(hf:P.built t (parts.map fun(i,x)=>(i,a.eval x)).toList=some cells)
 (h:K (a.put o.dst (.agg cells)) w):o.wp P a w K Q:=by
 refine wp_build t parts ho (by rw[hf];rfl) ?_
 rw[hf]
 exact h
theorem Nx.drew{w W:World}{hs he:Int}{hc:List Int}{r:Rec}(h:Nx w W hs he hc r):Nx w W.drew hs he hc r:=⟨⟨h.hd.blk,h.hd.len⟩,⟨h.box.blk,h.box.len⟩,h.out,h.bel.drew⟩
def nxH(r:Rec):List Value:=hdL r.seq r.epoch (digL (wrB r))
set_option maxHeartbeats 3200000 in
set_option maxRecDepth 100000 in
theorem next_ok(hs he:Int)(hc:List Int)(r:Rec)(w:World)(hcl:hc.length=32)(h:Rv w r)(hL:Sh.Laid w)(hf:fltO hs he hc r=0)(hm:mayB r=true)(hwl:(wrB r).length<=100000)(hw8:∀j,(Lit.int .u8 ((wrB r).getD j 0)).wf=true):
 Calls Tryd.prog 42 #[.agg (hdL hs he hc).toArray,.agg r.cs.toArray] w fun e w'=>e= .returned (.tuple #[.agg (nxH r).toArray,.int .i64 0])∧Below w.heap.size w w':=by
 have N0:=Nx.start w hs he hc r hcl h.len
 obtain⟨W0,hW0⟩:∃W0,W0=((w.alloc (.cells (hdL hs he hc).toArray 27)).alloc (.cells r.cs.toArray 58)).alloc (.cells (hdL 0 0 z32).toArray 27):=⟨_,rfl⟩
 rw[<-hW0] at N0
 have HW0:=hid hW0
 clear hW0
 have HN0:=hid N0
 have HHL:=hid (hdL_len hs he hc hcl)
 have HRL:=hid (Rec.cs_len h.len)
 have HR0:=hid N0.hd.range
 have HX0:=hid N0.box.range
 have HFW:=hid (fault_word hs he hc r _ hcl (h.later N0.bel))
 have HWW:=hid (fun V (hV:Below w.heap.size w V)=>written_word r V (h.later hV) hm)
 have HLA:=hid hL
 have HW8:=hid hw8
 have HWL:=hid hwl
 have HNE:Hid (0<(wrB r).length):=by
  show _<_
  unfold wrB wrH
  split
  ·simp
  ·split<;>simp
 have s1:(w.alloc (.cells (hdL hs he hc).toArray 27)).heap.size=w.heap.size+1:=by simp
 have HS2:Hid (w.heap.size+2=((w.alloc (.cells (hdL hs he hc).toArray 27)).alloc (.cells r.cs.toArray 58)).heap.size):=by show _=_;simp
 rw[hf] at HFW
 have HPS:=hid (fun bx ox cx V (q1:Sh.Laid V) q2 g q3=>psum_word bx ox cx (wrB r) V q1 q2 hwl g q3)
 have HDL:=hid (digL_len (wrB r))
 unfold nxH
 generalize digL (wrB r)=D at *
 generalize wrB r=BB at *
 have HSD:Hid ((Tryd.prog.info? 27).map (·.size)=some (hdL r.seq r.epoch D).toArray.size):=size_hd HDL.out
 have HSE:Hid ((hdL 0 0 z32).toArray.size=(hdL r.seq r.epoch D).toArray.size):=by show _=_;rw[List.size_toArray,List.size_toArray,hdL_len _ _ _ rfl,hdL_len _ _ _ HDL.out]
 have HBD:=hid (built55 r.seq r.epoch D HDL.out)
 have HON:=hid (all_oneCell_toArray (hdL_one r.seq r.epoch D))
 have HLH:=hid (fun V (q:V.heap[w.heap.size+2]?=_)=>load_hd (W:=V) (g:=w.heap.size+2) (n:=r.seq) (k:=r.epoch) (d:=D) q HDL.out)
 generalize hdN:(hdL r.seq r.epoch D).toArray=DD at *
 clear N0 h hL hf hm hw8 hwl hdN
 go_enter Tryd.func42,Tryd.ntmps42
 go_wp2_with (first | refine wpList_alloc_to rfl 27 rfl (some 4) rfl _ Tryd.zero27 (w.heap.size+2) HS2.out W0 HW0.out ?_ | refine wpList_load_g rfl 27 _ rfl w.heap.size 0 rfl (hdL hs he hc) _ HR0.out Tryd.underlying27 rfl (by rw[HHL.out];exact Tryd.size27) ?_ | refine wpList_load_g rfl 58 _ rfl (w.heap.size+1) 0 rfl r.cs _ HX0.out Tryd.underlying58 rfl (by rw[HRL.out];exact Tryd.size58) ?_ | fail)
 refine HFW.out.mono ?_
 rintro _ W4 ⟨rfl,hb4⟩
 have HN4:=hid (HN0.out.later hb4)
 clear HFW hb4 HN0 HR0 HX0 s1
 go_wp2_with fail
 refine wp_region_held_drew (S:=fun V=>Bx V (w.heap.size+1) r∧Below w.heap.size w V) (by kernel_rfl) ⟨HN4.out.drew.box,HN4.out.drew.bel⟩ (fun hS0=>?_)
 have hN0:=HN4.out.drew
 generalize W4.drew=v0 at *
 simp only[List.size_toArray,List.length_cons,List.length_nil,Nat.reduceAdd]
 refine Ord.take (i:=0) (d:=14) (v:=?v0) rfl rfl (by as_aux_lemma=>kernel_rfl) (by as_aux_lemma=>kernel_rfl) (by as_aux_lemma=>kernel_rfl) (fun _ _ _ h=>h) (by rfl) ?hA0 (by assumption) ?_
 case hA0=>intro V hSw;go_simp;try with_reducible rfl
 try simp only[List.setIfInBounds_toArray,List.set_cons_zero,List.set_cons_succ]
 refine Ord.take (i:=1) (d:=15) (v:= .int .i64 r.seq) rfl rfl (by as_aux_lemma=>kernel_rfl) (by as_aux_lemma=>kernel_rfl) (by as_aux_lemma=>kernel_rfl) (fun _ _ _ h=>h) (by rfl) ?hA1 (by assumption) ?_
 case hA1=>intro V hSw;have q:=hSw.1.c0;go_simp;try with_reducible rfl
 try simp only[List.setIfInBounds_toArray,List.set_cons_zero,List.set_cons_succ]
 refine Ord.take (i:=2) (d:=16) (v:=?v2) rfl rfl (by as_aux_lemma=>kernel_rfl) (by as_aux_lemma=>kernel_rfl) (by as_aux_lemma=>kernel_rfl) (fun _ _ _ h=>h) (by rfl) ?hA2 (by assumption) ?_
 case hA2=>intro V hSw;go_simp;try with_reducible rfl
 try simp only[List.setIfInBounds_toArray,List.set_cons_zero,List.set_cons_succ]
 refine Ord.take (i:=3) (d:=17) (v:= .int .i64 r.epoch) rfl rfl (by as_aux_lemma=>kernel_rfl) (by as_aux_lemma=>kernel_rfl) (by as_aux_lemma=>kernel_rfl) (fun _ _ _ h=>h) (by rfl) ?hA3 (by assumption) ?_
 case hA3=>intro V hSw;have q:=hSw.1.c1;go_simp;try with_reducible rfl
 try simp only[List.setIfInBounds_toArray,List.set_cons_zero,List.set_cons_succ]
 refine Ord.take (i:=4) (d:=18) (v:= .agg r.cs.toArray) rfl rfl (by as_aux_lemma=>kernel_rfl) (by as_aux_lemma=>kernel_rfl) (by as_aux_lemma=>kernel_rfl) (fun _ _ _ h=>h) (by rfl) ?hA4 (by assumption) ?_
 case hA4=>intro V hSw;exact exec_load 58 (.tmp 3) rfl (w.heap.size+1) 0 rfl hSw.1.load
 try simp only[List.setIfInBounds_toArray,List.set_cons_zero,List.set_cons_succ]
 refine wpAnyH_ready (rs:= [5]) (by as_aux_lemma=>kernel_rfl) (by simp) (AllReadyH.cons rfl (fun K hK=>?_) AllReadyH.nil)
 go_simp
 refine(HWW.out v0 hS0.2).mono ?_
 rintro _ v1 ⟨v,rfl,ho,hb1⟩
 obtain⟨ax,cx,rfl,hrx⟩:=Ri.own ho HW8.out
 obtain⟨bx,ox,rfl,_,_⟩:=hrx.cells HNE.out
 have hN1:=hN0.later hb1
 have hS1:Bx v1 (w.heap.size+1) r∧Below w.heap.size w v1:=⟨hN1.box,hN1.bel⟩
 have HRX:=hid hrx
 refine hK.out _ _ hS1 (fun _=>?_)
 clear hK K ho hrx hb1
 try simp only[List.setIfInBounds_toArray,List.set_cons_zero,List.set_cons_succ]
 refine wpAnyH_ready (rs:= [6]) (by as_aux_lemma=>kernel_rfl) (by simp) (AllReadyH.cons rfl (fun K hK=>?_) AllReadyH.nil)
 go_simp
 have hb2:=bel_alc v1 (.cells #[.slice (some ⟨bx,ox,none⟩) BB.length cx] 22)
 have hN2:=hN1.later hb2
 have hS2:=And.intro hN2.box hN2.bel
 refine hK.out _ _ hS2 (fun _=>?_)
 clear hK K
 try simp only[List.setIfInBounds_toArray,List.set_cons_zero,List.set_cons_succ]
 refine wpAnyH_ready (rs:= [7]) (by as_aux_lemma=>kernel_rfl) (by simp) (AllReadyH.cons rfl (fun K hK=>?_) AllReadyH.nil)
 go_simp
 refine(HPS.out bx ox cx v1 (HLA.out.later hS1.2) HRX.out v1.heap.size rfl).mono ?_
 rintro _ v3 ⟨rfl,hb3⟩
 have hN3:=hN1.later hb3
 have hS3:Bx v3 (w.heap.size+1) r∧Below w.heap.size w v3:=⟨hN3.box,hN3.bel⟩
 refine hK.out _ _ hS3 (fun _=>?_)
 clear hK K hb2 hS2 hN2
 try simp only[List.setIfInBounds_toArray,List.set_cons_zero,List.set_cons_succ]
 refine wpAnyH_ready (rs:= [8]) (by as_aux_lemma=>kernel_rfl) (by simp) (AllReadyH.cons rfl (fun K hK=>?_) AllReadyH.nil)
 rw[if_pos (by rfl)]
 refine wp_buildTo 27 _ rfl DD ?hbuilt ?_
 case hbuilt=>
  refine Eq.trans (congrArg (Tryd.prog.built 27) ?_) HBD.out
  first | rfl | simp[go_sem] | trace_state
 refine hK.out _ _ hS3 (fun _=>?_)
 clear hK K
 try simp only[List.setIfInBounds_toArray,List.set_cons_zero,List.set_cons_succ]
 refine wpAnyH_ready (rs:= [9]) (by as_aux_lemma=>kernel_rfl) (by simp) (AllReadyH.cons rfl (fun K hK=>?_) AllReadyH.nil)
 rw[if_pos (by rfl)]
 refine wp_store_row 27 _ _ rfl (w.heap.size+2) DD rfl rfl 27 _ hN3.out HSD.out HSE.out HON.out ?_
 have hS4:Bx (v3.setRow (w.heap.size+2) DD) (w.heap.size+1) r∧Below w.heap.size w (v3.setRow (w.heap.size+2) DD):=⟨⟨(other_setRow _ _ _ _ (by omega)).trans hS3.1.blk,hS3.1.len⟩,below_setRow hS3.2 (by omega) _⟩
 refine hK.out _ _ hS4 (fun _=>?_)
 clear hK K
 have HE4:=hid (setRow_heap _ _ _ DD _ _ hN3.out)
 generalize v3.setRow (w.heap.size+2) DD=v4 at *
 try simp only[List.setIfInBounds_toArray,List.set_cons_zero,List.set_cons_succ]
 refine Ord.take (i:=10) (d:=5) (v:=?v10) rfl rfl (by as_aux_lemma=>kernel_rfl) (by as_aux_lemma=>kernel_rfl) (by as_aux_lemma=>kernel_rfl) (fun _ _ _ h=>h) (by rfl) ?hA10 (by assumption) ?_
 case hA10=>intro V hSw;go_simp;try with_reducible rfl
 try simp only[List.setIfInBounds_toArray,List.set_cons_zero,List.set_cons_succ]
 refine wpAnyH_done (by as_aux_lemma=>kernel_rfl) ?_ _
 go_wp2
 refine bodyPost_ret (results_row_tmp rfl _ _ (w.heap.size+2) _ rfl (HLH.out _ HE4.out)) rfl ?_
 exact⟨rfl,hS4.2⟩
end Go.Proofs.YtplinkmagnihmaaDoor
namespace Go.Proofs.YtplinkmagnihmaaDoor
open Go.ChangeShapes Go.WideShapes Go.ChangeAt Go.RowKit Go.Deep
theorem Tryd.fields76:Tryd.prog.underlying 80=some (.struct (Tryd.prog.fieldsOf 80)):=by kernel_rfl
theorem guard76:Tryd.prog.eqGuardType Tryd.prog.depth 80=false:=by kernel_rfl
theorem eqD(d:Nat)(l m:List Int)(hl:l.length=32)(hm:m.length=32)(w:World):(Op.equalIn (d+2) 25 (.agg (u8A l)) (.agg (u8A m))).run Tryd.prog w= .ok (decide (l=m)) w:=by
 obtain⟨i,hi⟩:∃i,Tryd.prog.info? 5=some i:=info_of_underlying Tryd.underlying5
 rw[show d+2=(d+1)+1 from rfl,run_equalIn_array w (d+1) _ _ Tryd.underlying25 hi,Tryd.cells5,eq_itemsI d Tryd.underlying5 l m w _ (fun j hj=>by rw[hl,hm];have:=List.mem_range.1 hj;exact⟨this,this⟩)]
 refine congrArg (fun b=>Result.ok b w) ?_
 by_cases h:l=m
 ·subst h;simp
 ·rw[decide_eq_false h,Bool.eq_false_iff]
  intro hc
  rw[List.all_eq_true] at hc
  exact h (il_ext (by omega) (fun j hj=>by have:=hc j (List.mem_range.2 (by omega));simpa using this))
set_option maxRecDepth 100000 in
theorem partD(x:Pc)(hx:x.1.length=32)(w:World):(part 25 (pcC x).toArray 0).run Tryd.prog w= .ok (.agg (u8A x.1)) w:=by
 obtain⟨l,n⟩:=x
 obtain⟨a0,a1,a2,a3,a4,a5,a6,a7,a8,a9,a10,a11,a12,a13,a14,a15,a16,a17,a18,a19,a20,a21,a22,a23,a24,a25,a26,a27,a28,a29,a30,a31,h⟩:=list32 l hx
 subst h
 kernel_rfl
set_option maxRecDepth 100000 in
theorem partN(x:Pc)(hx:x.1.length=32)(w:World):(part 3 (pcC x).toArray 32).run Tryd.prog w= .ok (.int .i64 x.2) w:=by
 obtain⟨l,n⟩:=x
 obtain⟨a0,a1,a2,a3,a4,a5,a6,a7,a8,a9,a10,a11,a12,a13,a14,a15,a16,a17,a18,a19,a20,a21,a22,a23,a24,a25,a26,a27,a28,a29,a30,a31,h⟩:=list32 l hx
 subst h
 kernel_rfl
set_option maxRecDepth 100000 in
theorem eq76(x y:Pc)(hx:x.1.length=32)(hy:y.1.length=32)(w:World):(Op.equalIn 10000 80 (.agg (pcC x).toArray) (.agg (pcC y).toArray)).run Tryd.prog w= .ok (decide (x=y)) w:=by
 rw[show(10000:Nat)=9999+1 from rfl,run_equalIn_struct w 9999 80 _ _ Tryd.fields76 (by kernel_rfl)]
 have hf:∃f0 f1:Field,(Tryd.prog.fieldsOf 80).toList= [f0,f1]∧f0.type=25∧f0.offset=0∧f1.type=3∧f1.offset=32∧f0.name ≠ "_" ∧f1.name ≠ "_" :=⟨_,_,rfl,rfl,rfl,rfl,rfl,by decide,by decide⟩
 obtain⟨f0,f1,hl,t0,o0,t1,o1,n0,n1⟩:=hf
 rw[hl]
 simp only[Op.eqFields,n0,n1,ne_eq,not_false_eq_true,if_true,Sem.run_bind,t0,o0,t1,o1,partD x hx,partD y hy,partN x hx,partN y hy,Result.andThen_ok,eqD 9997 x.1 y.1 hx hy,Sem.run_ite]
 rw[show(9999:Nat)=9998+1 from rfl,run_equalIn_int w 9998 3 .i64 .i64 _ _ Tryd.underlying3]
 obtain⟨x1,x2⟩:=x
 obtain⟨y1,y2⟩:=y
 by_cases h1:x1=y1
 ·by_cases h2:x2=y2
  ·subst h1 h2;simp[Result.andThen]
  ·have hb:(x2==y2)=false:=by rw[beq_eq_false_iff_ne];exact h2
   simp[h1,h2,hb,Result.andThen]
 ·simp[h1]
theorem run_neq_op{P:Program}{oi:Oper}{ρ:Operand->Value}{t t2:TypeId}{x y:Operand}(ho:oi.op= .binOp .neq t x y t2){xs ys:Array Value}{b:Bool}(hx:ρ x= .agg xs)(hy:ρ y= .agg ys)(hg:P.eqGuardType P.depth t=false){w:World}
 (h:(Op.equalIn 10000 t (.agg xs) (.agg ys)).run P w= .ok b w):(execOp ρ oi).run P w= .ok (.value (.bool (!b))) w:=by
 unfold execOp
 simp only[ho,hx,hy,Sem.run_bind,run_eqGuard_agg w .neq t x y xs ys hg,run_neq_struct w t xs ys,h,Result.andThen_ok]
 rfl
theorem ba_inj{a b:ByteArray}(h:a.toList=b.toList):a=b:=by
 rw[ByteArray.toList_eq,ByteArray.toList_eq] at h
 cases a with
 | mk x=>
   cases b with
   | mk y=>
     have:x=y:=Array.toList_inj.1 h
     rw[this]
def sameB(a b:Rec):Bool:=decide (a.seq=b.seq∧a.epoch=b.epoch∧a.prev=b.prev∧a.kind=b.kind∧a.site=b.site∧a.path=b.path∧a.ps=b.ps)
theorem load_pc{V:World}{b o:Nat}{x:Pc}(h:V.rangeAt b o (pcC x))(hl:x.1.length=32):(loadVar 80 ⟨b,o,none⟩).run Tryd.prog V= .ok (.agg (pcC x).toArray) V:=run_loadVar_mid V b o 80 (pcC x) _ h Tryd.underlying80 rfl (by rw[pcC_len hl];exact Tryd.size80)
end Go.Proofs.YtplinkmagnihmaaDoor
namespace Go.Proofs.YtplinkmagnihmaaDoor
open Go.ChangeShapes Go.WideShapes Go.ChangeAt Go.RowKit Go.Deep Go.Lib
def cutP(s:ByteArray):ByteArray:=if 300<s.size then s.extract 0 300 else s
def cutR(r:Rec):Rec:= {r with ps:=r.ps.take 60,path:=cutP r.path}
theorem Bx.setPs{w:World}{g:Nat}{r:Rec}(h:Bx w g r)(l:List Pc):Bx (w.setCell ⟨g,37,none⟩ (.slice r.a l.length r.cap)) g {r with ps:=l}:=by
 refine⟨?_,h.len⟩
 rw[Joins.block_setCell h.blk,show r.cs=([Value.int .i64 r.seq,.int .i64 r.epoch]++r.prev.map (Value.int .u8)++ [.int .i64 r.kind,.int .i64 r.site,.string r.path])++ [.slice r.a r.ps.length r.cap] from by simp[Rec.cs]]
 have e:([Value.int .i64 r.seq,.int .i64 r.epoch]++r.prev.map (Value.int .u8)++ [Value.int .i64 r.kind,Value.int .i64 r.site,Value.string r.path]).length=37:=by simp[h.len]
 rw[List.setIfInBounds_toArray,List.set_append_right _ _ (by omega),e]
 simp[Rec.cs]
theorem Bx.setPath{w:World}{g:Nat}{r:Rec}(h:Bx w g r)(s:ByteArray):Bx (w.setCell ⟨g,36,none⟩ (.string s)) g {r with path:=s}:=by
 refine⟨?_,h.len⟩
 rw[Joins.block_setCell h.blk,show r.cs=([Value.int .i64 r.seq,.int .i64 r.epoch]++r.prev.map (Value.int .u8)++ [.int .i64 r.kind,.int .i64 r.site])++ [.string r.path,.slice r.a r.ps.length r.cap] from by simp[Rec.cs]]
 have e:([Value.int .i64 r.seq,.int .i64 r.epoch]++r.prev.map (Value.int .u8)++ [Value.int .i64 r.kind,Value.int .i64 r.site]).length=36:=by simp[h.len]
 rw[List.setIfInBounds_toArray,List.set_append_right _ _ (by omega),e]
 simp[Rec.cs]
structure Ct (w W:World) (r:Rec):Prop where
 box:Bx W w.heap.size r
 out:W.heap[w.heap.size+1]?=some (.cells recZ.cs.toArray 58)
 bel:Below w.heap.size w W
theorem Ct.put{w W W':World}{r r':Rec}(h:Ct w W r)(hx:Bx W' w.heap.size r')(hb:Below w.heap.size W W')(ho:W'.heap[w.heap.size+1]?=W.heap[w.heap.size+1]?):Ct w W' r':=⟨hx,ho.trans h.out,h.bel.trans hb⟩
theorem Ct.start(w:World)(r:Rec)(h:r.prev.length=32):Ct w ((w.alloc (.cells r.cs.toArray 58)).alloc (.cells recZ.cs.toArray 58)) r:=by
 have s1:(w.alloc (.cells r.cs.toArray 58)).heap.size=w.heap.size+1:=by simp
 have HO:=heap_alc (w.alloc (.cells r.cs.toArray 58)) (.cells recZ.cs.toArray 58)
 rw[s1] at HO
 exact⟨(Bx.mk' w r h).later (bel_alc _ _),HO,Bn (bel_alc _ _) (bel_alc _ _)⟩
theorem Ct.ps{w W:World}{r:Rec}(h:Ct w W r)(l:List Pc):Ct w (W.setCell ⟨w.heap.size,37,none⟩ (.slice r.a l.length r.cap)) {r with ps:=l}:=
 h.put (h.box.setPs l) ((Below.refl _ W).setCell (p:=⟨w.heap.size,37,none⟩) (Nat.le_refl _) _) (Deep.blk_setCell_other _ _ _ _ (by show w.heap.size+1≠w.heap.size;omega))
theorem Ct.path{w W:World}{r:Rec}(h:Ct w W r)(s:ByteArray):Ct w (W.setCell ⟨w.heap.size,36,none⟩ (.string s)) {r with path:=s}:=
 h.put (h.box.setPath s) ((Below.refl _ W).setCell (p:=⟨w.heap.size,36,none⟩) (Nat.le_refl _) _) (Deep.blk_setCell_other _ _ _ _ (by show w.heap.size+1≠w.heap.size;omega))
theorem cut_len(s:ByteArray):(cutP s).size<=300:=by
 unfold cutP
 split
 ·simp[ByteArray.size_extract];omega
 ·omega
theorem cut_rv{w:World}{r:Rec}(h:Rv w r):Rv w (cutR r):=⟨h.len,h.u8,h.seq,h.epoch,h.kind,h.site,by have:=cut_len r.path;show(cutP r.path).size<=_;unfold maxLen;omega,h.row.take 60⟩
end Go.Proofs.YtplinkmagnihmaaDoor
namespace Go.Proofs.YtplinkmagnihmaaDoor
open Go.ChangeShapes Go.WideShapes Go.ChangeAt Go.RowKit Go.Deep Go.Lib
section
variable {H : Type} {enc : TypeId × Value → H} {W : World} {fuel : Nat} {cs : List Value} {x : DataW H × List MemPlace}
theorem Tryd.cells24:Tryd.prog.cellsOf 24=32:=by kernel_rfl
theorem Tryd.cells25:Tryd.prog.cellsOf 25=32:=by kernel_rfl
theorem Tryd.cells55:Tryd.prog.cellsOf 55=1:=by kernel_rfl
theorem Tryd.cells9:Tryd.prog.cellsOf 9=1:=by kernel_rfl
theorem Tryd.cells56:Tryd.prog.cellsOf 56=1:=by kernel_rfl
theorem Tryd.cells80:Tryd.prog.cellsOf 80=33:=by kernel_rfl
theorem Tryd.cells58:Tryd.prog.cellsOf 58=38:=by kernel_rfl
theorem Tryd.cells27:Tryd.prog.cellsOf 27=34:=by kernel_rfl
theorem all_ints{cs:List Value}{n:Nat}(hl:cs.length=n)(h:∀i,i<n->∃z:Int,cs[i]?=some (.int .u8 z)∧(Lit.int .u8 z).wf=true):∃l:List Int,cs=l.map (Value.int .u8)∧l.length=n∧∀j,(Lit.int .u8 (l.getD j 0)).wf=true:=by
 obtain⟨Y,hY⟩:=choose_lt h
 refine⟨(List.range n).map Y,List.ext_getElem? fun i=>?_,by simp,get_u8 (fun z hz=>?_)⟩
 ·by_cases hi:i<n
  ·rw[(hY i hi).1];simp[hi]
  ·rw[List.getElem?_eq_none (by omega),List.getElem?_eq_none (by simp;omega)]
 ·obtain⟨i,hi,rfl⟩:=List.mem_map.1 hz
  exact(hY i (List.mem_range.1 hi)).2
theorem trod_digest(h:DataW.trod enc Tryd.prog W 0 (fun _=>true) true fuel 25 cs=some x):∃l:List Int,cs=l.map (Value.int .u8)∧l.length=32∧∀j,(Lit.int .u8 (l.getD j 0)).wf=true:=by
 obtain⟨xs,m,_,_,hcl,hxl,hel⟩:=DataW.trod_array Tryd.underlying25 h
 rw[Tryd.cells25] at hcl
 refine all_ints hcl fun i hi=>?_
 have h1:=hel i hi
 rw[Tryd.cells5,Nat.mul_one,List.getElem?_eq_getElem (by omega)] at h1
 obtain⟨z,e1,_,e3⟩:=DataW.trod_int Tryd.underlying5 h1
 refine⟨z,?_,e3⟩
 have:=congrArg (·[0]?) e1
 simpa [List.getElem?_take,List.getElem?_drop] using this
theorem at_one{cs:List Value}{k:Nat}{v:Value}(h:List.take 1 (List.drop k cs)= [v]):cs[k]?=some v:=by
 have:=congrArg (·[0]?) h
 simpa [List.getElem?_take,List.getElem?_drop] using this
theorem trod_piece(h:DataW.trod enc Tryd.prog W 0 (fun _=>true) true fuel 80 cs=some x):∃y:Pc,cs=pcC y∧PcOk y:=by
 obtain⟨xs,k,_,_,hcl,hxl,hf⟩:=DataW.trod_struct Tryd.underlying80 h
 rw[Tryd.cells80] at hcl
 have hx2:xs.length=2:=hxl
 have g0:DataW.trod enc Tryd.prog W 0 (fun _=>true) true k 25 (List.take (Tryd.prog.cellsOf 25) (List.drop 0 cs))=xs[0]?:=hf 0 _ rfl
 have g1:DataW.trod enc Tryd.prog W 0 (fun _=>true) true k 3 (List.take (Tryd.prog.cellsOf 3) (List.drop 32 cs))=xs[1]?:=hf 1 _ rfl
 rw[Tryd.cells25,List.getElem?_eq_getElem (by omega)] at g0
 rw[Tryd.cells3,List.getElem?_eq_getElem (by omega)] at g1
 obtain⟨l,e0,hl,h8⟩:=trod_digest g0
 obtain⟨z,e1,_,f1⟩:=DataW.trod_int Tryd.underlying3 g1
 refine⟨(l,z),?_,hl,h8,f1⟩
 unfold pcC
 rw[<-e0,<-e1,List.drop_zero,List.take_of_length_le (l:=List.drop 32 cs) (by simp;omega),List.take_append_drop]
set_option maxRecDepth 100000 in
theorem trod_pieces(h:DataW.trod enc Tryd.prog W 0 (fun _=>true) true fuel 56 cs=some x)(hlt:∀q∈x.2,q.block<W.heap.size):∃a cap l,cs= [.slice a (l:List Pc).length cap]∧Rp W a cap l:=by
 rcases open_slice Tryd.underlying56 h with ⟨hcs,_⟩ | ⟨a,len,cap,m,n,D,Pl,hcs,_,hl,hm,hmm,hx,hel⟩
 ·exact⟨none,0,[],hcs,rp_nil W⟩
 ·rw[if_pos rfl] at hmm
  subst hmm
  rw[Tryd.cells80] at hel
  have hp:x.2=MemPlace.row a (m*Tryd.prog.cellsOf 80)++(List.range m).flatMap Pl:=congrArg Prod.snd hx
  have key:∀j,j<len->∃y:Pc,PcOk y∧∀i u,(pcC y)[i]?=some u->W.cell? ((a.add (j*33)).add i)=some u:=by
   intro j hj
   obtain⟨cs',h1,h2⟩:=hel j (by omega)
   obtain⟨_,hcl,hcc⟩:=World.cells?_some h1
   obtain⟨y,rfl,hy⟩:=trod_piece h2
   refine⟨y,hy,fun i u hu=>?_⟩
   have hi:i<(pcC y).length:=(List.getElem?_eq_some_iff.1 hu).1
   have:=hcc i (by rw[<-hcl];exact hi)
   rw[this]
   exact hu
  obtain⟨Y,hY⟩:=choose_lt key
  have hlen:((List.range len).map Y).length=len:=by simp
  have hgd:∀j,j<len->((List.range len).map Y).getD j pc0=Y j:=fun j hj=>by simp[List.getD,hj]
  refine⟨some a,m,(List.range len).map Y,by rw[hlen];exact hcs,by rw[hlen];exact hl,hm,(fun h=>by cases h),fun h0=>?_,fun y hy=>?_⟩
  ·rw[hlen] at h0
   obtain⟨b,off,spot⟩:=a
   have hc0:=(hY 0 h0).2 0 _ (pcC_d (hY 0 h0).1.len 0 (by decide))
   have hspot:spot=none:=by
    have:=World.cell?_spot hc0
    simpa [Addr.add] using this
   subst hspot
   have hbW:b<W.heap.size:=hlt (.cell b off) (by
    rw[hp,List.mem_append]
    refine Or.inl (MemPlace.mem_row.2 ⟨0,?_,by simp⟩)
    rw[Tryd.cells80];omega)
   refine⟨b,off,rfl,hbW,fun j hj=>?_⟩
   rw[hlen] at hj
   rw[hgd j hj]
   intro i u hu
   have:=(hY j hj).2 i u hu
   rw[add_plain,add_plain] at this
   exact this
  ·obtain⟨i,hi,rfl⟩:=List.mem_map.1 hy
   exact(hY i (List.mem_range.1 hi)).1
theorem mem_flat{xs:List (DataW H×List MemPlace)}{i:Nat}{y:DataW H×List MemPlace}(h:xs[i]?=some y){q:MemPlace}(hq:q∈y.2):q∈xs.flatMap (·.2):=
 List.mem_flatMap.2 ⟨y,List.mem_of_getElem? h,hq⟩
theorem trod_rec(h:DataW.trod enc Tryd.prog W 0 (fun _=>true) true fuel 58 cs=some x)(hlt:∀q∈x.2,q.block<W.heap.size):∃r:Rec,cs=r.cs∧Rv W r:=by
 obtain⟨xs,k,_,hx,hcl,hxl,hf⟩:=DataW.trod_struct Tryd.underlying58 h
 rw[Tryd.cells58] at hcl
 have hx7:xs.length=7:=hxl
 have g0:DataW.trod enc Tryd.prog W 0 (fun _=>true) true k 3 (List.take (Tryd.prog.cellsOf 3) (List.drop 0 cs))=xs[0]?:=hf 0 _ rfl
 have g1:DataW.trod enc Tryd.prog W 0 (fun _=>true) true k 3 (List.take (Tryd.prog.cellsOf 3) (List.drop 1 cs))=xs[1]?:=hf 1 _ rfl
 have g2:DataW.trod enc Tryd.prog W 0 (fun _=>true) true k 25 (List.take (Tryd.prog.cellsOf 25) (List.drop 2 cs))=xs[2]?:=hf 2 _ rfl
 have g3:DataW.trod enc Tryd.prog W 0 (fun _=>true) true k 55 (List.take (Tryd.prog.cellsOf 55) (List.drop 34 cs))=xs[3]?:=hf 3 _ rfl
 have g4:DataW.trod enc Tryd.prog W 0 (fun _=>true) true k 3 (List.take (Tryd.prog.cellsOf 3) (List.drop 35 cs))=xs[4]?:=hf 4 _ rfl
 have g5:DataW.trod enc Tryd.prog W 0 (fun _=>true) true k 9 (List.take (Tryd.prog.cellsOf 9) (List.drop 36 cs))=xs[5]?:=hf 5 _ rfl
 have g6:DataW.trod enc Tryd.prog W 0 (fun _=>true) true k 56 (List.take (Tryd.prog.cellsOf 56) (List.drop 37 cs))=xs[6]?:=hf 6 _ rfl
 have q6:xs[6]?=some (xs[6]'(by omega)):=List.getElem?_eq_getElem (by omega)
 rw[Tryd.cells3,List.getElem?_eq_getElem (by omega)] at g0 g1 g4
 rw[Tryd.cells25,List.getElem?_eq_getElem (by omega)] at g2
 rw[Tryd.cells55,List.getElem?_eq_getElem (by omega)] at g3
 rw[Tryd.cells9,List.getElem?_eq_getElem (by omega)] at g5
 rw[Tryd.cells56,q6] at g6
 obtain⟨z0,e0,_,f0⟩:=DataW.trod_int Tryd.underlying3 g0
 obtain⟨z1,e1,_,f1⟩:=DataW.trod_int Tryd.underlying3 g1
 obtain⟨l,e2,hl,h8⟩:=trod_digest g2
 obtain⟨z3,e3,_,f3⟩:=DataW.trod_int Tryd.underlying55 g3
 obtain⟨z4,e4,_,f4⟩:=DataW.trod_int Tryd.underlying3 g4
 obtain⟨s,e5,_,f5⟩:=DataW.trod_string Tryd.underlying9 g5
 obtain⟨a,cap,ps,e6,hr⟩:=trod_pieces g6 (fun q hq=>hlt q (by rw[hx];exact mem_flat q6 hq))
 refine⟨⟨z0,z1,l,z3,z4,s,a,cap,ps⟩,?_,hl,h8,f0,f1,f3,f4,f5,hr⟩
 refine List.ext_getElem? fun i=>?_
 have c0:=at_one e0
 have c1:=at_one e1
 have c3:=at_one e3
 have c4:=at_one e4
 have c5:=at_one e5
 have c6:=at_one e6
 by_cases hi:i<38
 ·by_cases h0:i=0
  ·subst h0;exact c0
  by_cases h1:i=1
  ·subst h1;exact c1
  by_cases h2:i<34
  ·obtain⟨j,rfl⟩:∃j,i=2+j:=⟨i-2,by omega⟩
   rw[Rec.mid _ hl j (by omega)]
   have:=congrArg (·[j]?) e2
   simp only[List.getElem?_take,List.getElem?_drop,if_pos (show j<32 by omega)] at this
   rw[this]
   simp[List.getD,List.getElem?_eq_getElem (show j<l.length by omega)]
  ·obtain⟨j,rfl⟩:∃j,i=34+j:=⟨i-34,by omega⟩
   rw[Rec.tail _ hl j]
   match j,(show j<4 by omega) with
   | 0,_=>exact c3
   | 1,_=>exact c4
   | 2,_=>exact c5
   | 3,_=>exact c6
 ·rw[List.getElem?_eq_none (by omega),List.getElem?_eq_none (by rw[Rec.cs_len hl];omega)]
end
set_option maxRecDepth 100000 in
theorem open_rec{H:Type}{enc:TypeId×Value->H}{W:World}{base:Nat}{v:Value}{d:DataW H}{p:List MemPlace}(hv:Value.okWide Tryd.prog W .any base 58 v)
 (h:DataW.Trod enc Tryd.prog W 0 (fun _=>true) true 58 v d p) (hlt:∀x∈p,x.block<W.heap.size):∃r:Rec,v= .agg r.cs.toArray∧Rv W r:=by
 obtain⟨cs,rfl,_⟩:=okWide_struct Tryd.underlying58 hv
 obtain⟨fuel,hf⟩:=h
 obtain⟨r,e,hr⟩:=trod_rec hf hlt
 refine⟨r,?_,hr⟩
 rw[<-e]
 simp[Value.cells]
end Go.Proofs.YtplinkmagnihmaaDoor
