/-
 The contract of huff's tree.
-/
import Derived.Test.YtelnefngkdfcoaaGreatPart13
namespace Go.Proofs.YtelnefngkdfcoaaGreat
open Go.RowKit Hf
theorem T0.later{w wr w':World}{gy gN gr capN:Nat}{vy:Value}{N:Nodes}(h:T0 w wr gy gN gr capN vy N)(hb:Below wr.heap.size wr w'):T0 w w' gy gN gr capN vy N:=by
 refine⟨by rw[hb.block _ (Array.getElem?_eq_some_iff.1 h.sy).1];exact h.sy,by rw[hb.block _ (Array.getElem?_eq_some_iff.1 h.nd).1];exact h.nd,⟨h.row.1,?_⟩,h.by',h.bN,Bn h.bel hb⟩
 rcases h.row.2 with h1 | ⟨g,cp,cur,hv,hg,hh,hrest⟩
 ·exact Or.inl h1
 ·exact Or.inr ⟨g,cp,cur,hv,hg,(hb.block g (Array.getElem?_eq_some_iff.1 hh).1).trans hh,hrest⟩
theorem T0.put3{w wr:World}{gy gN gr capN g:Nat}{vy v u:Value}{N:Nodes}(h:T0 w wr gy gN gr capN vy N)(hg:wr.heap[g]?=some (.cells #[v] 3 (0,0)))(hw:w.heap.size<=g):T0 w (wr.setCell ⟨g,0,none⟩ u) gy gN gr capN vy N:=by
 obtain⟨cur,hcur⟩:=h.rowBlk
 exact⟨by rw[heap_put_other hg (ne_of_type h.sy hg (by decide))];exact h.sy,by rw[heap_put_other hg (ne_of_type h.nd hg (by decide))];exact h.nd,
  ownsRow_setCell_other h.row (by simp[Value.ownBlock];exact ne_of_type hcur hg (by decide)) _,h.by',h.bN,h.bel.setCell (show w.heap.size<=(Addr.mk g 0 none).block from hw) _⟩
theorem TM.inCell{w wr:World}{gy gN gl gp gr capN n:Nat}{vy:Value}{s:TS}(h:TM w wr gy gN gl gp gr capN n vy s)(i:Nat)(hi:i<s.N.length):wr.cell? ⟨gr,i*2+1,none⟩=some (.int .i64 (inn s.N i)):=by
 have hl:=flatN_length s.N
 rw[Nat.mul_comm i 2,h.row.cellAt (2*i+1) (by omega),List.getElem?_map,<-flatN_inn]
 simp[List.getD,List.getElem?_eq_getElem (show 2*i+1<(flatN s.N).length from by omega)]
theorem TM.setIn{w wr:World}{gy gN gl gp gr capN n:Nat}{vy:Value}{s:TS}(h:TM w wr gy gN gl gp gr capN n vy s)(i:Nat)(hi:i<s.N.length)(v:Int):TM w (wr.setCell ⟨gr,i*2+1,none⟩ (.int .i64 v)) gy gN gl gp gr capN n vy ⟨Hf.setIn s.N i v,s.l,s.p⟩:=by
 obtain⟨cur,hcur⟩:=h.rowBlk
 have hst:=h.row.stored (i*2+1) (.int .i64 v)
 rw[<-List.map_set,Nat.mul_comm i 2,flatN_set s.N i v hi,Nat.mul_comm 2 i] at hst
 refine⟨by rw[heap_put_other hcur (ne_of_type h.sy hcur (by decide))];exact h.sy,by rw[heap_put_other hcur (ne_of_type h.nd hcur (by decide)),setIn_length];exact h.nd,by rw[heap_put_other hcur (ne_of_type h.lf hcur (by decide))];exact h.lf,by rw[heap_put_other hcur (ne_of_type h.pr hcur (by decide))];exact h.pr,?_,h.ne,h.by',h.bN,h.bl,h.bp,h.bel.setCell (show w.heap.size<=(Addr.mk gr (i*2+1) none).block from(h.row.lt gr rfl).1) _⟩
 show World.ownsRow _ _ _ _ _ _ _
 rw[setIn_length];exact hst.1
theorem sumW_le(N:Nodes)(M:Int)(h:∀i,wt N i<=M):∀(k i:Nat),sumW N i k<=k*M
 | 0,_=>by simp[sumW]
 | k+1,i=>by
   rw[sumW]
   have h1:=h i
   have h2:=sumW_le N M h k (i+1)
   have h3:((k+1:Nat):Int)*M=k*M+M:=by rw[Int.natCast_add,Int.add_mul];simp
   omega
theorem start_sum(ws:List Int)(h:∀i,0<=ws.getD i 0∧ws.getD i 0<=1073741824)(hn:ws.length<=512):freeW ws.length (startT ws).N 0 ws.length<=549755813888:=by
 have hw:∀i,wt (startT ws).N i<=1073741824:=fun i=>by
  have:=(h i).2
  unfold wt startT
  simp only[List.getD,List.getElem?_map] at this|-
  generalize ws[i]?=o at this
  cases o with
  | none=>simp
  | some x=>simpa using this
 have e:(startT ws).N.length-ws.length=0:=by simp[startT]
 unfold freeW
 rw[e,sumW]
 have:=sumW_le (startT ws).N 1073741824 hw (ws.length-0) 0
 have h3:((ws.length-0:Nat):Int)*1073741824<=512*1073741824:=by omega
 omega
theorem TM.fin{w wr W:World}{gy gN gl gp gr capN n:Nat}{vy:Value}{s:TS}{N2:Nodes}(h:TM w wr gy gN gl gp gr capN n vy s)(h0:T0 w W gy gN gr capN vy N2)(ho:∀k,k<wr.heap.size->k≠gr->k≠gN->W.heap[k]?=wr.heap[k]?):TM w W gy gN gl gp gr capN n vy ⟨N2,s.l,s.p⟩:=by
 obtain⟨cur,hcur⟩:=h.rowBlk
 exact⟨h0.sy,h0.nd,by rw[ho gl (Array.getElem?_eq_some_iff.1 h.lf).1 (ne_of_type h.lf hcur (by decide)) (ne_of_type h.lf h.nd (by decide))];exact h.lf,
  by rw[ho gp (Array.getElem?_eq_some_iff.1 h.pr).1 (ne_of_type h.pr hcur (by decide)) (ne_of_type h.pr h.nd (by decide))];exact h.pr,h0.row,h.ne,h.by',h.bN,h.bl,h.bp,h0.bel⟩
set_option maxHeartbeats 6400000 in
set_option maxRecDepth 100000 in
theorem tree_word(ay:Option Addr)(cy:Nat)(sy:List Int)(ac:Option Addr)(cc:Nat)(cs:List Int)(w:World)(hy:Ri w .i64 ay cy sy)(hr:Ri w .i64 ac cc cs)(hn:sy.length<=512)(hcl:cs.length<=100000)
 (hmem:∀u∈sy,0<=u∧u<(cs.length:Int)) (hpos:∀i,0<=(wsOf cs sy).getD i 0∧(wsOf cs sy).getD i 0<=1073741824) :
 Calls Tryz.prog 113 #[.slice ay sy.length cy,.slice ac cs.length cc] w fun e w'=>∃v,e= .returned v∧w'.ownsRow w.heap.size 180 2 v (treeT (wsOf cs sy) (sy.length-1)).N.length ((flatN (treeT (wsOf cs sy) (sy.length-1)).N).map (Value.int .i64))∧Below w.heap.size w w':=by
 obtain⟨i0,hi,hz0,hz1,hz2⟩:=info_parts Tryz.info180
 have HY:=hid hy
 have HR:=hid hr
 have HME:=hid hmem
 have HPO:=hid hpos
 have HGD:=hid (wsOf_getD cs sy)
 have HWL:Hid ((wsOf cs sy).length=sy.length):=by show _=_;simp[wsOf]
 have hcr:=hr.room
 have hcm:=hr.most
 unfold maxLen at hcm
 obtain⟨n,hnn⟩:∃n,n=sy.length:=⟨_,rfl⟩
 have HN:=hid hnn
 obtain⟨cl,hcc⟩:∃n,n=cs.length:=⟨_,rfl⟩
 have HCL:=hid hcc
 rw[<-hnn] at hn HWL|-
 rw[<-hcc] at hcl hcr|-
 generalize hws:wsOf cs sy=ws at *
 have HWS:=hid hws
 clear hy hr hmem hpos hnn hcc hws
 have sA:(w.alloc (.cells #[.slice ay n cy] 51)).heap.size=w.heap.size+1:=by simp
 have eA:=heap_new w (.cells #[.slice ay n cy] 51)
 have bA:=bel_alloc w (.cells #[.slice ay n cy] 51)
 go_enter Tryz.func113,Tryz.ntmps113
 go_wp2_with (first
  | (at_make;refine wpList_make_own _ rfl _ _ 177 rfl w.heap.size 180 i0 (.agg #[.int .i64 0,.int .i64 0]) 2 Tryz.underlying177 hi hz0 hz1 .i64 .i64 _ (2*n) rfl rfl (by first | rfl | omega | (simp)) ?b2 ?b3 ?b4 ?_))
 case b2=>rw[hz2];omega
 case b3=>unfold maxLen;omega
 case b4=>simp
 intro w1 hown1 hg1
 have HB1:Hid (Below w.heap.size w w1):=bA.grown hg1 (by simp) (fun k hk=>by cases hk)
 have e1:w1.heap[w.heap.size]?=some (.cells #[.slice ay n cy] 51 (0,0)):=by
  rw[hg1.block w.heap.size (by simp) (by simp)];exact eA
 have s1:w.heap.size+1<=w1.heap.size:=by rw[<-sA];exact hg1.size
 obtain⟨gN,hgN⟩:∃g,g=w1.heap.size:=⟨_,rfl⟩
 have eN:=heap_new w1 (.cells #[.slice (some ⟨w.heap.size+1,0,none⟩) 0 (2*n)] 177)
 have bN:=bel_alloc w1 (.cells #[.slice (some ⟨w.heap.size+1,0,none⟩) 0 (2*n)] 177)
 have hT:T0 w (w1.alloc (.cells #[.slice (some ⟨w.heap.size+1,0,none⟩) 0 (2*n)] 177)) w.heap.size w1.heap.size (w.heap.size+1) (2*n) (.slice ay n cy) (nodes0 ws 0):=by
  refine⟨?_,?_,?_,Nat.le_refl _,by omega,Bn HB1.out bN⟩
  ·rw[bN.block _ (by omega)];exact e1
  ·exact eN
  ·exact hown1.alloc _
 rw[<-hgN] at hT
 have c0:=hT.sym
 have HT0:=hid hT
 have HGN:Hid (w1.heap.size=gN):=hgN.symm
 clear hT eN bN e1 hown1 hg1 bA eA sA HB1 s1 hgN
 go_wp2
 rw[HGN.out]
 clear c0
 generalize (w1.alloc (.cells #[.slice (some ⟨w.heap.size+1,0,none⟩) 0 (2*n)] 177))=w2 at *
 go_loopw [7,19] (fun _ y wr=>∃k:Nat,k<=n∧y= .int .i64 k∧T0 w wr w.heap.size gN (w.heap.size+1) (2*n) (.slice ay n cy) (nodes0 ws k)) (fun _ y _=>n-(intOf y).toNat)
 case atStart=>exact⟨0,by omega,rfl,HT0.out⟩
 case round=>
  clear HT0
  obtain⟨k,hk,rfl,hT⟩:=hrel
  by_cases hlt:k<n
  ·have hkl:(k:Int)<(n:Int):=by omega
   have K1:Hid (k<sy.length):=by show _<_;rw[<-HN.out];exact hlt
   obtain⟨by',oy,rfl,hbyw,hcy⟩:=(HY.out).cells (by have:=K1.out;omega)
   have hmk:=HME.out _ (getD_mem sy k K1.out)
   obtain⟨u,hu⟩:∃u:Nat,sy.getD k 0=(u:Int):=⟨(sy.getD k 0).toNat,by omega⟩
   have cy1:wr.cell? ⟨by',oy+k,none⟩=some (.int .i64 (u:Int)):=by
    rw[(hT.bel.cell (p:=⟨by',oy+k,none⟩) hbyw).trans (hcy k K1.out),hu]
   have hul:u<cl:=by rw[HCL.out];omega
   obtain⟨gc,oc,rfl,hgcw,hcc⟩:=(HR.out).cells (by rw[<-HCL.out];omega)
   obtain⟨x,hx⟩:∃x,x=ws.getD k 0:=⟨_,rfl⟩
   have hxc:cs.getD u 0=x:=by
    rw[hx,HGD.out k K1.out,hu,key,Int.toNat_natCast]
   have HCX:Hid (w.cell? ⟨gc,oc+u,none⟩=some (.int .i64 x)):=by
    show _=_
    rw[hcc u (by rw[<-HCL.out];exact hul),hxc]
   have HN1:Hid (nodes0 ws (k+1)=nodes0 ws k++ [(x,0)]):=by
    show _=_
    rw[nodes0_succ ws k (by rw[HWL.out];exact hlt),hx]
   have HNL:Hid ((nodes0 ws k).length=k):=nodes0_length ws k (by rw[HWL.out];exact hk)
   obtain⟨nk,hnk⟩:∃m,m=(nodes0 ws k).length:=⟨_,rfl⟩
   have HNK:Hid ((nodes0 ws k).length=nk):=hnk.symm
   have HT:=hid hT.drew
   have hS:wr.drew.cell? ⟨gc,oc+u,none⟩=some (.int .i64 x):=(hT.bel.cell (p:=⟨gc,oc+u,none⟩) hgcw).trans HCX.out
   have hbx:wr.drew.cell? ⟨gN,0,none⟩=some (.slice (some ⟨w.heap.size+1,0,none⟩) nk (2*n)):=by rw[hnk];exact hT.box
   have hulz:(u:Int)<(cl:Int):=by omega
   clear hT hcy hcc hmk hu hx hxc K1 hnk
   go_wp2_with fail
   refine OrdE.region (fun W=>W.cell? ⟨gN,0,none⟩=some (.slice (some ⟨w.heap.size+1,0,none⟩) nk (2*n))∧W.cell? ⟨gc,oc+u,none⟩=some (.int .i64 x)) 8 (by kernel_rfl) ⟨hbx,hS⟩ (fun hSS=>?_)
   clear cy1
   generalize wr.drew=wD at *
   have hDw:=HT.out.bel.size
   have hbA:=bel_alloc wD (.cells #[.int .i64 x,.int .i64 0] 180)
   have HSA:Hid ((wD.alloc (.cells #[.int .i64 x,.int .i64 0] 180)).cell? ⟨gc,oc+u,none⟩=some (.int .i64 x)):=(hbA.cell (p:=⟨gc,oc+u,none⟩) (by show gc<_;omega)).trans hS
   have hgNl:=(Array.getElem?_eq_some_iff.1 HT.out.nd).1
   have hbxA:(wD.alloc (.cells #[.int .i64 x,.int .i64 0] 180)).cell? ⟨gN,0,none⟩=some (.slice (some ⟨w.heap.size+1,0,none⟩) nk (2*n)):=(hbA.cell (p:=⟨gN,0,none⟩) hgNl).trans hbx
   refine OrdE.take (i:=1) (d:=24) (v:=?v1) rfl rfl rfl (by as_aux_lemma=>kernel_rfl) (by as_aux_lemma=>kernel_rfl) (by as_aux_lemma=>kernel_rfl) (by as_aux_lemma=>kernel_rfl) (fun _ _ _ h=>h) (by rfl) ?h1 (by assumption) ?_
   case h1=>intro w hSw;go_simp;try with_reducible rfl
   simp only[List.setIfInBounds_toArray,List.set_cons_zero,List.set_cons_succ]
   refine OrdE.take (i:=2) (d:=25) (v:=?v2) rfl rfl rfl (by as_aux_lemma=>kernel_rfl) (by as_aux_lemma=>kernel_rfl) (by as_aux_lemma=>kernel_rfl) (by as_aux_lemma=>kernel_rfl) (fun _ _ _ h=>h) (by rfl) ?h2 (by assumption) ?_
   case h2=>intro w hSw;go_simp;try with_reducible rfl
   simp only[List.setIfInBounds_toArray,List.set_cons_zero,List.set_cons_succ]
   refine OrdE.take (i:=3) (d:=26) (v:=?v3) rfl rfl rfl (by as_aux_lemma=>kernel_rfl) (by as_aux_lemma=>kernel_rfl) (by as_aux_lemma=>kernel_rfl) (by as_aux_lemma=>kernel_rfl) (fun _ _ _ h=>h) (by rfl) ?h3 (by assumption) ?_
   case h3=>intro w hSw;go_simp;try with_reducible rfl
   simp only[List.setIfInBounds_toArray,List.set_cons_zero,List.set_cons_succ]
   refine OrdE.take (i:=4) (d:=27) (v:= .int .i64 x) rfl rfl rfl (by as_aux_lemma=>kernel_rfl) (by as_aux_lemma=>kernel_rfl) (by as_aux_lemma=>kernel_rfl) (by as_aux_lemma=>kernel_rfl) (fun _ _ _ h=>h) (by rfl) ?h4 (by assumption) ?_
   case h4=>intro w hSw;have e:=hSw.2;go_simp;try with_reducible rfl
   simp only[List.setIfInBounds_toArray,List.set_cons_zero,List.set_cons_succ]
   refine OrdE.take (i:=5) (d:=28) (v:=?v5) rfl rfl rfl (by as_aux_lemma=>kernel_rfl) (by as_aux_lemma=>kernel_rfl) (by as_aux_lemma=>kernel_rfl) (by as_aux_lemma=>kernel_rfl) (fun _ _ _ h=>h) (by rfl) ?h5 (by assumption) ?_
   case h5=>intro w hSw;go_simp;try with_reducible rfl
   simp only[List.setIfInBounds_toArray,List.set_cons_zero,List.set_cons_succ]
   refine OrdE.take (i:=0) (d:=23) (v:= .slice (some ⟨w.heap.size+1,0,none⟩) nk (2*n)) rfl rfl rfl (by as_aux_lemma=>kernel_rfl) (by as_aux_lemma=>kernel_rfl) (by as_aux_lemma=>kernel_rfl) (by as_aux_lemma=>kernel_rfl) (fun _ _ _ h=>h) (by rfl) ?h0 (by assumption) ?_
   case h0=>intro w hSw;have e:=hSw.1;go_simp;try with_reducible rfl
   simp only[List.setIfInBounds_toArray,List.set_cons_zero,List.set_cons_succ]
   refine OrdE.one (i:=6) (by as_aux_lemma=>kernel_rfl) rfl (fun K hK=>?_)
   go_simp
   refine hK.out _ _ (fun _=>⟨hbxA,HSA.out⟩) ?_
   clear hK K
   refine OrdE.one (i:=7) (by as_aux_lemma=>kernel_rfl) rfl (fun K hK=>?_)
   refine wp_app_node _ wD (.tmp 23) (.tmp 29) rfl w.heap.size (w.heap.size+1) (2*n) (nodes0 ws k) x (by rw[HNK.out];rfl) HT.out.row rfl rfl (by rw[HNL.out];omega) ?_
   intro w2 hown2 hg2
   have hA:=T0.app HT.out hg2 hown2
   have hbx2:=hA.box
   rw[HNK.out] at hbx2
   have hfz2:=hA.froz
   have hst:=(hA.store HT.out).1
   refine hK.out _ _ (fun _=>⟨hbx2,(hA.bel.cell (p:=⟨gc,oc+u,none⟩) hgcw).trans HCX.out⟩) ?_
   clear hK K
   rw[<-HN1.out] at hst
   have HT2:=hid hst
   clear hA hown2 hg2 hst
   refine OrdE.put (d:=30) rfl ?_
   simp only[List.setIfInBounds_toArray,List.set_cons_zero,List.set_cons_succ]
   rw[<-HN1.out]
   generalize (nodes0 ws (k+1)).length=nn at *
   refine OrdE.one (i:=8) (by as_aux_lemma=>kernel_rfl) rfl (fun K hK=>?_)
   go_simp
   refine hK.out _ _ (fun h=>absurd rfl h) ?_
   clear hK K
   refine OrdE.done (by as_aux_lemma=>kernel_rfl) ?_ _
   generalize w2.setCell ⟨gN,0,none⟩ (.slice (some ⟨w.heap.size+1,0,none⟩) nn (2*n))=w3 at *
   clear hbx2 hfz2 hS hbx hbxA hbA
   go_wp2
   go_roundw
   case rel=>exact⟨k+1,by omega,by go_num,HT2.out⟩
   case measure=>simp[intOf];omega
  ·have hkn:n=k:=by omega
   subst hkn
   have HST:Hid (nodes0 ws n=(startT ws).N):=by
    show _=_
    unfold nodes0 startT
    rw[show ws.take n=ws from by rw[<-HWL.out];exact List.take_length]
   have HC:=hid (start_sum ws HPO.out (by rw[HWL.out];exact hn))
   have HTI:=hid (fun t ht=>TI.run ws (fun i=>(HPO.out i).1) t ht)
   rw[HWL.out] at HC HTI
   have hS0:=hT.drew.sym
   have HT:=hid hT.drew
   clear hT
   go_wp2_with fail
   refine wp_region_held_drew (S:=fun W=>W.cell? ⟨w.heap.size,0,none⟩=some (.slice ay n cy)) (by kernel_rfl) hS0 (fun hS=>?_)
   generalize wr.drew=wD at *
   have hbA:=bel_alloc wD (.cells #[.int .i64 0] 3)
   have eA:=heap_new wD (.cells #[.int .i64 0] 3)
   have HTA:=hid (HT.out.later hbA)
   have hSA:=HTA.out.sym
   obtain⟨gA,hgA⟩:∃g,g=wD.heap.size:=⟨_,rfl⟩
   have hAw:w.heap.size<=gA:=by rw[hgA];exact HT.out.bel.size
   rw[<-hgA] at eA
   have HGA:Hid (wD.heap.size=gA):=hgA.symm
   clear hbA HT hgA
   refine Ord.take (i:=0) (d:=32) (v:= .slice ay n cy) rfl rfl (by as_aux_lemma=>kernel_rfl) (by as_aux_lemma=>kernel_rfl) (by as_aux_lemma=>kernel_rfl) (fun _ _ _ h=>h) (by rfl) ?h0 (by assumption) ?_
   case h0=>intro w hSw;have e:=hSw;go_simp;try with_reducible rfl
   simp only[List.setIfInBounds_toArray,List.set_cons_zero,List.set_cons_succ]
   refine Ord.take (i:=1) (d:=33) (v:=?v1s) rfl rfl (by as_aux_lemma=>kernel_rfl) (by as_aux_lemma=>kernel_rfl) (by as_aux_lemma=>kernel_rfl) (fun _ _ _ h=>h) (by rfl) ?h1 (by assumption) ?_
   case h1=>intro w hSw;go_simp;try with_reducible rfl
   simp only[List.setIfInBounds_toArray,List.set_cons_zero,List.set_cons_succ]
   refine wpAnyH_ready (rs:= [2,3]) (by as_aux_lemma=>kernel_rfl) (by simp) (AllReadyH.cons rfl (fun K hK=>?brA) (AllReadyH.cons rfl (fun K hK=>?brB) AllReadyH.nil))
   focus
    go_simp
    rw[HGA.out]
    refine hK.out _ _ hSA (fun _=>?_)
    clear hK K
    generalize wD.alloc (.cells #[.int .i64 0] 3)=wA at *
    refine wpAnyH_ready (rs:= [3]) (by as_aux_lemma=>kernel_rfl) (by simp) (AllReadyH.cons rfl (fun K hK=>?_) AllReadyH.nil)
    go_simp
    have hbB:=bel_alloc wA (.cells #[.int .i64 0] 3)
    have eB:=heap_new wA (.cells #[.int .i64 0] 3)
    have hTB:=HTA.out.later hbB
    have eA2:(wA.alloc (.cells #[.int .i64 0] 3)).heap[gA]?=some (.cells #[.int .i64 0] 3 (0,0)):=by rw[hbB.block _ (Array.getElem?_eq_some_iff.1 eA).1];exact eA
    have hSB:=hTB.sym
    refine hK.out _ _ hSB (fun _=>?_)
    clear hK K
    obtain⟨gB,hgB⟩:∃g,g=wA.heap.size:=⟨_,rfl⟩
    rw[<-hgB] at eB
    rw[<-hgB]
    have hAB:gA≠gB:=by have:=(Array.getElem?_eq_some_iff.1 eA).1;omega
    have hBw:w.heap.size<=gB:=by rw[hgB];exact HTA.out.bel.size
    have HTB:=hid hTB
    clear hbB hTB hgB eA hSA hS0
    generalize wA.alloc (.cells #[.int .i64 0] 3)=wB at *
    have cl0:wB.cell? ⟨gA,0,none⟩=some (.int .i64 0):=by have:=Joins.cell_of_block eA2 0;simpa using this
    have fl0:=Joins.unfrozen_of_block eA2 0
    refine wpAnyH_ready (rs:= [4]) (by as_aux_lemma=>kernel_rfl) (by simp) (AllReadyH.cons rfl (fun K hK=>?_) AllReadyH.nil)
    go_simp
    have hT4:=HTB.out.put3 (u:= .int .i64 0) eA2 (by omega)
    have hS4:=hT4.sym
    have l4:(wB.setCell ⟨gA,0,none⟩ (.int .i64 0)).heap[gA]?=some (.cells #[.int .i64 0] 3 (0,0)):=by rw[Joins.block_setCell eA2];rfl
    have p4:(wB.setCell ⟨gA,0,none⟩ (.int .i64 0)).heap[gB]?=some (.cells #[.int .i64 0] 3 (0,0)):=by rw[heap_put_other eA2 (by omega)];exact eB
    have HT4:=hid hT4
    refine hK.out _ _ hS4 (fun _=>?_)
    clear hK K cl0 fl0 hT4 eA2 eB
    generalize wB.setCell ⟨gA,0,none⟩ (.int .i64 0)=w4 at *
    have cp0:w4.cell? ⟨gB,0,none⟩=some (.int .i64 0):=by have:=Joins.cell_of_block p4 0;simpa using this
    have fp0:=Joins.unfrozen_of_block p4 0
    refine wpAnyH_ready (rs:= [5]) (by as_aux_lemma=>kernel_rfl) (by simp) (AllReadyH.cons rfl (fun K hK=>?_) AllReadyH.nil)
    go_simp
    have hT5:=HT4.out.put3 (u:= .int .i64 (n:Int)) p4 (by omega)
    have hTM:TM w (w4.setCell ⟨gB,0,none⟩ (.int .i64 (n:Int))) w.heap.size gN gA gB (w.heap.size+1) (2*n) n (.slice ay n cy) (startT ws):=by
     rw[HST.out] at hT5
     refine⟨hT5.sy,hT5.nd,by rw[heap_put_other p4 (by omega)];exact l4,?_,hT5.row,by omega,hT5.by',hT5.bN,by omega,by omega,hT5.bel⟩
     rw[Joins.block_setCell p4]
     show some (Obj.cells #[.int .i64 (n:Int)] 3 (0,0))=some (Obj.cells #[.int .i64 ((ws.length:Nat):Int)] 3 (0,0))
     rw[HWL.out]
    have HTM:=hid hTM
    refine hK.out _ _ hT5.sym (fun _=>?_)
    clear hK K cp0 fp0 hT5 hTM hS4 l4 p4 HT4 HTB HTA hSB
    generalize w4.setCell ⟨gB,0,none⟩ (.int .i64 (n:Int))=w5 at *
    generalize hgl:gA=gl at *
    generalize hgp:gB=gp at *
    clear hgl hgp hAB hBw hAw
   rotate_left
   focus
    go_simp
    rw[HGA.out]
    refine hK.out _ _ hSA (fun _=>?_)
    clear hK K
    generalize wD.alloc (.cells #[.int .i64 0] 3)=wA at *
    refine wpAnyH_ready (rs:= [2]) (by as_aux_lemma=>kernel_rfl) (by simp) (AllReadyH.cons rfl (fun K hK=>?_) AllReadyH.nil)
    go_simp
    have hbB:=bel_alloc wA (.cells #[.int .i64 0] 3)
    have eB:=heap_new wA (.cells #[.int .i64 0] 3)
    have hTB:=HTA.out.later hbB
    have eA2:(wA.alloc (.cells #[.int .i64 0] 3)).heap[gA]?=some (.cells #[.int .i64 0] 3 (0,0)):=by rw[hbB.block _ (Array.getElem?_eq_some_iff.1 eA).1];exact eA
    have hSB:=hTB.sym
    refine hK.out _ _ hSB (fun _=>?_)
    clear hK K
    obtain⟨gB,hgB⟩:∃g,g=wA.heap.size:=⟨_,rfl⟩
    rw[<-hgB] at eB
    rw[<-hgB]
    have hAB:gA≠gB:=by have:=(Array.getElem?_eq_some_iff.1 eA).1;omega
    have hBw:w.heap.size<=gB:=by rw[hgB];exact HTA.out.bel.size
    have HTB:=hid hTB
    clear hbB hTB hgB eA hSA hS0
    generalize wA.alloc (.cells #[.int .i64 0] 3)=wB at *
    have cl0:wB.cell? ⟨gB,0,none⟩=some (.int .i64 0):=by have:=Joins.cell_of_block eB 0;simpa using this
    have fl0:=Joins.unfrozen_of_block eB 0
    refine wpAnyH_ready (rs:= [4]) (by as_aux_lemma=>kernel_rfl) (by simp) (AllReadyH.cons rfl (fun K hK=>?_) AllReadyH.nil)
    go_simp
    have hT4:=HTB.out.put3 (u:= .int .i64 0) eB (by omega)
    have hS4:=hT4.sym
    have l4:(wB.setCell ⟨gB,0,none⟩ (.int .i64 0)).heap[gB]?=some (.cells #[.int .i64 0] 3 (0,0)):=by rw[Joins.block_setCell eB];rfl
    have p4:(wB.setCell ⟨gB,0,none⟩ (.int .i64 0)).heap[gA]?=some (.cells #[.int .i64 0] 3 (0,0)):=by rw[heap_put_other eB (by omega)];exact eA2
    have HT4:=hid hT4
    refine hK.out _ _ hS4 (fun _=>?_)
    clear hK K cl0 fl0 hT4 eA2 eB
    generalize wB.setCell ⟨gB,0,none⟩ (.int .i64 0)=w4 at *
    have cp0:w4.cell? ⟨gA,0,none⟩=some (.int .i64 0):=by have:=Joins.cell_of_block p4 0;simpa using this
    have fp0:=Joins.unfrozen_of_block p4 0
    refine wpAnyH_ready (rs:= [5]) (by as_aux_lemma=>kernel_rfl) (by simp) (AllReadyH.cons rfl (fun K hK=>?_) AllReadyH.nil)
    go_simp
    have hT5:=HT4.out.put3 (u:= .int .i64 (n:Int)) p4 (by omega)
    have hTM:TM w (w4.setCell ⟨gA,0,none⟩ (.int .i64 (n:Int))) w.heap.size gN gB gA (w.heap.size+1) (2*n) n (.slice ay n cy) (startT ws):=by
     rw[HST.out] at hT5
     refine⟨hT5.sy,hT5.nd,by rw[heap_put_other p4 (by omega)];exact l4,?_,hT5.row,by omega,hT5.by',hT5.bN,by omega,by omega,hT5.bel⟩
     rw[Joins.block_setCell p4]
     show some (Obj.cells #[.int .i64 (n:Int)] 3 (0,0))=some (Obj.cells #[.int .i64 ((ws.length:Nat):Int)] 3 (0,0))
     rw[HWL.out]
    have HTM:=hid hTM
    refine hK.out _ _ hT5.sym (fun _=>?_)
    clear hK K cp0 fp0 hT5 hTM hS4 l4 p4 HT4 HTB HTA hSB
    generalize w4.setCell ⟨gA,0,none⟩ (.int .i64 (n:Int))=w5 at *
    generalize hgl:gB=gl at *
    generalize hgp:gA=gp at *
    clear hgl hgp hAB hBw hAw
   all_goals refine wpAnyH_done (by as_aux_lemma=>kernel_rfl) ?_ _
   all_goals have hsyc:=HTM.out.zero.sym
   all_goals go_wp2_with fail
   all_goals clear hsyc
   all_goals
    go_loopw [38] (fun y wr=>∃t:Nat,(t+1<=n∨t=0)∧y= .int .i64 t∧TM w wr w.heap.size gN gl gp (w.heap.size+1) (2*n) n (.slice ay n cy) (treeT ws t)) (fun y _=>n-(intOf y).toNat)
    case atStart=>exact⟨0,by omega,rfl,HTM.out⟩
    case round=>
     clear HTM
     obtain⟨t,ht,rfl,hTM⟩:=hrel
     by_cases hlt2:t+2<=n
     ·have htz:(t:Int)<(n:Int)-1:=by omega
      have hTI:=HTI.out t (by omega)
      have HST0:Hid (treeT ws (t+1)=stepH n (treeT ws t)):=by
       show _=_
       rw[treeT,HWL.out]
      obtain⟨s,hs⟩:∃s,s=treeT ws t:=⟨_,rfl⟩
      rw[<-hs] at hTI hTM HST0
      clear hs
      have hlen:=hTI.len
      have hln:=hTI.ln
      have hnp:=hTI.np
      have hpl:=hTI.pl
      have hcnt:=hTI.cnt
      have HPS:=hid hTI.pos
      obtain⟨_,hAl,hBl,hAB,hsum⟩:=hTI.step hlt2
      have hsum2:=Int.le_trans hsum HC.out
      obtain⟨a1,a2,a3,a4,a5,_,_⟩:=take_one (n:=n) (N:=s.N) (l:=s.l) (p:=s.p) hln hnp (by omega) (by omega)
      have K1:=hid (take_word w.heap.size gN gl gp (w.heap.size+1) (2*n) n ay cy s w wr hTM (by omega) (by omega) hln hnp (by omega) (by omega))
      have K2:Hid (∀W,TM w W w.heap.size gN gl gp (w.heap.size+1) (2*n) n (.slice ay n cy) ⟨s.N,takeL n s.N s.l s.p,takeP n s.N s.l s.p⟩->Calls Tryz.prog 121 #[.pointer (some ⟨gp,0,none⟩),.pointer (some ⟨gN,0,none⟩),.pointer (some ⟨gl,0,none⟩),.pointer (some ⟨w.heap.size,0,none⟩)] W fun e w'=>e= .returned (.int .i64 ((oneB n s:Nat):Int))∧TM w w' w.heap.size gN gl gp (w.heap.size+1) (2*n) n (.slice ay n cy) ⟨s.N,(stepH n s).l,(stepH n s).p⟩):=fun W hW=>
       take_word w.heap.size gN gl gp (w.heap.size+1) (2*n) n ay cy ⟨s.N,takeL n s.N s.l s.p,takeP n s.N s.l s.p⟩ w W hW (by omega) (by show s.N.length<=_;omega) a2 a3 a4 (by show 0<(n-takeL n s.N s.l s.p)+(s.N.length-takeP n s.N s.l s.p);omega)
      have hAe:oneA n s=takeA n s.N s.l s.p:=rfl
      rw[<-hAe] at K1
      have HSTN:Hid ((stepH n s).N=Hf.setIn (Hf.setIn s.N (oneA n s) (s.N.length:Int)) (oneB n s) (s.N.length:Int)++ [(wt s.N (oneA n s)+wt s.N (oneB n s),0)]):=rfl
      have HST2:Hid (treeT ws (t+1)=⟨Hf.setIn (Hf.setIn s.N (oneA n s) (s.N.length:Int)) (oneB n s) (s.N.length:Int)++ [(wt s.N (oneA n s)+wt s.N (oneB n s),0)],(stepH n s).l,(stepH n s).p⟩):=HST0.out
      have hx0:=HPS.out (oneA n s)
      have hy0:=HPS.out (oneB n s)
      clear hAe hTI hTM HST0 HSTN HPS hsum
      generalize (stepH n s).l=l2 at *
      generalize (stepH n s).p=p2 at *
      generalize oneA n s=a at *
      generalize oneB n s=b at *
      go_wp2_with fail
      refine K1.out.mono ?_
      rintro _ w1 ⟨rfl,hTM1⟩
      have K3:=hid (K2.out w1 hTM1)
      clear hTM1 K1 K2
      go_wp2_with fail
      refine K3.out.mono ?_
      rintro _ w2 ⟨rfl,hTM2⟩
      have bx2:=hTM2.zero.box
      have ca:=hTM2.inCell a hAl
      have cb:=hTM2.inCell b hBl
      have fa:=hTM2.row.frozenAt (a*2+1)
      have fb:=hTM2.row.frozenAt (b*2+1)
      have hT3:=((hTM2.setIn a hAl (s.N.length:Int)).setIn b (by show b<(Hf.setIn s.N a (s.N.length:Int)).length;rw[setIn_length];exact hBl) (s.N.length:Int)).drew
      have HWX:Hid (wt (Hf.setIn (Hf.setIn s.N a (s.N.length:Int)) b (s.N.length:Int)) a=wt s.N a):=by show _=_;rw[wt_setIn,wt_setIn]
      have HWY:Hid (wt (Hf.setIn (Hf.setIn s.N a (s.N.length:Int)) b (s.N.length:Int)) b=wt s.N b):=by show _=_;rw[wt_setIn,wt_setIn]
      have HLN:Hid ((Hf.setIn (Hf.setIn s.N a (s.N.length:Int)) b (s.N.length:Int)).length=s.N.length):=by show _=_;rw[setIn_length,setIn_length]
      have HT3:=hid hT3
      simp only at bx2 ca cb fa fb
      clear hTM2 K3 a1 a2 a3 a4 a5 hT3
      generalize inn s.N a=ia at *
      generalize inn s.N b=ib at *
      generalize Hf.setIn (Hf.setIn s.N a (s.N.length:Int)) b (s.N.length:Int)=N2 at *
      generalize wt s.N a=x at *
      generalize wt s.N b=y at *
      generalize s.N.length=LN at *
      have hLN2:LN+1<=2*n:=by omega
      have hLN3:LN<=1024:=by omega
      clear hlen hcnt hln hnp hpl
      have HXY:Hid (IntKind.i64.wrap (x+y)=x+y):=by show _=_;rw[IntKind.wrap_i64];omega
      have haz:(a:Int)<(LN:Int):=by omega
      have hbz:(b:Int)<(LN:Int):=by omega
      have haN:a<LN:=hAl
      have hbN:b<LN:=hBl
      go_wp2_with fail
      go_region
      clear bx2 ca cb fa fb
      generalize ((w2.setCell ⟨w.heap.size+1,a*2+1,none⟩ (.int .i64 (LN:Int))).setCell ⟨w.heap.size+1,b*2+1,none⟩ (.int .i64 (LN:Int))).drew=w3 at *
      have HT4:=hid HT3.out.drew
      have bx3:=HT4.out.zero.box
      have wx3:=HT4.out.wtCell a (by show a<N2.length;rw[HLN.out];exact haN)
      have wy3:=HT4.out.wtCell b (by show b<N2.length;rw[HLN.out];exact hbN)
      simp only at bx3 wx3 wy3
      rw[HLN.out] at bx3
      rw[HWX.out] at wx3
      rw[HWY.out] at wy3
      clear HT3
      have HT3:=HT4
      clear HT4
      go_wp2_with fail
      refine OrdE.region (fun W=>W.cell? ⟨gN,0,none⟩=some (.slice (some ⟨w.heap.size+1,0,none⟩) LN (2*n))∧W.cell? ⟨w.heap.size+1,a*2,none⟩=some (.int .i64 x)∧W.cell? ⟨w.heap.size+1,b*2,none⟩=some (.int .i64 y)) 15 (by kernel_rfl) ⟨bx3,wx3,wy3⟩ (fun hSS=>?_)
      generalize w3.drew=wE at *
      have hbAE:=bel_alloc wE (.cells #[.int .i64 (x+y),.int .i64 0] 180)
      have hgNE:=(Array.getElem?_eq_some_iff.1 HT3.out.nd).1
      have hgrE:=(HT3.out.row.lt (w.heap.size+1) rfl).2
      have bxA:(wE.alloc (.cells #[.int .i64 (x+y),.int .i64 0] 180)).cell? ⟨gN,0,none⟩=some (.slice (some ⟨w.heap.size+1,0,none⟩) LN (2*n)):=(hbAE.cell (p:=⟨gN,0,none⟩) hgNE).trans bx3
      have wxA:(wE.alloc (.cells #[.int .i64 (x+y),.int .i64 0] 180)).cell? ⟨w.heap.size+1,a*2,none⟩=some (.int .i64 x):=(hbAE.cell (p:=⟨w.heap.size+1,a*2,none⟩) hgrE).trans wx3
      have wyA:(wE.alloc (.cells #[.int .i64 (x+y),.int .i64 0] 180)).cell? ⟨w.heap.size+1,b*2,none⟩=some (.int .i64 y):=(hbAE.cell (p:=⟨w.heap.size+1,b*2,none⟩) hgrE).trans wy3
      clear hbAE hgNE hgrE
      refine OrdE.take (i:=2) (d:=58) (v:= .int .i64 (a:Int)) rfl rfl rfl (by as_aux_lemma=>kernel_rfl) (by as_aux_lemma=>kernel_rfl) (by as_aux_lemma=>kernel_rfl) (by as_aux_lemma=>kernel_rfl) (fun _ _ _ h=>h) (by rfl) ?h2 (by assumption) ?_
      case h2=>intro w hSw;go_simp;try with_reducible rfl
      simp only[List.setIfInBounds_toArray,List.set_cons_zero,List.set_cons_succ]
      refine OrdE.take (i:=7) (d:=63) (v:= .int .i64 (b:Int)) rfl rfl rfl (by as_aux_lemma=>kernel_rfl) (by as_aux_lemma=>kernel_rfl) (by as_aux_lemma=>kernel_rfl) (by as_aux_lemma=>kernel_rfl) (fun _ _ _ h=>h) (by rfl) ?h7 (by assumption) ?_
      case h7=>intro w hSw;go_simp;try with_reducible rfl
      simp only[List.setIfInBounds_toArray,List.set_cons_zero,List.set_cons_succ]
      refine OrdE.take (i:=0) (d:=56) (v:= .slice (some ⟨w.heap.size+1,0,none⟩) LN (2*n)) rfl rfl rfl (by as_aux_lemma=>kernel_rfl) (by as_aux_lemma=>kernel_rfl) (by as_aux_lemma=>kernel_rfl) (by as_aux_lemma=>kernel_rfl) (fun _ _ _ h=>h) (by rfl) ?h0 (by assumption) ?_
      case h0=>intro w hSw;have e:=hSw.1;go_simp;try with_reducible rfl
      simp only[List.setIfInBounds_toArray,List.set_cons_zero,List.set_cons_succ]
      refine OrdE.take (i:=1) (d:=57) (v:= .slice (some ⟨w.heap.size+1,0,none⟩) LN (2*n)) rfl rfl rfl (by as_aux_lemma=>kernel_rfl) (by as_aux_lemma=>kernel_rfl) (by as_aux_lemma=>kernel_rfl) (by as_aux_lemma=>kernel_rfl) (fun _ _ _ h=>h) (by rfl) ?h1 (by assumption) ?_
      case h1=>intro w hSw;have e:=hSw.1;go_simp;try with_reducible rfl
      simp only[List.setIfInBounds_toArray,List.set_cons_zero,List.set_cons_succ]
      refine OrdE.take (i:=6) (d:=62) (v:= .slice (some ⟨w.heap.size+1,0,none⟩) LN (2*n)) rfl rfl rfl (by as_aux_lemma=>kernel_rfl) (by as_aux_lemma=>kernel_rfl) (by as_aux_lemma=>kernel_rfl) (by as_aux_lemma=>kernel_rfl) (fun _ _ _ h=>h) (by rfl) ?h6 (by assumption) ?_
      case h6=>intro w hSw;have e:=hSw.1;go_simp;try with_reducible rfl
      simp only[List.setIfInBounds_toArray,List.set_cons_zero,List.set_cons_succ]
      refine OrdE.take (i:=3) (d:=59) (v:= .pointer (some ⟨w.heap.size+1,a*2,none⟩)) rfl rfl rfl (by as_aux_lemma=>kernel_rfl) (by as_aux_lemma=>kernel_rfl) (by as_aux_lemma=>kernel_rfl) (by as_aux_lemma=>kernel_rfl) (fun _ _ _ h=>h) (by rfl) ?h3 (by assumption) ?_
      case h3=>intro w hSw;go_simp;try with_reducible rfl
      simp only[List.setIfInBounds_toArray,List.set_cons_zero,List.set_cons_succ]
      refine OrdE.take (i:=4) (d:=60) (v:= .pointer (some ⟨w.heap.size+1,a*2,none⟩)) rfl rfl rfl (by as_aux_lemma=>kernel_rfl) (by as_aux_lemma=>kernel_rfl) (by as_aux_lemma=>kernel_rfl) (by as_aux_lemma=>kernel_rfl) (fun _ _ _ h=>h) (by rfl) ?h4 (by assumption) ?_
      case h4=>intro w hSw;go_simp;try with_reducible rfl
      simp only[List.setIfInBounds_toArray,List.set_cons_zero,List.set_cons_succ]
      refine OrdE.take (i:=5) (d:=61) (v:= .int .i64 x) rfl rfl rfl (by as_aux_lemma=>kernel_rfl) (by as_aux_lemma=>kernel_rfl) (by as_aux_lemma=>kernel_rfl) (by as_aux_lemma=>kernel_rfl) (fun _ _ _ h=>h) (by rfl) ?h5 (by assumption) ?_
      case h5=>intro w hSw;have e:=hSw.2.1;go_simp;try with_reducible rfl
      simp only[List.setIfInBounds_toArray,List.set_cons_zero,List.set_cons_succ]
      refine OrdE.take (i:=8) (d:=64) (v:= .pointer (some ⟨w.heap.size+1,b*2,none⟩)) rfl rfl rfl (by as_aux_lemma=>kernel_rfl) (by as_aux_lemma=>kernel_rfl) (by as_aux_lemma=>kernel_rfl) (by as_aux_lemma=>kernel_rfl) (fun _ _ _ h=>h) (by rfl) ?h8 (by assumption) ?_
      case h8=>intro w hSw;go_simp;try with_reducible rfl
      simp only[List.setIfInBounds_toArray,List.set_cons_zero,List.set_cons_succ]
      refine OrdE.take (i:=9) (d:=65) (v:= .pointer (some ⟨w.heap.size+1,b*2,none⟩)) rfl rfl rfl (by as_aux_lemma=>kernel_rfl) (by as_aux_lemma=>kernel_rfl) (by as_aux_lemma=>kernel_rfl) (by as_aux_lemma=>kernel_rfl) (fun _ _ _ h=>h) (by rfl) ?h9 (by assumption) ?_
      case h9=>intro w hSw;go_simp;try with_reducible rfl
      simp only[List.setIfInBounds_toArray,List.set_cons_zero,List.set_cons_succ]
      refine OrdE.take (i:=10) (d:=66) (v:= .int .i64 y) rfl rfl rfl (by as_aux_lemma=>kernel_rfl) (by as_aux_lemma=>kernel_rfl) (by as_aux_lemma=>kernel_rfl) (by as_aux_lemma=>kernel_rfl) (fun _ _ _ h=>h) (by rfl) ?h10 (by assumption) ?_
      case h10=>intro w hSw;have e:=hSw.2.2;go_simp;try with_reducible rfl
      simp only[List.setIfInBounds_toArray,List.set_cons_zero,List.set_cons_succ]
      refine OrdE.take (i:=11) (d:=67) (v:= .int .i64 (x+y)) rfl rfl rfl (by as_aux_lemma=>kernel_rfl) (by as_aux_lemma=>kernel_rfl) (by as_aux_lemma=>kernel_rfl) (by as_aux_lemma=>kernel_rfl) (fun _ _ _ h=>h) (by rfl) ?h11 (by assumption) ?_
      case h11=>intro w hSw;go_simp;exact HXY.out
      simp only[List.setIfInBounds_toArray,List.set_cons_zero,List.set_cons_succ]
      refine OrdE.take (i:=12) (d:=68) (v:= .agg #[.int .i64 (x+y),.int .i64 0]) rfl rfl rfl (by as_aux_lemma=>kernel_rfl) (by as_aux_lemma=>kernel_rfl) (by as_aux_lemma=>kernel_rfl) (by as_aux_lemma=>kernel_rfl) (fun _ _ _ h=>h) (by rfl) ?h12 (by assumption) ?_
      case h12=>intro w hSw;go_simp;try with_reducible rfl
      simp only[List.setIfInBounds_toArray,List.set_cons_zero,List.set_cons_succ]
      refine OrdE.one (i:=13) (by as_aux_lemma=>kernel_rfl) rfl (fun K hK=>?_)
      go_simp
      refine hK.out _ _ (fun _=>⟨bxA,wxA,wyA⟩) ?_
      clear hK K
      refine OrdE.one (i:=14) (by as_aux_lemma=>kernel_rfl) rfl (fun K hK=>?_)
      refine wp_app_node _ wE (.tmp 56) (.tmp 69) rfl w.heap.size (w.heap.size+1) (2*n) N2 (x+y) (by rw[HLN.out];rfl) HT3.out.zero.row rfl rfl (by rw[HLN.out];omega) ?_
      intro w6 hown6 hg6
      have hA:=T0.app HT3.out.zero hg6 hown6
      have hbx6:=hA.box
      have hfz6:=hA.froz
      have hwx6:=hA.wt a (by rw[HLN.out];exact haN)
      have hwy6:=hA.wt b (by rw[HLN.out];exact hbN)
      rw[HWX.out] at hwx6
      rw[HWY.out] at hwy6
      rw[HLN.out] at hbx6
      have hst:=hA.store HT3.out.zero
      have hfin:=TM.fin HT3.out hst.1 hst.2
      refine hK.out _ _ (fun _=>⟨hbx6,hwx6,hwy6⟩) ?_
      clear hK K
      have HFIN:=hid hfin
      clear hA hown6 hg6 hst hfin hwx6 hwy6
      refine OrdE.put (d:=70) rfl ?_
      simp only[List.setIfInBounds_toArray,List.set_cons_zero,List.set_cons_succ]
      generalize hnn:(N2++ [(x+y,0)]).length=nn at *
      clear hnn
      refine OrdE.one (i:=15) (by as_aux_lemma=>kernel_rfl) rfl (fun K hK=>?_)
      go_simp
      refine hK.out _ _ (fun h=>absurd rfl h) ?_
      clear hK K
      refine OrdE.done (by as_aux_lemma=>kernel_rfl) ?_ _
      generalize w6.setCell ⟨gN,0,none⟩ (.slice (some ⟨w.heap.size+1,0,none⟩) nn (2*n))=w7 at *
      clear hbx6 hfz6 bxA wxA wyA bx3 wx3 wy3
      go_wp2
      go_roundw
      case rel=>exact⟨t+1,by omega,by go_num,by rw[HST2.out];exact HFIN.out⟩
      case measure=>simp[intOf];omega
     ·have htz:¬(t:Int)<(n:Int)-1:=by omega
      have HTE:Hid (n-1=t):=by show _=_;omega
      have hbx:=hTM.zero.box
      have HROW:=hid hTM.row
      have HBE:=hid hTM.bel
      clear hTM
      go_wp2
      go_ret
      exact⟨_,rfl,by rw[HTE.out];exact HROW.out,HBE.out⟩
end Go.Proofs.YtelnefngkdfcoaaGreat
