/- Contracts and facts. -/
import Derived.Test.YtibjlbcnapoblaaGreatDoorPart15
namespace Go.Proofs.YtibjlbcnapoblaaGreatDoor
set_option maxRecDepth 100000
set_option maxHeartbeats 6400000
section
open Go.RowKit Hf
theorem T0.later{w wr w':World}{gy gN gr capN:Nat}{vy:Value}{N:Nodes}(h:T0 w wr gy gN gr capN vy N)(hb:Below wr.heap.size wr w'):T0 w w' gy gN gr capN vy N:=by
 refine⟨by rw[hb.block _ (Array.getElem?_eq_some_iff.1 h.sy).1];exact h.sy,by rw[hb.block _ (Array.getElem?_eq_some_iff.1 h.nd).1];exact h.nd,⟨h.row.1,?_⟩,h.by',h.bN,Bn h.bel hb⟩
 rcases h.row.2 with h1 | ⟨g,cp,cur,hv,hg,hh,hrest⟩
 ·exact Or.inl h1
 ·exact Or.inr ⟨g,cp,cur,hv,hg,(hb.block g (Array.getElem?_eq_some_iff.1 hh).1).trans hh,hrest⟩
theorem T0.Qna{w wr:World}{gy gN gr capN g:Nat}{vy v u:Value}{N:Nodes}(h:T0 w wr gy gN gr capN vy N)(hg:wr.heap[g]?=some (.cells #[v] 3 (0,0)))(hw:w.heap.size<=g):T0 w (wr.setCell ⟨g,0,none⟩ u) gy gN gr capN vy N:=by
 obtain⟨cur,hcur⟩:=h.rowBlk
 exact⟨by rw[Qac hg (Qaw h.sy hg (by decide))];exact h.sy,by rw[Qac hg (Qaw h.nd hg (by decide))];exact h.nd,
  ownsRow_setCell_other h.row (by simp[Value.ownBlock];exact Qaw hcur hg (by decide)) _,h.by',h.bN,h.bel.setCell (show w.heap.size<=(Addr.mk g 0 none).block from hw) _⟩
theorem TM.inCell{w wr:World}{gy gN gl gp gr capN n:Nat}{vy:Value}{s:TS}(h:TM w wr gy gN gl gp gr capN n vy s)(i:Nat)(hi:i<s.N.length):wr.cell? ⟨gr,i*2+1,none⟩=some (.int .i64 (inn s.N i)):=by
 have hl:=Qd2 s.N
 rw[Nat.mul_comm i 2,h.row.cellAt (2*i+1) (by omega),List.getElem?_map,<-Ql6]
 simp[List.getD,List.getElem?_eq_getElem (show 2*i+1<(Qc4 s.N).length from by omega)]
theorem TM.Qcg{w wr:World}{gy gN gl gp gr capN n:Nat}{vy:Value}{s:TS}(h:TM w wr gy gN gl gp gr capN n vy s)(i:Nat)(hi:i<s.N.length)(v:Int):TM w (wr.setCell ⟨gr,i*2+1,none⟩ (.int .i64 v)) gy gN gl gp gr capN n vy ⟨Hf.Qcg s.N i v,s.l,s.p⟩:=by
 obtain⟨cur,hcur⟩:=h.rowBlk
 have hst:=h.row.stored (i*2+1) (.int .i64 v)
 rw[<-List.map_set,Nat.mul_comm i 2,Xdq s.N i v hi,Nat.mul_comm 2 i] at hst
 refine⟨by rw[Qac hcur (Qaw h.sy hcur (by decide))];exact h.sy,by rw[Qac hcur (Qaw h.nd hcur (by decide)),Qbj];exact h.nd,by rw[Qac hcur (Qaw h.lf hcur (by decide))];exact h.lf,by rw[Qac hcur (Qaw h.pr hcur (by decide))];exact h.pr,?_,h.ne,h.by',h.bN,h.bl,h.bp,h.bel.setCell (show w.heap.size<=(Addr.mk gr (i*2+1) none).block from(h.row.lt gr rfl).1) _⟩
 show World.ownsRow _ _ _ _ _ _ _
 rw[Qbj];exact hst.1
theorem Qjg(N:Nodes)(M:Int)(h:∀i,wt N i<=M):∀(k i:Nat),Qiw N i k<=k*M
 | 0,_=>by simp[Qiw]
 | k+1,i=>by
   rw[Qiw]
   have h1:=h i
   have h2:=Qjg N M h k (i+1)
   have h3:((k+1:Nat):Int)*M=k*M+M:=by rw[Int.natCast_add,Int.add_mul];simp
   omega
theorem Xba(ws:List Int)(h:∀i,0<=ws.getD i 0∧ws.getD i 0<=1073741824)(hn:ws.length<=512):Qfs ws.length (Qbk ws).N 0 ws.length<=549755813888:=by
 have hw:∀i,wt (Qbk ws).N i<=1073741824:=fun i=>by
  have:=(h i).2
  unfold wt Qbk
  simp only[List.getD,List.getElem?_map] at this|-
  generalize ws[i]?=o at this
  cases o with
  | none=>simp
  | some x=>simpa using this
 have e:(Qbk ws).N.length-ws.length=0:=by simp[Qbk]
 unfold Qfs
 rw[e,Qiw]
 have:=Qjg (Qbk ws).N 1073741824 hw (ws.length-0) 0
 have h3:((ws.length-0:Nat):Int)*1073741824<=512*1073741824:=by omega
 omega
theorem TM.fin{w wr W:World}{gy gN gl gp gr capN n:Nat}{vy:Value}{s:TS}{N2:Nodes}(h:TM w wr gy gN gl gp gr capN n vy s)(h0:T0 w W gy gN gr capN vy N2)(ho:∀k,k<wr.heap.size->k≠gr->k≠gN->W.heap[k]?=wr.heap[k]?):TM w W gy gN gl gp gr capN n vy ⟨N2,s.l,s.p⟩:=by
 obtain⟨cur,hcur⟩:=h.rowBlk
 exact⟨h0.sy,h0.nd,by rw[ho gl (Array.getElem?_eq_some_iff.1 h.lf).1 (Qaw h.lf hcur (by decide)) (Qaw h.lf h.nd (by decide))];exact h.lf,
  by rw[ho gp (Array.getElem?_eq_some_iff.1 h.pr).1 (Qaw h.pr hcur (by decide)) (Qaw h.pr h.nd (by decide))];exact h.pr,h0.row,h.ne,h.by',h.bN,h.bl,h.bp,h0.bel⟩
theorem Xan(ay:Option Addr)(cy:Nat)(sy:List Int)(ac:Option Addr)(cc:Nat)(cs:List Int)(w:World)(hy:Ri w .i64 ay cy sy)(hr:Ri w .i64 ac cc cs)(hn:sy.length<=512)(hcl:cs.length<=100000)
 (hmem:∀u∈sy,0<=u∧u<(cs.length:Int)) (hpos:∀i,0<=(Qcb cs sy).getD i 0∧(Qcb cs sy).getD i 0<=1073741824) :
 Calls Tryz.prog 165 #[.slice ay sy.length cy,.slice ac cs.length cc] w fun e w'=>∃v,e= .returned v∧w'.ownsRow w.heap.size 234 2 v (Qae (Qcb cs sy) (sy.length-1)).N.length ((Qc4 (Qae (Qcb cs sy) (sy.length-1)).N).map (Value.int .i64))∧Below w.heap.size w w':=by
 obtain⟨i0,hi,hz0,hz1,hz2⟩:=info_parts Tryz.info234
 have HY:=hid hy
 have HR:=hid hr
 have HME:=hid hmem
 have HPO:=hid hpos
 have HGD:=hid (Qgr cs sy)
 have HWL:Hid ((Qcb cs sy).length=sy.length):=by show _=_;simp[Qcb]
 have hcr:=hr.room
 have hcm:=hr.most
 unfold maxLen at hcm
 obtain⟨n,hnn⟩:∃n,n=sy.length:=⟨_,rfl⟩
 have HN:=hid hnn
 obtain⟨cl,hcc⟩:∃n,n=cs.length:=⟨_,rfl⟩
 have HCL:=hid hcc
 rw[<-hnn] at hn HWL|-
 rw[<-hcc] at hcl hcr|-
 generalize hws:Qcb cs sy=ws at *
 have HWS:=hid hws
 clear hy hr hmem hpos hnn hcc hws
 have sA:(w.alloc (.cells #[.slice ay n cy] 112)).heap.size=w.heap.size+1:=by simp
 have eA:=Qag w (.cells #[.slice ay n cy] 112)
 have bA:=Qab w (.cells #[.slice ay n cy] 112)
 go_enter Tryz.func165,Tryz.ntmps165
 go_wp2_with (first
  | (at_make;refine wpList_make_own _ rfl _ _ 231 rfl w.heap.size 234 i0 (.agg #[.int .i64 0,.int .i64 0]) 2 Tryz.underlying231 hi hz0 hz1 .i64 .i64 _ (2*n) rfl rfl (by first | rfl | omega | (simp)) ?b2 ?b3 ?b4 ?_))
 case b2=>rw[hz2];omega
 case b3=>unfold maxLen;omega
 case b4=>simp
 intro w1 hown1 hg1
 have HB1:Hid (Below w.heap.size w w1):=bA.grown hg1 (by simp) (fun k hk=>by cases hk)
 have e1:w1.heap[w.heap.size]?=some (.cells #[.slice ay n cy] 112 (0,0)):=by
  rw[hg1.block w.heap.size (by simp) (by simp)];exact eA
 have s1:w.heap.size+1<=w1.heap.size:=by rw[<-sA];exact hg1.size
 obtain⟨gN,hgN⟩:∃g,g=w1.heap.size:=⟨_,rfl⟩
 have eN:=Qag w1 (.cells #[.slice (some ⟨w.heap.size+1,0,none⟩) 0 (2*n)] 231)
 have bN:=Qab w1 (.cells #[.slice (some ⟨w.heap.size+1,0,none⟩) 0 (2*n)] 231)
 have hT:T0 w (w1.alloc (.cells #[.slice (some ⟨w.heap.size+1,0,none⟩) 0 (2*n)] 231)) w.heap.size w1.heap.size (w.heap.size+1) (2*n) (.slice ay n cy) (Qeb ws 0):=by
  refine⟨?_,?_,?_,Nat.le_refl _,by omega,Bn HB1.out bN⟩
  ·rw[bN.block _ (by omega)];exact e1
  ·exact eN
  ·exact hown1.alloc _
 rw[<-hgN] at hT
 have c0:=hT.sym
 have HT0:=hid hT
 have HGN:Hid (w1.heap.size=gN):=hgN.symm
 clear hT eN bN e1 hown1 hg1 bA eA sA HB1 s1 hgN
 go_wp2
 rw[HGN.out]
 clear c0
 generalize (w1.alloc (.cells #[.slice (some ⟨w.heap.size+1,0,none⟩) 0 (2*n)] 231))=w2 at *
 go_loopw [7,19] (fun _ y wr=>∃k:Nat,k<=n∧y= .int .i64 k∧T0 w wr w.heap.size gN (w.heap.size+1) (2*n) (.slice ay n cy) (Qeb ws k)) (fun _ y _=>n-(intOf y).toNat)
 case atStart=>exact⟨0,by omega,rfl,HT0.out⟩
 case round=>
  clear HT0
  obtain⟨k,hk,rfl,hT⟩:=hrel
  by_cases hlt:k<n
  ·have hkl:(k:Int)<(n:Int):=by omega
   have K1:Hid (k<sy.length):=by show _<_;rw[<-HN.out];exact hlt
   obtain⟨by',oy,rfl,hbyw,hcy⟩:=(HY.out).cells (by have:=K1.out;omega)
   have hmk:=HME.out _ (Qbt sy k K1.out)
   obtain⟨u,hu⟩:∃u:Nat,sy.getD k 0=(u:Int):=⟨(sy.getD k 0).toNat,by omega⟩
   have cy1:wr.cell? ⟨by',oy+k,none⟩=some (.int .i64 (u:Int)):=by
    rw[(hT.bel.cell (p:=⟨by',oy+k,none⟩) hbyw).trans (hcy k K1.out),hu]
   have hul:u<cl:=by rw[HCL.out];omega
   obtain⟨gc,oc,rfl,hgcw,hcc⟩:=(HR.out).cells (by rw[<-HCL.out];omega)
   obtain⟨x,hx⟩:∃x,x=ws.getD k 0:=⟨_,rfl⟩
   have hxc:cs.getD u 0=x:=by
    rw[hx,HGD.out k K1.out,hu,key,Int.toNat_natCast]
   have HCX:Hid (w.cell? ⟨gc,oc+u,none⟩=some (.int .i64 x)):=by
    show _=_
    rw[hcc u (by rw[<-HCL.out];exact hul),hxc]
   have HN1:Hid (Qeb ws (k+1)=Qeb ws k++ [(x,0)]):=by
    show _=_
    rw[Qtq ws k (by rw[HWL.out];exact hlt),hx]
   have HNL:Hid ((Qeb ws k).length=k):=Qn7 ws k (by rw[HWL.out];exact hk)
   obtain⟨nk,hnk⟩:∃m,m=(Qeb ws k).length:=⟨_,rfl⟩
   have HNK:Hid ((Qeb ws k).length=nk):=hnk.symm
   have HT:=hid hT.drew
   have hS:wr.drew.cell? ⟨gc,oc+u,none⟩=some (.int .i64 x):=(hT.bel.cell (p:=⟨gc,oc+u,none⟩) hgcw).trans HCX.out
   have hbx:wr.drew.cell? ⟨gN,0,none⟩=some (.slice (some ⟨w.heap.size+1,0,none⟩) nk (2*n)):=by rw[hnk];exact hT.box
   have hulz:(u:Int)<(cl:Int):=by omega
   clear hT hcy hcc hmk hu hx hxc K1 hnk
   go_wp2_with fail
   refine OrdE.region (fun W=>W.cell? ⟨gN,0,none⟩=some (.slice (some ⟨w.heap.size+1,0,none⟩) nk (2*n))∧W.cell? ⟨gc,oc+u,none⟩=some (.int .i64 x)) 8 (by kernel_rfl) ⟨hbx,hS⟩ (fun hSS=>?_)
   clear cy1
   generalize wr.drew=wD at *
   have hDw:=HT.out.bel.size
   have hbA:=Qab wD (.cells #[.int .i64 x,.int .i64 0] 234)
   have HSA:Hid ((wD.alloc (.cells #[.int .i64 x,.int .i64 0] 234)).cell? ⟨gc,oc+u,none⟩=some (.int .i64 x)):=(hbA.cell (p:=⟨gc,oc+u,none⟩) (by show gc<_;omega)).trans hS
   have hgNl:=(Array.getElem?_eq_some_iff.1 HT.out.nd).1
   have hbxA:(wD.alloc (.cells #[.int .i64 x,.int .i64 0] 234)).cell? ⟨gN,0,none⟩=some (.slice (some ⟨w.heap.size+1,0,none⟩) nk (2*n)):=(hbA.cell (p:=⟨gN,0,none⟩) hgNl).trans hbx
   refine OrdE.take (i:=1) (d:=24) (v:=?v1) rfl rfl rfl (by as_aux_lemma=>kernel_rfl) (by as_aux_lemma=>kernel_rfl) (by as_aux_lemma=>kernel_rfl) (by as_aux_lemma=>kernel_rfl) (fun _ _ _ h=>h) (by rfl) ?h1 (by assumption) ?_
   case h1=>intro w hSw;go_simp;try with_reducible rfl
   simp only[Ord.s1,Ord.s2,Ord.s3]
   refine OrdE.take (i:=2) (d:=25) (v:=?v2) rfl rfl rfl (by as_aux_lemma=>kernel_rfl) (by as_aux_lemma=>kernel_rfl) (by as_aux_lemma=>kernel_rfl) (by as_aux_lemma=>kernel_rfl) (fun _ _ _ h=>h) (by rfl) ?h2 (by assumption) ?_
   case h2=>intro w hSw;go_simp;try with_reducible rfl
   simp only[Ord.s1,Ord.s2,Ord.s3]
   refine OrdE.take (i:=3) (d:=26) (v:=?v3) rfl rfl rfl (by as_aux_lemma=>kernel_rfl) (by as_aux_lemma=>kernel_rfl) (by as_aux_lemma=>kernel_rfl) (by as_aux_lemma=>kernel_rfl) (fun _ _ _ h=>h) (by rfl) ?h3 (by assumption) ?_
   case h3=>intro w hSw;go_simp;try with_reducible rfl
   simp only[Ord.s1,Ord.s2,Ord.s3]
   refine OrdE.take (i:=4) (d:=27) (v:= .int .i64 x) rfl rfl rfl (by as_aux_lemma=>kernel_rfl) (by as_aux_lemma=>kernel_rfl) (by as_aux_lemma=>kernel_rfl) (by as_aux_lemma=>kernel_rfl) (fun _ _ _ h=>h) (by rfl) ?h4 (by assumption) ?_
   case h4=>intro w hSw;have e:=hSw.2;go_simp;try with_reducible rfl
   simp only[Ord.s1,Ord.s2,Ord.s3]
   refine OrdE.take (i:=5) (d:=28) (v:=?v5) rfl rfl rfl (by as_aux_lemma=>kernel_rfl) (by as_aux_lemma=>kernel_rfl) (by as_aux_lemma=>kernel_rfl) (by as_aux_lemma=>kernel_rfl) (fun _ _ _ h=>h) (by rfl) ?h5 (by assumption) ?_
   case h5=>intro w hSw;go_simp;try with_reducible rfl
   simp only[Ord.s1,Ord.s2,Ord.s3]
   refine OrdE.take (i:=0) (d:=23) (v:= .slice (some ⟨w.heap.size+1,0,none⟩) nk (2*n)) rfl rfl rfl (by as_aux_lemma=>kernel_rfl) (by as_aux_lemma=>kernel_rfl) (by as_aux_lemma=>kernel_rfl) (by as_aux_lemma=>kernel_rfl) (fun _ _ _ h=>h) (by rfl) ?h0 (by assumption) ?_
   case h0=>intro w hSw;have e:=hSw.1;go_simp;try with_reducible rfl
   simp only[Ord.s1,Ord.s2,Ord.s3]
   refine OrdE.one (i:=6) (by as_aux_lemma=>kernel_rfl) rfl (fun K hK=>?_)
   go_simp
   refine hK.out _ _ (fun _=>⟨hbxA,HSA.out⟩) ?_
   clear hK K
   refine OrdE.one (i:=7) (by as_aux_lemma=>kernel_rfl) rfl (fun K hK=>?_)
   refine Qma _ wD (.tmp 23) (.tmp 29) rfl w.heap.size (w.heap.size+1) (2*n) (Qeb ws k) x (by rw[HNK.out];rfl) HT.out.row rfl rfl (by rw[HNL.out];omega) ?_
   intro w2 hown2 hg2
   have hA:=T0.app HT.out hg2 hown2
   have hbx2:=hA.box
   rw[HNK.out] at hbx2
   have hfz2:=hA.froz
   have hst:=(hA.store HT.out).1
   refine hK.out _ _ (fun _=>⟨hbx2,(hA.bel.cell (p:=⟨gc,oc+u,none⟩) hgcw).trans HCX.out⟩) ?_
   clear hK K
   rw[<-HN1.out] at hst
   have HT2:=hid hst
   clear hA hown2 hg2 hst
   refine OrdE.put (d:=30) rfl ?_
   simp only[Ord.s1,Ord.s2,Ord.s3]
   rw[<-HN1.out]
   generalize (Qeb ws (k+1)).length=nn at *
   refine OrdE.one (i:=8) (by as_aux_lemma=>kernel_rfl) rfl (fun K hK=>?_)
   go_simp
   refine hK.out _ _ (fun h=>absurd rfl h) ?_
   clear hK K
   refine OrdE.done (by as_aux_lemma=>kernel_rfl) ?_ _
   generalize w2.setCell ⟨gN,0,none⟩ (.slice (some ⟨w.heap.size+1,0,none⟩) nn (2*n))=w3 at *
   clear hbx2 hfz2 hS hbx hbxA hbA
   go_wp2
   go_roundw
   case rel=>exact⟨k+1,by omega,by go_num,HT2.out⟩
   case measure=>simp[intOf];omega
  ·have hkn:n=k:=by omega
   subst hkn
   have HST:Hid (Qeb ws n=(Qbk ws).N):=by
    show _=_
    unfold Qeb Qbk
    rw[show ws.take n=ws from by rw[<-HWL.out];exact List.take_length]
   have HC:=hid (Xba ws HPO.out (by rw[HWL.out];exact hn))
   have HTI:=hid (fun t ht=>TI.run ws (fun i=>(HPO.out i).1) t ht)
   rw[HWL.out] at HC HTI
   have hS0:=hT.drew.sym
   have HT:=hid hT.drew
   clear hT
   go_wp2_with fail
   refine wp_region_held_drew (S:=fun W=>W.cell? ⟨w.heap.size,0,none⟩=some (.slice ay n cy)) (by kernel_rfl) hS0 (fun hS=>?_)
   generalize wr.drew=wD at *
   have hbA:=Qab wD (.cells #[.int .i64 0] 3)
   have eA:=Qag wD (.cells #[.int .i64 0] 3)
   have HTA:=hid (HT.out.later hbA)
   have hSA:=HTA.out.sym
   obtain⟨gA,hgA⟩:∃g,g=wD.heap.size:=⟨_,rfl⟩
   have hAw:w.heap.size<=gA:=by rw[hgA];exact HT.out.bel.size
   rw[<-hgA] at eA
   have HGA:Hid (wD.heap.size=gA):=hgA.symm
   clear hbA HT hgA
   refine Ord.tk (i:=0) (d:=32) (v:= .slice ay n cy) rfl rfl ?h0 (by assumption) ?_
   case h0=>intro w hSw;have e:=hSw;go_simp;try with_reducible rfl
   simp only[Ord.s1,Ord.s2,Ord.s3]
   refine Ord.tk (i:=1) (d:=33) (v:=?v1s) rfl rfl ?h1 (by assumption) ?_
   case h1=>intro w hSw;go_simp;try with_reducible rfl
   simp only[Ord.s1,Ord.s2,Ord.s3]
   refine wpAnyH_ready (rs:= [2,3]) (by as_aux_lemma=>kernel_rfl) (by simp) (AllReadyH.cons rfl (fun K hK=>?brA) (AllReadyH.cons rfl (fun K hK=>?brB) AllReadyH.nil))
   focus
    go_simp
    rw[HGA.out]
    refine hK.out _ _ hSA (fun _=>?_)
    clear hK K
    generalize wD.alloc (.cells #[.int .i64 0] 3)=wA at *
    refine wpAnyH_ready (rs:= [3]) (by as_aux_lemma=>kernel_rfl) (by simp) (AllReadyH.cons rfl (fun K hK=>?_) AllReadyH.nil)
    go_simp
    have hbB:=Qab wA (.cells #[.int .i64 0] 3)
    have eB:=Qag wA (.cells #[.int .i64 0] 3)
    have hTB:=HTA.out.later hbB
    have eA2:(wA.alloc (.cells #[.int .i64 0] 3)).heap[gA]?=some (.cells #[.int .i64 0] 3 (0,0)):=by rw[hbB.block _ (Array.getElem?_eq_some_iff.1 eA).1];exact eA
    have hSB:=hTB.sym
    refine hK.out _ _ hSB (fun _=>?_)
    clear hK K
    obtain⟨gB,hgB⟩:∃g,g=wA.heap.size:=⟨_,rfl⟩
    rw[<-hgB] at eB
    rw[<-hgB]
    have hAB:gA≠gB:=by have:=(Array.getElem?_eq_some_iff.1 eA).1;omega
    have hBw:w.heap.size<=gB:=by rw[hgB];exact HTA.out.bel.size
    have HTB:=hid hTB
    clear hbB hTB hgB eA hSA hS0
    generalize wA.alloc (.cells #[.int .i64 0] 3)=wB at *
    have cl0:wB.cell? ⟨gA,0,none⟩=some (.int .i64 0):=by have:=Joins.cell_of_block eA2 0;simpa using this
    have fl0:=Joins.unfrozen_of_block eA2 0
    refine wpAnyH_ready (rs:= [4]) (by as_aux_lemma=>kernel_rfl) (by simp) (AllReadyH.cons rfl (fun K hK=>?_) AllReadyH.nil)
    go_simp
    have hT4:=HTB.out.Qna (u:= .int .i64 0) eA2 (by omega)
    have hS4:=hT4.sym
    have l4:(wB.setCell ⟨gA,0,none⟩ (.int .i64 0)).heap[gA]?=some (.cells #[.int .i64 0] 3 (0,0)):=by rw[Joins.block_setCell eA2];rfl
    have p4:(wB.setCell ⟨gA,0,none⟩ (.int .i64 0)).heap[gB]?=some (.cells #[.int .i64 0] 3 (0,0)):=by rw[Qac eA2 (by omega)];exact eB
    have HT4:=hid hT4
    refine hK.out _ _ hS4 (fun _=>?_)
    clear hK K cl0 fl0 hT4 eA2 eB
    generalize wB.setCell ⟨gA,0,none⟩ (.int .i64 0)=w4 at *
    have cp0:w4.cell? ⟨gB,0,none⟩=some (.int .i64 0):=by have:=Joins.cell_of_block p4 0;simpa using this
    have fp0:=Joins.unfrozen_of_block p4 0
    refine wpAnyH_ready (rs:= [5]) (by as_aux_lemma=>kernel_rfl) (by simp) (AllReadyH.cons rfl (fun K hK=>?_) AllReadyH.nil)
    go_simp
    have hT5:=HT4.out.Qna (u:= .int .i64 (n:Int)) p4 (by omega)
    have hTM:TM w (w4.setCell ⟨gB,0,none⟩ (.int .i64 (n:Int))) w.heap.size gN gA gB (w.heap.size+1) (2*n) n (.slice ay n cy) (Qbk ws):=by
     rw[HST.out] at hT5
     refine⟨hT5.sy,hT5.nd,by rw[Qac p4 (by omega)];exact l4,?_,hT5.row,by omega,hT5.by',hT5.bN,by omega,by omega,hT5.bel⟩
     rw[Joins.block_setCell p4]
     show some (Obj.cells #[.int .i64 (n:Int)] 3 (0,0))=some (Obj.cells #[.int .i64 ((ws.length:Nat):Int)] 3 (0,0))
     rw[HWL.out]
    have HTM:=hid hTM
    refine hK.out _ _ hT5.sym (fun _=>?_)
    clear hK K cp0 fp0 hT5 hTM hS4 l4 p4 HT4 HTB HTA hSB
    generalize w4.setCell ⟨gB,0,none⟩ (.int .i64 (n:Int))=w5 at *
    generalize hgl:gA=gl at *
    generalize hgp:gB=gp at *
    clear hgl hgp hAB hBw hAw
   rotate_left
   focus
    go_simp
    rw[HGA.out]
    refine hK.out _ _ hSA (fun _=>?_)
    clear hK K
    generalize wD.alloc (.cells #[.int .i64 0] 3)=wA at *
    refine wpAnyH_ready (rs:= [2]) (by as_aux_lemma=>kernel_rfl) (by simp) (AllReadyH.cons rfl (fun K hK=>?_) AllReadyH.nil)
    go_simp
    have hbB:=Qab wA (.cells #[.int .i64 0] 3)
    have eB:=Qag wA (.cells #[.int .i64 0] 3)
    have hTB:=HTA.out.later hbB
    have eA2:(wA.alloc (.cells #[.int .i64 0] 3)).heap[gA]?=some (.cells #[.int .i64 0] 3 (0,0)):=by rw[hbB.block _ (Array.getElem?_eq_some_iff.1 eA).1];exact eA
    have hSB:=hTB.sym
    refine hK.out _ _ hSB (fun _=>?_)
    clear hK K
    obtain⟨gB,hgB⟩:∃g,g=wA.heap.size:=⟨_,rfl⟩
    rw[<-hgB] at eB
    rw[<-hgB]
    have hAB:gA≠gB:=by have:=(Array.getElem?_eq_some_iff.1 eA).1;omega
    have hBw:w.heap.size<=gB:=by rw[hgB];exact HTA.out.bel.size
    have HTB:=hid hTB
    clear hbB hTB hgB eA hSA hS0
    generalize wA.alloc (.cells #[.int .i64 0] 3)=wB at *
    have cl0:wB.cell? ⟨gB,0,none⟩=some (.int .i64 0):=by have:=Joins.cell_of_block eB 0;simpa using this
    have fl0:=Joins.unfrozen_of_block eB 0
    refine wpAnyH_ready (rs:= [4]) (by as_aux_lemma=>kernel_rfl) (by simp) (AllReadyH.cons rfl (fun K hK=>?_) AllReadyH.nil)
    go_simp
    have hT4:=HTB.out.Qna (u:= .int .i64 0) eB (by omega)
    have hS4:=hT4.sym
    have l4:(wB.setCell ⟨gB,0,none⟩ (.int .i64 0)).heap[gB]?=some (.cells #[.int .i64 0] 3 (0,0)):=by rw[Joins.block_setCell eB];rfl
    have p4:(wB.setCell ⟨gB,0,none⟩ (.int .i64 0)).heap[gA]?=some (.cells #[.int .i64 0] 3 (0,0)):=by rw[Qac eB (by omega)];exact eA2
    have HT4:=hid hT4
    refine hK.out _ _ hS4 (fun _=>?_)
    clear hK K cl0 fl0 hT4 eA2 eB
    generalize wB.setCell ⟨gB,0,none⟩ (.int .i64 0)=w4 at *
    have cp0:w4.cell? ⟨gA,0,none⟩=some (.int .i64 0):=by have:=Joins.cell_of_block p4 0;simpa using this
    have fp0:=Joins.unfrozen_of_block p4 0
    refine wpAnyH_ready (rs:= [5]) (by as_aux_lemma=>kernel_rfl) (by simp) (AllReadyH.cons rfl (fun K hK=>?_) AllReadyH.nil)
    go_simp
    have hT5:=HT4.out.Qna (u:= .int .i64 (n:Int)) p4 (by omega)
    have hTM:TM w (w4.setCell ⟨gA,0,none⟩ (.int .i64 (n:Int))) w.heap.size gN gB gA (w.heap.size+1) (2*n) n (.slice ay n cy) (Qbk ws):=by
     rw[HST.out] at hT5
     refine⟨hT5.sy,hT5.nd,by rw[Qac p4 (by omega)];exact l4,?_,hT5.row,by omega,hT5.by',hT5.bN,by omega,by omega,hT5.bel⟩
     rw[Joins.block_setCell p4]
     show some (Obj.cells #[.int .i64 (n:Int)] 3 (0,0))=some (Obj.cells #[.int .i64 ((ws.length:Nat):Int)] 3 (0,0))
     rw[HWL.out]
    have HTM:=hid hTM
    refine hK.out _ _ hT5.sym (fun _=>?_)
    clear hK K cp0 fp0 hT5 hTM hS4 l4 p4 HT4 HTB HTA hSB
    generalize w4.setCell ⟨gA,0,none⟩ (.int .i64 (n:Int))=w5 at *
    generalize hgl:gB=gl at *
    generalize hgp:gA=gp at *
    clear hgl hgp hAB hBw hAw
   all_goals refine wpAnyH_done (by as_aux_lemma=>kernel_rfl) ?_ _
   all_goals have hsyc:=HTM.out.zero.sym
   all_goals go_wp2_with fail
   all_goals clear hsyc
   all_goals
    go_loopw [38] (fun y wr=>∃t:Nat,(t+1<=n∨t=0)∧y= .int .i64 t∧TM w wr w.heap.size gN gl gp (w.heap.size+1) (2*n) n (.slice ay n cy) (Qae ws t)) (fun y _=>n-(intOf y).toNat)
    case atStart=>exact⟨0,by omega,rfl,HTM.out⟩
    case round=>
     clear HTM
     obtain⟨t,ht,rfl,hTM⟩:=hrel
     by_cases hlt2:t+2<=n
     ·have htz:(t:Int)<(n:Int)-1:=by omega
      have hTI:=HTI.out t (by omega)
      have HST0:Hid (Qae ws (t+1)=Qcc n (Qae ws t)):=by
       show _=_
       rw[Qae,HWL.out]
      obtain⟨s,hs⟩:∃s,s=Qae ws t:=⟨_,rfl⟩
      rw[<-hs] at hTI hTM HST0
      clear hs
      have hlen:=hTI.len
      have hln:=hTI.ln
      have hnp:=hTI.np
      have hpl:=hTI.pl
      have hcnt:=hTI.cnt
      have HPS:=hid hTI.pos
      obtain⟨_,hAl,hBl,hAB,hsum⟩:=hTI.step hlt2
      have hsum2:=Int.le_trans hsum HC.out
      obtain⟨a1,a2,a3,a4,a5,_,_⟩:=take_one (n:=n) (N:=s.N) (l:=s.l) (p:=s.p) hln hnp (by omega) (by omega)
      have K1:=hid (Qgy w.heap.size gN gl gp (w.heap.size+1) (2*n) n ay cy s w wr hTM (by omega) (by omega) hln hnp (by omega) (by omega))
      have K2:Hid (∀W,TM w W w.heap.size gN gl gp (w.heap.size+1) (2*n) n (.slice ay n cy) ⟨s.N,Qa0 n s.N s.l s.p,Qay n s.N s.l s.p⟩->Calls Tryz.prog 176 #[.pointer (some ⟨gp,0,none⟩),.pointer (some ⟨gN,0,none⟩),.pointer (some ⟨gl,0,none⟩),.pointer (some ⟨w.heap.size,0,none⟩)] W fun e w'=>e= .returned (.int .i64 ((Qfe n s:Nat):Int))∧TM w w' w.heap.size gN gl gp (w.heap.size+1) (2*n) n (.slice ay n cy) ⟨s.N,(Qcc n s).l,(Qcc n s).p⟩):=fun W hW=>
       Qgy w.heap.size gN gl gp (w.heap.size+1) (2*n) n ay cy ⟨s.N,Qa0 n s.N s.l s.p,Qay n s.N s.l s.p⟩ w W hW (by omega) (by show s.N.length<=_;omega) a2 a3 a4 (by show 0<(n-Qa0 n s.N s.l s.p)+(s.N.length-Qay n s.N s.l s.p);omega)
      have hAe:Qfb n s=takeA n s.N s.l s.p:=rfl
      rw[<-hAe] at K1
      have HSTN:Hid ((Qcc n s).N=Hf.Qcg (Hf.Qcg s.N (Qfb n s) (s.N.length:Int)) (Qfe n s) (s.N.length:Int)++ [(wt s.N (Qfb n s)+wt s.N (Qfe n s),0)]):=rfl
      have HST2:Hid (Qae ws (t+1)=⟨Hf.Qcg (Hf.Qcg s.N (Qfb n s) (s.N.length:Int)) (Qfe n s) (s.N.length:Int)++ [(wt s.N (Qfb n s)+wt s.N (Qfe n s),0)],(Qcc n s).l,(Qcc n s).p⟩):=HST0.out
      have hx0:=HPS.out (Qfb n s)
      have hy0:=HPS.out (Qfe n s)
      clear hAe hTI hTM HST0 HSTN HPS hsum
      generalize (Qcc n s).l=l2 at *
      generalize (Qcc n s).p=p2 at *
      generalize Qfb n s=a at *
      generalize Qfe n s=b at *
      go_wp2_with fail
      refine K1.out.mono ?_
      rintro _ w1 ⟨rfl,hTM1⟩
      have K3:=hid (K2.out w1 hTM1)
      clear hTM1 K1 K2
      go_wp2_with fail
      refine K3.out.mono ?_
      rintro _ w2 ⟨rfl,hTM2⟩
      have bx2:=hTM2.zero.box
      have ca:=hTM2.inCell a hAl
      have cb:=hTM2.inCell b hBl
      have fa:=hTM2.row.frozenAt (a*2+1)
      have fb:=hTM2.row.frozenAt (b*2+1)
      have hT3:=((hTM2.Qcg a hAl (s.N.length:Int)).Qcg b (by show b<(Hf.Qcg s.N a (s.N.length:Int)).length;rw[Qbj];exact hBl) (s.N.length:Int)).drew
      have HWX:Hid (wt (Hf.Qcg (Hf.Qcg s.N a (s.N.length:Int)) b (s.N.length:Int)) a=wt s.N a):=by show _=_;rw[Qez,Qez]
      have HWY:Hid (wt (Hf.Qcg (Hf.Qcg s.N a (s.N.length:Int)) b (s.N.length:Int)) b=wt s.N b):=by show _=_;rw[Qez,Qez]
      have HLN:Hid ((Hf.Qcg (Hf.Qcg s.N a (s.N.length:Int)) b (s.N.length:Int)).length=s.N.length):=by show _=_;rw[Qbj,Qbj]
      have HT3:=hid hT3
      simp only at bx2 ca cb fa fb
      clear hTM2 K3 a1 a2 a3 a4 a5 hT3
      generalize inn s.N a=ia at *
      generalize inn s.N b=ib at *
      generalize Hf.Qcg (Hf.Qcg s.N a (s.N.length:Int)) b (s.N.length:Int)=N2 at *
      generalize wt s.N a=x at *
      generalize wt s.N b=y at *
      generalize s.N.length=LN at *
      have hLN2:LN+1<=2*n:=by omega
      have hLN3:LN<=1024:=by omega
      clear hlen hcnt hln hnp hpl
      have HXY:Hid (IntKind.i64.wrap (x+y)=x+y):=by show _=_;rw[IntKind.wrap_i64];omega
      have haz:(a:Int)<(LN:Int):=by omega
      have hbz:(b:Int)<(LN:Int):=by omega
      have haN:a<LN:=hAl
      have hbN:b<LN:=hBl
      go_wp2_with fail
      go_region
      clear bx2 ca cb fa fb
      generalize ((w2.setCell ⟨w.heap.size+1,a*2+1,none⟩ (.int .i64 (LN:Int))).setCell ⟨w.heap.size+1,b*2+1,none⟩ (.int .i64 (LN:Int))).drew=w3 at *
      have HT4:=hid HT3.out.drew
      have bx3:=HT4.out.zero.box
      have wx3:=HT4.out.wtCell a (by show a<N2.length;rw[HLN.out];exact haN)
      have wy3:=HT4.out.wtCell b (by show b<N2.length;rw[HLN.out];exact hbN)
      simp only at bx3 wx3 wy3
      rw[HLN.out] at bx3
      rw[HWX.out] at wx3
      rw[HWY.out] at wy3
      clear HT3
      have HT3:=HT4
      clear HT4
      go_wp2_with fail
      refine OrdE.region (fun W=>W.cell? ⟨gN,0,none⟩=some (.slice (some ⟨w.heap.size+1,0,none⟩) LN (2*n))∧W.cell? ⟨w.heap.size+1,a*2,none⟩=some (.int .i64 x)∧W.cell? ⟨w.heap.size+1,b*2,none⟩=some (.int .i64 y)) 15 (by kernel_rfl) ⟨bx3,wx3,wy3⟩ (fun hSS=>?_)
      generalize w3.drew=wE at *
      have hbAE:=Qab wE (.cells #[.int .i64 (x+y),.int .i64 0] 234)
      have hgNE:=(Array.getElem?_eq_some_iff.1 HT3.out.nd).1
      have hgrE:=(HT3.out.row.lt (w.heap.size+1) rfl).2
      have bxA:(wE.alloc (.cells #[.int .i64 (x+y),.int .i64 0] 234)).cell? ⟨gN,0,none⟩=some (.slice (some ⟨w.heap.size+1,0,none⟩) LN (2*n)):=(hbAE.cell (p:=⟨gN,0,none⟩) hgNE).trans bx3
      have wxA:(wE.alloc (.cells #[.int .i64 (x+y),.int .i64 0] 234)).cell? ⟨w.heap.size+1,a*2,none⟩=some (.int .i64 x):=(hbAE.cell (p:=⟨w.heap.size+1,a*2,none⟩) hgrE).trans wx3
      have wyA:(wE.alloc (.cells #[.int .i64 (x+y),.int .i64 0] 234)).cell? ⟨w.heap.size+1,b*2,none⟩=some (.int .i64 y):=(hbAE.cell (p:=⟨w.heap.size+1,b*2,none⟩) hgrE).trans wy3
      clear hbAE hgNE hgrE
      refine OrdE.take (i:=2) (d:=58) (v:= .int .i64 (a:Int)) rfl rfl rfl (by as_aux_lemma=>kernel_rfl) (by as_aux_lemma=>kernel_rfl) (by as_aux_lemma=>kernel_rfl) (by as_aux_lemma=>kernel_rfl) (fun _ _ _ h=>h) (by rfl) ?h2 (by assumption) ?_
      case h2=>intro w hSw;go_simp;try with_reducible rfl
      simp only[Ord.s1,Ord.s2,Ord.s3]
      refine OrdE.take (i:=7) (d:=63) (v:= .int .i64 (b:Int)) rfl rfl rfl (by as_aux_lemma=>kernel_rfl) (by as_aux_lemma=>kernel_rfl) (by as_aux_lemma=>kernel_rfl) (by as_aux_lemma=>kernel_rfl) (fun _ _ _ h=>h) (by rfl) ?h7 (by assumption) ?_
      case h7=>intro w hSw;go_simp;try with_reducible rfl
      simp only[Ord.s1,Ord.s2,Ord.s3]
      refine OrdE.take (i:=0) (d:=56) (v:= .slice (some ⟨w.heap.size+1,0,none⟩) LN (2*n)) rfl rfl rfl (by as_aux_lemma=>kernel_rfl) (by as_aux_lemma=>kernel_rfl) (by as_aux_lemma=>kernel_rfl) (by as_aux_lemma=>kernel_rfl) (fun _ _ _ h=>h) (by rfl) ?h0 (by assumption) ?_
      case h0=>intro w hSw;have e:=hSw.1;go_simp;try with_reducible rfl
      simp only[Ord.s1,Ord.s2,Ord.s3]
      refine OrdE.take (i:=1) (d:=57) (v:= .slice (some ⟨w.heap.size+1,0,none⟩) LN (2*n)) rfl rfl rfl (by as_aux_lemma=>kernel_rfl) (by as_aux_lemma=>kernel_rfl) (by as_aux_lemma=>kernel_rfl) (by as_aux_lemma=>kernel_rfl) (fun _ _ _ h=>h) (by rfl) ?h1 (by assumption) ?_
      case h1=>intro w hSw;have e:=hSw.1;go_simp;try with_reducible rfl
      simp only[Ord.s1,Ord.s2,Ord.s3]
      refine OrdE.take (i:=6) (d:=62) (v:= .slice (some ⟨w.heap.size+1,0,none⟩) LN (2*n)) rfl rfl rfl (by as_aux_lemma=>kernel_rfl) (by as_aux_lemma=>kernel_rfl) (by as_aux_lemma=>kernel_rfl) (by as_aux_lemma=>kernel_rfl) (fun _ _ _ h=>h) (by rfl) ?h6 (by assumption) ?_
      case h6=>intro w hSw;have e:=hSw.1;go_simp;try with_reducible rfl
      simp only[Ord.s1,Ord.s2,Ord.s3]
      refine OrdE.take (i:=3) (d:=59) (v:= .pointer (some ⟨w.heap.size+1,a*2,none⟩)) rfl rfl rfl (by as_aux_lemma=>kernel_rfl) (by as_aux_lemma=>kernel_rfl) (by as_aux_lemma=>kernel_rfl) (by as_aux_lemma=>kernel_rfl) (fun _ _ _ h=>h) (by rfl) ?h3 (by assumption) ?_
      case h3=>intro w hSw;go_simp;try with_reducible rfl
      simp only[Ord.s1,Ord.s2,Ord.s3]
      refine OrdE.take (i:=4) (d:=60) (v:= .pointer (some ⟨w.heap.size+1,a*2,none⟩)) rfl rfl rfl (by as_aux_lemma=>kernel_rfl) (by as_aux_lemma=>kernel_rfl) (by as_aux_lemma=>kernel_rfl) (by as_aux_lemma=>kernel_rfl) (fun _ _ _ h=>h) (by rfl) ?h4 (by assumption) ?_
      case h4=>intro w hSw;go_simp;try with_reducible rfl
      simp only[Ord.s1,Ord.s2,Ord.s3]
      refine OrdE.take (i:=5) (d:=61) (v:= .int .i64 x) rfl rfl rfl (by as_aux_lemma=>kernel_rfl) (by as_aux_lemma=>kernel_rfl) (by as_aux_lemma=>kernel_rfl) (by as_aux_lemma=>kernel_rfl) (fun _ _ _ h=>h) (by rfl) ?h5 (by assumption) ?_
      case h5=>intro w hSw;have e:=hSw.2.1;go_simp;try with_reducible rfl
      simp only[Ord.s1,Ord.s2,Ord.s3]
      refine OrdE.take (i:=8) (d:=64) (v:= .pointer (some ⟨w.heap.size+1,b*2,none⟩)) rfl rfl rfl (by as_aux_lemma=>kernel_rfl) (by as_aux_lemma=>kernel_rfl) (by as_aux_lemma=>kernel_rfl) (by as_aux_lemma=>kernel_rfl) (fun _ _ _ h=>h) (by rfl) ?h8 (by assumption) ?_
      case h8=>intro w hSw;go_simp;try with_reducible rfl
      simp only[Ord.s1,Ord.s2,Ord.s3]
      refine OrdE.take (i:=9) (d:=65) (v:= .pointer (some ⟨w.heap.size+1,b*2,none⟩)) rfl rfl rfl (by as_aux_lemma=>kernel_rfl) (by as_aux_lemma=>kernel_rfl) (by as_aux_lemma=>kernel_rfl) (by as_aux_lemma=>kernel_rfl) (fun _ _ _ h=>h) (by rfl) ?h9 (by assumption) ?_
      case h9=>intro w hSw;go_simp;try with_reducible rfl
      simp only[Ord.s1,Ord.s2,Ord.s3]
      refine OrdE.take (i:=10) (d:=66) (v:= .int .i64 y) rfl rfl rfl (by as_aux_lemma=>kernel_rfl) (by as_aux_lemma=>kernel_rfl) (by as_aux_lemma=>kernel_rfl) (by as_aux_lemma=>kernel_rfl) (fun _ _ _ h=>h) (by rfl) ?h10 (by assumption) ?_
      case h10=>intro w hSw;have e:=hSw.2.2;go_simp;try with_reducible rfl
      simp only[Ord.s1,Ord.s2,Ord.s3]
      refine OrdE.take (i:=11) (d:=67) (v:= .int .i64 (x+y)) rfl rfl rfl (by as_aux_lemma=>kernel_rfl) (by as_aux_lemma=>kernel_rfl) (by as_aux_lemma=>kernel_rfl) (by as_aux_lemma=>kernel_rfl) (fun _ _ _ h=>h) (by rfl) ?h11 (by assumption) ?_
      case h11=>intro w hSw;go_simp;exact HXY.out
      simp only[Ord.s1,Ord.s2,Ord.s3]
      refine OrdE.take (i:=12) (d:=68) (v:= .agg #[.int .i64 (x+y),.int .i64 0]) rfl rfl rfl (by as_aux_lemma=>kernel_rfl) (by as_aux_lemma=>kernel_rfl) (by as_aux_lemma=>kernel_rfl) (by as_aux_lemma=>kernel_rfl) (fun _ _ _ h=>h) (by rfl) ?h12 (by assumption) ?_
      case h12=>intro w hSw;go_simp;try with_reducible rfl
      simp only[Ord.s1,Ord.s2,Ord.s3]
      refine OrdE.one (i:=13) (by as_aux_lemma=>kernel_rfl) rfl (fun K hK=>?_)
      go_simp
      refine hK.out _ _ (fun _=>⟨bxA,wxA,wyA⟩) ?_
      clear hK K
      refine OrdE.one (i:=14) (by as_aux_lemma=>kernel_rfl) rfl (fun K hK=>?_)
      refine Qma _ wE (.tmp 56) (.tmp 69) rfl w.heap.size (w.heap.size+1) (2*n) N2 (x+y) (by rw[HLN.out];rfl) HT3.out.zero.row rfl rfl (by rw[HLN.out];omega) ?_
      intro w6 hown6 hg6
      have hA:=T0.app HT3.out.zero hg6 hown6
      have hbx6:=hA.box
      have hfz6:=hA.froz
      have hwx6:=hA.wt a (by rw[HLN.out];exact haN)
      have hwy6:=hA.wt b (by rw[HLN.out];exact hbN)
      rw[HWX.out] at hwx6
      rw[HWY.out] at hwy6
      rw[HLN.out] at hbx6
      have hst:=hA.store HT3.out.zero
      have hfin:=TM.fin HT3.out hst.1 hst.2
      refine hK.out _ _ (fun _=>⟨hbx6,hwx6,hwy6⟩) ?_
      clear hK K
      have HFIN:=hid hfin
      clear hA hown6 hg6 hst hfin hwx6 hwy6
      refine OrdE.put (d:=70) rfl ?_
      simp only[Ord.s1,Ord.s2,Ord.s3]
      generalize hnn:(N2++ [(x+y,0)]).length=nn at *
      clear hnn
      refine OrdE.one (i:=15) (by as_aux_lemma=>kernel_rfl) rfl (fun K hK=>?_)
      go_simp
      refine hK.out _ _ (fun h=>absurd rfl h) ?_
      clear hK K
      refine OrdE.done (by as_aux_lemma=>kernel_rfl) ?_ _
      generalize w6.setCell ⟨gN,0,none⟩ (.slice (some ⟨w.heap.size+1,0,none⟩) nn (2*n))=w7 at *
      clear hbx6 hfz6 bxA wxA wyA bx3 wx3 wy3
      go_wp2
      go_roundw
      case rel=>exact⟨t+1,by omega,by go_num,by rw[HST2.out];exact HFIN.out⟩
      case measure=>simp[intOf];omega
     ·have htz:¬(t:Int)<(n:Int)-1:=by omega
      have HTE:Hid (n-1=t):=by show _=_;omega
      have hbx:=hTM.zero.box
      have HROW:=hid hTM.row
      have HBE:=hid hTM.bel
      clear hTM
      go_wp2
      go_ret
      exact⟨_,rfl,by rw[HTE.out];exact HROW.out,HBE.out⟩
theorem Qa9{w w':World}{B e size n:Nat}{v:Value}{xs:List Value}(h:w.ownsRow B e size v n xs)(hb:Below w.heap.size w w'):w'.ownsRow B e size v n xs:=by
 refine⟨h.1,?_⟩
 rcases h.2 with h1 | ⟨g,cap,cur,hv,hg,hh,hr⟩
 ·exact Or.inl h1
 ·exact Or.inr ⟨g,cap,cur,hv,hg,(hb.block g (Array.getElem?_eq_some_iff.1 hh).1).trans hh,hr⟩
theorem Qh3{w:World}{B e n cap g k:Nat}{X:List Int}(h:w.ownsRow B e 1 (.slice (some ⟨g,0,none⟩) n cap) n (X.map (Value.int .i64)))(x:Int):(w.setCell ⟨g,k,none⟩ (.int .i64 x)).ownsRow B e 1 (.slice (some ⟨g,0,none⟩) n cap) n ((X.set k x).map (Value.int .i64)):=by
 have:=(h.stored k (.int .i64 x)).1
 rwa[<-List.map_set] at this
theorem Qdi(cs:List Int)(hc:∀k,0<=cs.getD k 0∧cs.getD k 0<=1073741824)(sy:List Int):∀i,0<=(Qcb cs sy).getD i 0∧(Qcb cs sy).getD i 0<=1073741824:=by
 intro i
 by_cases hi:i<sy.length
 ·rw[Qgr cs sy i hi];exact hc _
 ·have:(Qcb cs sy)[i]?=none:=List.getElem?_eq_none (by simp[Qcb];omega)
  simp[List.getD,this]
theorem Xbm(cs:List Int)(p:Nat)(hp:p<(srt cs).length):∃u:Nat,(srt cs).getD p 0=(u:Int)∧u<cs.length:=by
 have:=Qhu cs _ (Qbt (srt cs) p hp)
 exact⟨((srt cs).getD p 0).toNat,by omega,by omega⟩
theorem Qia(a:Option Addr)(cap:Nat)(cs:List Int)(w:World)(hr:Ri w .i64 a cap cs)(hn:cs.length<=512)(hc:∀k,0<=cs.getD k 0∧cs.getD k 0<=1073741824)(hm:(nz cs cs.length).length<=Qox):
 Calls Tryz.prog 149 #[.slice a cs.length cap] w fun e w'=>∃v,e= .returned v∧w'.ownsRow w.heap.size 3 1 v (Qaf cs).length ((Qaf cs).map (Value.int .i64))∧Below w.heap.size w w':=by
 obtain⟨i0,hi,hz0,hz1,hz2⟩:=info_parts Tryz.info3'
 have HBC:Hid (∀W,Below w.heap.size w W->Calls Tryz.prog 164 #[.slice a cs.length cap] W fun e w'=>∃v,e= .returned v∧w'.ownsRow W.heap.size 3 1 v (srt cs).length ((srt cs).map (Value.int .i64))∧Below W.heap.size W w'):=fun W hW=>Qqz a cap cs W (hr.later hW) (by omega) hm
 have hsl:(srt cs).length<=512:=by have h1:=Qca cs;have h2:=Qk8 cs cs.length;omega
 have HTR:Hid (∀(W:World) (ay:Option Addr) (cy:Nat),Below w.heap.size w W->Ri W .i64 ay cy (srt cs)->Calls Tryz.prog 165 #[.slice ay (srt cs).length cy,.slice a cs.length cap] W fun e w'=>∃v,e= .returned v∧w'.ownsRow W.heap.size 234 2 v (Qae (Qcb cs (srt cs)) ((srt cs).length-1)).N.length ((Qc4 (Qae (Qcb cs (srt cs)) ((srt cs).length-1)).N).map (Value.int .i64))∧Below W.heap.size W w'):=fun W ay cy hW hy=>
  Xan ay cy (srt cs) a cap cs W hy (hr.later hW) hsl (by omega) (fun u hu=>by have:=Qhu cs u hu;omega) (Qdi cs hc (srt cs))
 have HSF:Hid (∀j,(Lit.int .i64 ((srt cs).getD j 0)).wf=true):=fun j=>by
  by_cases hj:j<(srt cs).length
  ·obtain⟨u,hu,hul⟩:=Xbm cs j hj
   rw[hu];exact Qby (by omega) (by omega)
  ·rw[Qf2 _ _ (by omega)];exact Qb8 _
 have HSI:=hid (Xbm cs)
 have HD1:Hid ((srt cs).length=1->Qaf cs=(List.replicate cs.length 0).set ((srt cs).getD 0 0).toNat 1):=fun h=>by unfold Qaf;rw[if_pos h]
 have HD2:Hid ((srt cs).length≠1->Qaf cs=Qfg cs.length (srt cs) (Qbz (Qae (Qcb cs (srt cs)) ((srt cs).length-1)).N 0) (srt cs).length):=fun h=>by unfold Qaf Qcb;rw[if_neg h]
 have HUP:Hid (2<=(srt cs).length->Ups (Qae (Qcb cs (srt cs)) ((srt cs).length-1)).N∧(Qae (Qcb cs (srt cs)) ((srt cs).length-1)).N.length=2*(srt cs).length-1):=fun h=>by
  have e:(Qcb cs (srt cs)).length=(srt cs).length:=by simp[Qcb]
  have:=Qkj (Qcb cs (srt cs)) (fun i=>(Qdi cs hc (srt cs) i).1) (by rw[e];exact h)
  rwa[e] at this
 have HN0:Hid ((srt cs).length=0->(Qae (Qcb cs (srt cs)) ((srt cs).length-1)).N.length=0):=fun h=>by
  rw[h]
  have:srt cs= []:=List.length_eq_zero_iff.1 h
  rw[this];rfl
 obtain⟨len,hl⟩:∃n,n=cs.length:=⟨_,rfl⟩
 have HL:=hid hl
 rw[<-hl] at hn HBC HTR HSI HD1 HD2|-
 obtain⟨sy,hsy⟩:∃l,l=srt cs:=⟨_,rfl⟩
 rw[<-hsy] at HBC HTR HSF HSI HD1 HD2 HUP HN0 hsl
 generalize (Qae (Qcb cs sy) (sy.length-1)).N=N at *
 clear hr hl hsy hc hm
 go_enter Tryz.func149,Tryz.ntmps149
 go_wp2_with (first
  | (at_make;refine wpList_make_full _ rfl _ _ 112 rfl w.heap.size 3 i0 (.int .i64 0) 1 Tryz.underlying112 hi hz0 hz1 .i64 .i64 _ _ len rfl rfl (by first | rfl | omega) (by first | rfl | omega) ?b2 ?b3 ?b4 ?_))
 case b2=>rw[hz2];omega
 case b3=>unfold maxLen;omega
 case b4=>exact Nat.le_refl _
 intro w1 hown0 hgrow
 have HB1:Hid (Below w.heap.size w w1):=(Below.refl _ _).grown hgrow (Nat.le_refl _) (fun k hk=>by cases hk)
 have hown1:w1.ownsRow w.heap.size 3 1 (.slice (some ⟨w.heap.size,0,none⟩) len len) len ((List.replicate len (0:Int)).map (Value.int .i64)):=by
  rw[toList_madeCells_one] at hown0
  simpa using hown0
 have h1l:=(hown1.lt w.heap.size rfl).2
 have HO1:=hid hown1
 clear hgrow hown0 hown1
 obtain⟨gd,hgd⟩:∃g,g=w.heap.size:=⟨_,rfl⟩
 rw[<-hgd] at HO1 h1l
 rw[<-hgd]
 have HGD:Hid (w.heap.size=gd):=hgd.symm
 have hgdw:w.heap.size<=gd:=by omega
 clear hgd
 go_wp2_with fail
 refine(HBC.out w1 HB1.out).mono ?_
 rintro _ w2 ⟨vs,rfl,hownS,hb2⟩
 obtain⟨ay,cy,rfl,hry⟩:=Ri.own hownS HSF.out
 have HB2:=hid (Bn HB1.out hb2)
 have HO2:=hid (Qa9 HO1.out hb2)
 have HRY:=hid hry
 have h2l:=hb2.size
 have HAY:Hid (∀b o,ay=some ⟨b,o,none⟩->w1.heap.size<=b∧b<w2.heap.size):=fun b o hb=>by
  subst hb
  exact hownS.lt b rfl
 clear hownS hb2 hry HBC HO1
 by_cases h1:sy.length=1
 ·obtain⟨u,hu,hul⟩:=HSI.out 0 (by omega)
  obtain⟨bs,os,rfl,hbs,hcs⟩:=HRY.out.cells (by omega)
  have c0:=hcs 0 (by omega)
  rw[hu,Nat.add_zero] at c0
  have c1:=Qa3 HO2.out (by simp) u hul
  have f1:=HO2.out.frozenAt u
  have HP:=hid (Qh3 (k:=u) HO2.out 1)
  have HE:Hid (Qaf cs=(List.replicate len 0).set u 1):=by
   show _=_
   rw[HD1.out h1,hu,Int.toNat_natCast]
  have HB3:=hid (HB2.out.setCell (show w.heap.size<=(Addr.mk gd u none).block from hgdw) (.int .i64 1))
  have hulz:(u:Int)<(len:Int):=by omega
  rw[h1]
  clear hcs hu HO2
  generalize (List.replicate len (0:Int)).getD u 0=z at *
  go_wp2
  go_ret
  exact⟨_,rfl,by rw[HE.out,List.length_set,List.length_replicate,HGD.out];exact HP.out,HB3.out⟩
 ·have HE:=hid (HD2.out h1)
  have h1b:((sy.length:Int)==1)=false:=by simp;omega
  have HT3:=hid (HTR.out w2 ay cy HB2.out HRY.out)
  clear HTR HD1 HD2
  obtain⟨ns,hns⟩:∃n,n=sy.length:=⟨_,rfl⟩
  have HNS:=hid hns
  rw[<-hns] at h1b HT3 HUP hsl HE HSI HN0 h1
  rw[<-hns]
  clear hns
  go_wp2_with fail
  refine HT3.out.mono ?_
  rintro _ w3 ⟨vn,rfl,hownN,hb3⟩
  have hNL:N.length<=1024:=by
   by_cases h2:2<=ns
   ·have:=(HUP.out h2).2;omega
   ·have:=HN0.out (by omega);omega
  obtain⟨LN,hLN⟩:∃n,n=N.length:=⟨_,rfl⟩
  have HLN:=hid hLN
  have HON:=hid hownN
  have HB3:=hid (Bn HB2.out hb3)
  have HO3:=hid (Qa9 HO2.out hb3)
  have HRY3:=hid (HRY.out.later hb3)
  have h3l:=hb3.size
  obtain⟨an,mn,cn,rfl,hmn⟩:∃an mn cn,vn= .slice an mn cn∧mn=LN:=by
   rcases hownN.2 with ⟨h1,h2⟩ | ⟨g,cp,_,h1,_⟩
   ·exact⟨none,0,0,h1,by omega⟩
   ·exact⟨_,_,cp,h1,hLN.symm⟩
  subst hmn
  rw[<-hLN] at hNL
  clear hownN hb3 HO2 HRY HT3 hLN
  go_wp2_with (first
   | (at_make;refine wpList_make_full _ rfl _ _ 112 rfl w3.heap.size 3 i0 (.int .i64 0) 1 Tryz.underlying112 hi hz0 hz1 .i64 .i64 _ _ mn rfl rfl (by first | rfl | omega) (by first | rfl | omega) ?b2 ?b3 ?b4 ?_))
  case b2=>rw[hz2];omega
  case b3=>unfold maxLen;omega
  case b4=>exact Nat.le_refl _
  intro w4 hown4 hgrow
  have hb4:Below w3.heap.size w3 w4:=(Below.refl _ _).grown hgrow (Nat.le_refl _) (fun k hk=>by cases hk)
  have hob:w4.ownsRow w3.heap.size 3 1 (.slice (some ⟨w3.heap.size,0,none⟩) mn mn) mn ((Qbz N (mn-1)).map (Value.int .i64)):=by
   rw[Qsj N (mn-1) (by rw[<-HLN.out];omega),<-HLN.out]
   rw[toList_madeCells_one] at hown4
   simpa using hown4
  obtain⟨gb,hgb⟩:∃g,g=w3.heap.size:=⟨_,rfl⟩
  rw[<-hgb] at hob h3l
  rw[<-hgb]
  have HOB:=hid hob
  have HB4:=hid (Bn HB3.out hb4)
  have HO4:=hid (Qa9 HO3.out hb4)
  have HON4:=hid (Qa9 HON.out hb4)
  have HRY4:=hid (HRY3.out.later hb4)
  have hgdb:gd≠gb:=by omega
  have hgwb:w.heap.size<=gb:=by omega
  have hownNl:=fun k (hk:(Value.slice an mn cn).ownBlock=some k)=>(HON.out.lt k hk).2
  have HNB:Hid (∀k,(Value.slice an mn cn).ownBlock=some k->k≠gb):=fun k hk=>by have:=hownNl k hk;omega
  have HGB:Hid (w3.heap.size=gb):=hgb.symm
  have HONl:Hid (∀k,(Value.slice an mn cn).ownBlock=some k->k<w3.heap.size):=fun k hk=>(HON.out.lt k hk).2
  clear hown4 hgrow hb4 hob HB3 HO3 HON HRY3 hownNl hgb HNB
  go_wp2
  go_loopw [7] (fun y wr=>∃z:Int,y= .int .i64 z∧ -2<=z∧z+2<=(mn:Int)∧wr.ownsRow gb 3 1 (.slice (some ⟨gb,0,none⟩) mn mn) mn ((Qbz N (z+1).toNat).map (Value.int .i64))∧Below gb w4 wr) (fun y _=>(intOf y+2).toNat)
  case atStart=>exact⟨(mn:Int)-2,rfl,by omega,by omega,by rw[show((mn:Int)-2+1).toNat=mn-1 from by omega];exact HOB.out,Below.refl _ _⟩
  case round=>
   obtain⟨z,rfl,hz1',hz2',hrow,hbel⟩:=hrel
   by_cases hz:0<=z
   ·obtain⟨j,rfl⟩:∃j:Nat,z=(j:Int):=⟨z.toNat,by omega⟩
    have hns2:2<=ns:=by
     by_cases h2:2<=ns
     ·exact h2
     ·have:=HN0.out (by omega)
      have:=HLN.out
      omega
    have hu:=(HUP.out hns2).1 j (by rw[<-HLN.out];omega)
    rw[<-HLN.out] at hu
    obtain⟨x,hx⟩:∃x:Nat,inn N j=(x:Int):=⟨(inn N j).toNat,by omega⟩
    obtain⟨gn,cpn,hvn,hgn,cur,hcur⟩:=Qft HON4.out (by rw[<-HLN.out];omega)
    injection hvn with hvn1 hvn2 hvn3
    subst hvn1
    have hgnb:gn<gb:=by
     have hh:=(HON4.out.lt gn rfl).2
     rw[<-HGB.out]
     exact(HONl.out gn rfl)
    have cj:wr.cell? ⟨gn,j*2+1,none⟩=some (.int .i64 (x:Int)):=by
     have hl:=Qd2 N
     rw[hbel.cell (p:=⟨gn,j*2+1,none⟩) hgnb]
     have hO:=HON4.out
     rw[<-HLN.out] at hO
     have:=hO.cellAt (j*2+1) (by omega)
     rw[this,List.getElem?_map,<-hx,<-Ql6,Nat.mul_comm 2 j]
     simp[List.getD,List.getElem?_eq_getElem (show j*2+1<(Qc4 N).length from by rw[hl,<-HLN.out];omega)]
    rw[hx] at hu
    have hj1:((j:Int)+1).toNat=j+1:=by omega
    rw[hj1] at hrow
    have hbl:(Qbz N (j+1)).length=mn:=by rw[Qcs,HLN.out]
    have cx:=Qa3 hrow hbl x (by omega)
    rw[Qc6 N (j+1) x (by rw[<-HLN.out];omega),if_pos (by omega)] at cx
    have cw:=Qa3 hrow hbl j (by omega)
    have fw:=hrow.frozenAt j
    have hp:=Qh3 (k:=j) hrow (dv N x+1)
    have hset:=Qx5 (HUP.out hns2).1 j (by rw[<-HLN.out];omega)
    rw[hx,Int.toNat_natCast] at hset
    rw[hset] at hp
    have HP:=hid hp
    have HB:=hid (hbel.setCell (show gb<=(Addr.mk gb j none).block from Nat.le_refl gb) (.int .i64 (dv N x+1)))
    have hdv:=Qny N x
    rw[<-HLN.out] at hdv
    have hxz:(x:Int)<(mn:Int):=by omega
    have hjz:(j:Int)<(mn:Int):=by omega
    clear hrow hbel hp hset hx hcur hbl hvn2 hvn3 hj1
    generalize dv N x=q at *
    generalize (Qbz N (j+1)).getD j 0=old at *
    go_wp2
    exact⟨⟨(j:Int)-1,rfl,by omega,by omega,by rw[show((j:Int)-1+1).toNat=j from by omega];exact HP.out,HB.out⟩,by simp[intOf];omega⟩
   ·rw[show(z+1).toNat=0 from by omega] at hrow
    have HRW:=hid hrow
    have HB5:=hid (HB4.out.trans (hbel.mono (by omega)))
    have HO5:Hid (wr.ownsRow gd 3 1 (.slice (some ⟨gd,0,none⟩) len len) len ((List.replicate len (0:Int)).map (Value.int .i64))):=by
     refine⟨HO4.out.1,?_⟩
     rcases HO4.out.2 with h1 | ⟨g,cp,cur,hv,hg,hh,hrr⟩
     ·exact Or.inl h1
     ·injection hv with hv1 hv2 hv3
      injection hv1 with hv1
      injection hv1 with hv1 _
      subst hv1
      exact Or.inr ⟨gd,cp,cur,by rw[hv3],hg,(hbel.block gd (by omega)).trans hh,hrr⟩
    have HSC:Hid (∀k,k<ns->∃bs os,ay=some ⟨bs,os,none⟩∧bs≠gd∧wr.cell? ⟨bs,os+k,none⟩=some (.int .i64 (sy.getD k 0))):=fun k hk=>by
     obtain⟨bs,os,hay,hbs,hcs⟩:=HRY4.out.cells (by rw[<-HNS.out];omega)
     have hbs2:=HAY.out bs os hay
     exact⟨bs,os,hay,by omega,(hbel.cell (p:=⟨bs,os+k,none⟩) (by show bs<gb;omega)).trans (hcs k (by rw[<-HNS.out];exact hk))⟩
    clear hrow hbel HON4 HRY4 HO4 HB4
    have HSI2:=HSI
    have HBD:Hid (∀i,(Qbz N 0).getD i 0=if i<mn then dv N i else 0):=fun i=>by
     by_cases hi:i<mn
     ·rw[Qc6 N 0 i (by rw[<-HLN.out];exact hi),if_pos (Nat.zero_le _),if_pos hi]
     ·rw[Qf2 _ _ (by rw[Qcs,<-HLN.out];omega),if_neg hi]
    have HMN:Hid (ns<=mn):=by
     show _<=_
     by_cases h2:2<=ns
     ·have:=(HUP.out h2).2
      rw[<-HLN.out] at this
      omega
     ·omega
    have HBL:Hid ((Qbz N 0).length=mn):=by show _=_;rw[Qcs,HLN.out]
    have hdr:=Qny N
    have HDR:=hid hdr
    clear hdr
    go_wp2_with fail
    go_loopw [51] (fun y wq=>∃k:Nat,k<=ns∧y= .int .i64 k∧wq.ownsRow gd 3 1 (.slice (some ⟨gd,0,none⟩) len len) len ((Qfg len sy (Qbz N 0) k).map (Value.int .i64))∧wr.grownBy wq (some gd)∧Below w.heap.size w wq) (fun y _=>ns-(intOf y).toNat)
    case atStart=>exact⟨0,by omega,rfl,HO5.out,World.grownBy.refl _ _,HB5.out⟩
    case round=>
     obtain⟨k,hk,rfl,hrow,hgr,hbel⟩:=hrel
     by_cases hlt:k<ns
     ·have hkz:(k:Int)<(ns:Int):=by omega
      obtain⟨bs,os,rfl,hbsd,hcs⟩:=HSC.out k hlt
      obtain⟨u,hu,hul⟩:=HSI.out k hlt
      rw[hu] at hcs
      have c1:=hgr.cell hcs (by simp;exact hbsd)
      have hkm:k<mn:=by have:=HMN.out;omega
      have c2:=hgr.cell (Qa3 HRW.out HBL.out k hkm) (by simp;omega)
      have c3:=Qa3 hrow (Qb3 _ _ _ _) u hul
      have f3:=hrow.frozenAt u
      have hp:=Qh3 (k:=u) hrow ((Qbz N 0).getD k 0)
      have HE2:Hid (Qfg len sy (Qbz N 0) (k+1)=(Qfg len sy (Qbz N 0) k).set u ((Qbz N 0).getD k 0)):=by
       show _=_
       rw[Qfg,hu,Int.toNat_natCast]
      rw[<-HE2.out] at hp
      have HP:=hid hp
      have HG2:=hid (Qah hgr (hrow.stored u (.int .i64 ((Qbz N 0).getD k 0))).2)
      have HB2':=hid (hbel.setCell (show w.heap.size<=(Addr.mk gd u none).block from hgdw) (.int .i64 ((Qbz N 0).getD k 0)))
      have huz:(u:Int)<(len:Int):=by omega
      have hkm':(k:Int)<(mn:Int):=by omega
      clear hrow hgr hbel hp hcs hu
      generalize (Qbz N 0).getD k 0=q at *
      generalize (Qfg len sy (Qbz N 0) k).getD u 0=old at *
      go_wp2
      exact⟨⟨k+1,by omega,by go_num,HP.out,HG2.out,HB2'.out⟩,by simp[intOf];omega⟩
     ·have hkn:ns=k:=by omega
      subst hkn
      go_wp2
      go_ret
      exact⟨_,rfl,by rw[HE.out,Qb3,HGD.out];exact hrow,hbel⟩
end
end Go.Proofs.YtibjlbcnapoblaaGreatDoor
