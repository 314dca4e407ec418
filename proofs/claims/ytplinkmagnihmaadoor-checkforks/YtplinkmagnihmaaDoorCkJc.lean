/-
  Two heads held against each other: the whole. Records that follow one another: the contract of record's Walk. Rows of records; record's Next whole; the law's few.
-/
import Derived.Test.YtplinkmagnihmaaDoorRcJc
import Derived.Great.FillDense
namespace Go.Proofs.YtplinkmagnihmaaDoor
open Go.ChangeShapes Go.WideShapes Go.ChangeAt Go.RowKit Go.Deep
theorem kinds_of{r:Rec}(h:kindB r=true):r.kind=1∨r.kind=2∨r.kind=3:=by
 unfold kindB at h
 split at h
 ·exact .inl ‹_›
 ·split at h
  ·exact .inr (.inr ‹_›)
  ·split at h
   ·exact .inr (.inl ‹_›)
   ·cases h
theorem may_parts{r:Rec}(h:mayB r=true):(1<=r.seq∧r.seq<=1073741824)∧(1<=r.epoch∧r.epoch<=1073741824)∧kindB r=true:=by
 unfold mayB at h
 simp only[Bool.and_eq_true,decide_eq_true_eq] at h
 exact⟨h.1.1,h.1.2,h.2⟩
theorem kind_lead'{r:Rec}(h:kindB r=true)(hk:r.kind=1):(r.site=0∨r.site=1)∧r.path.size=0∧r.ps= []:=by
 unfold kindB at h
 rw[if_pos hk] at h
 simp only[Bool.and_eq_true,decide_eq_true_eq] at h
 exact⟨h.1.1,h.1.2,List.length_eq_zero_iff.1 h.2⟩
theorem kind_file'{r:Rec}(h:kindB r=true)(hk:r.kind≠1):r.site=0∧pathB r.path=true∧(sizO r.ps).2=0∧(r.kind=3->r.ps= []):=by
 rcases kinds_of h with q | q | q
 ·exact absurd q hk
 ·unfold kindB at h;rw[q] at h;simp at h;exact⟨h.1.1,h.1.2,h.2,fun e=>by omega⟩
 ·unfold kindB at h;rw[q] at h;simp at h;exact⟨h.2.1.1,h.2.1.2,h.2.2,fun _=>h.1⟩
theorem path_parts{s:ByteArray}(h:pathB s=true):1<=s.size∧s.size<=255:=by
 unfold pathB at h
 simp only[Bool.and_eq_true,decide_eq_true_eq] at h
 exact h.1
theorem siz_parts{l:List Pc}(h:(sizO l).2=0):l.length<=4096∧l.all nOk=true:=by
 unfold sizO at h
 split at h
 ·cases h
 ·split at h
  ·exact⟨by omega, ‹_›⟩
  ·cases h
theorem path_mem(s:ByteArray):∀z∈pathL s,(Lit.int .u8 z).wf=true:=fun z hz=>by
 obtain⟨c,_,rfl⟩:=List.mem_map.1 hz
 have:=c.toNat_lt
 exact wf_mk_u8 (by omega) (by omega)
theorem wrH_mem{w:World}{r:Rec}(h:Rv w r)(hm:mayB r=true):∀z∈wrH r,(Lit.int .u8 z).wf=true:=by
 obtain⟨h1,h2,h3⟩:=may_parts hm
 have hk:=kinds_of h3
 refine app_u8 (app_u8 (app_u8 (fun z hz=>?_) (vint_mem _ (by omega) (by omega))) (vint_mem _ (by omega) (by omega))) (mem_u8 h.u8)
 simp at hz
 rcases hz with rfl | rfl
 ·rfl
 ·exact wf_mk_u8 (by omega) (by omega)
theorem wr_mem{w:World}{r:Rec}(h:Rv w r)(hm:mayB r=true):∀z∈wrB r,(Lit.int .u8 z).wf=true:=by
 have hH:=wrH_mem h hm
 obtain⟨h1,h2,h3⟩:=may_parts hm
 unfold wrB
 by_cases hk:r.kind=1
 ·rw[if_pos hk]
  have:=(kind_lead' h3 hk).1
  exact app_u8 hH (fun z hz=>by simp at hz;subst hz;exact wf_mk_u8 (by omega) (by omega))
 ·rw[if_neg hk]
  obtain⟨_,f2,f3,_⟩:=kind_file' h3 hk
  have hp:=path_parts f2
  have hs:=siz_parts f3
  have hA:∀z∈(wrH r++ [(r.path.size:Int)])++pathL r.path,(Lit.int .u8 z).wf=true:=app_u8 (app_u8 hH (fun z hz=>by simp at hz;subst hz;exact wf_mk_u8 (by omega) (by omega))) (path_mem _)
  split
  ·exact app_u8 hA (pcs_mem r.ps (by omega) (fun x hx=>⟨h.row.fits x hx,List.all_eq_true.1 hs.2 x hx⟩))
  ·exact hA
theorem wr_len{w:World}{r:Rec}(h:Rv w r)(hm:mayB r=true)(hn:r.ps.length<=1000):(wrB r).length<=100000:=by
 obtain⟨_,_,h3⟩:=may_parts hm
 have hH:(wrH r).length<=54:=by
  have h1:=vint10 r.seq
  have h2:=vint10 r.epoch
  unfold wrH
  simp[h.len]
  omega
 unfold wrB
 by_cases hk:r.kind=1
 ·rw[if_pos hk];simp;omega
 ·rw[if_neg hk]
  obtain⟨_,f2,_,_⟩:=kind_file' h3 hk
  have hp:=path_parts f2
  have h1:=vint10 (r.ps.length:Int)
  have h2:=flat_len r.ps (fun x hx=>(h.row.fits x hx).len)
  split
  ·simp only[List.length_append,List.length_cons,List.length_nil,pathL_len,pcsB];omega
  ·simp only[List.length_append,List.length_cons,List.length_nil,pathL_len];omega
theorem flt_may{hs he:Int}{hc:List Int}{r:Rec}(h:fltO hs he hc r=0):mayB r=true∧folB hs he hc r=true:=by
 unfold fltO at h
 split at h
 ·split at h
  ·exact⟨‹_›, ‹_›⟩
  ·cases h
 ·cases h
def nxO(hs he:Int)(hc:List Int)(r:Rec):Int×Int×List Int:=if fltO hs he hc r=0 then (r.seq,r.epoch,digL (wrB r)) else (0,0,z32)
theorem next_word(hs he:Int)(hc:List Int)(r:Rec)(w:World)(hcl:hc.length=32)(h:Rv w r)(hL:Sh.Laid w)(hn:r.ps.length<=1000):
 Calls Tryd.prog 42 #[.agg (hdL hs he hc).toArray,.agg r.cs.toArray] w fun e w'=>e= .returned (.tuple #[.agg (hdL (nxO hs he hc r).1 (nxO hs he hc r).2.1 (nxO hs he hc r).2.2).toArray,.int .i64 (fltO hs he hc r)])∧Below w.heap.size w w':=by
 unfold nxO
 by_cases hf:fltO hs he hc r=0
 ·rw[if_pos hf,hf]
  have hm:=(flt_may hf).1
  exact next_ok hs he hc r w hcl h hL hf hm (wr_len h hm hn) (get_u8 (wr_mem h hm))
 ·rw[if_neg hf]
  exact next_no hs he hc r w hcl h hf
theorem nxO_len(hs he:Int)(hc:List Int)(r:Rec):(nxO hs he hc r).2.2.length=32:=by
 unfold nxO
 split
 ·exact digL_len _
 ·rfl
structure Rr (w:World) (a:Option Addr) (cap:Nat) (l:List Rec):Prop where
 room:l.length<=cap
 most:cap<=maxLen
 none0:a=none->cap=0
 cells:0<l.length->∃b off,a=some ⟨b,off,none⟩∧b<w.heap.size∧∀j,j<l.length->w.rangeAt b (off+j*38) (l.getD j recZ).cs
 fits:∀r∈l,Rv w r
theorem Rr.later{w w':World}{a:Option Addr}{cap:Nat}{l:List Rec}(h:Rr w a cap l)(hb:Below w.heap.size w w'):Rr w' a cap l:=by
 refine⟨h.room,h.most,h.none0,fun h0=>?_,fun r hr=>(h.fits r hr).later hb⟩
 obtain⟨b,off,ha,hbw,hc⟩:=h.cells h0
 exact⟨b,off,ha,Nat.lt_of_lt_of_le hbw hb.size,fun j hj=>range_later (hc j hj) hb hbw⟩
theorem Rr.get{w:World}{a:Option Addr}{cap:Nat}{l:List Rec}(h:Rr w a cap l){j:Nat}(hj:j<l.length):Rv w (l.getD j recZ):=
 h.fits _ (by simp[List.getD,List.getElem?_eq_getElem hj])
theorem flatR_len(l:List Rec)(h:∀r∈l,r.prev.length=32):(l.flatMap Rec.cs).length=l.length*38:=by
 induction l with
 | nil=>rfl
 | cons x l ih=>rw[List.flatMap_cons,List.length_append,Rec.cs_len (h x (by simp)),ih (fun y hy=>h y (by simp[hy])),List.length_cons];omega
theorem flatR_at(l:List Rec)(h:∀r∈l,r.prev.length=32):∀j,j<l.length->∀i u,(l.getD j recZ).cs[i]?=some u->(l.flatMap Rec.cs)[j*38+i]?=some u:=by
 induction l with
 | nil=>intro j hj;simp at hj
 | cons x l ih=>
   intro j hj i u hu
   have hx:=Rec.cs_len (h x (by simp))
   rw[List.flatMap_cons]
   cases j with
   | zero=>
     have hu':x.cs[i]?=some u:=hu
     have hi:i<x.cs.length:=(List.getElem?_eq_some_iff.1 hu').1
     rw[show 0*38+i=i from by omega,List.getElem?_append_left hi]
     exact hu'
   | succ j=>
     rw[List.getElem?_append_right (by rw[hx];omega),hx,show(j+1)*38+i-38=j*38+i from by omega]
     exact ih (fun y hy=>h y (by simp[hy])) j (by simp at hj;omega) i u (by simpa using hu)
theorem Rr.own{w:World}{base:Nat}{v:Value}{l:List Rec}(h:w.ownsRow base 58 38 v l.length (l.flatMap Rec.cs))(hf:∀r∈l,Rv w r):∃a cap,v= .slice a l.length cap∧Rr w a cap l:=by
 rcases h.2 with ⟨rfl,hn⟩ | ⟨g,cap,cur,rfl,hbg,hg,hc,hm,hs,ht⟩
 ·rw[hn]
  exact⟨none,0,rfl,⟨by omega,by unfold maxLen;omega,fun _=>rfl,fun h0=>by omega,hf⟩⟩
 ·refine⟨some ⟨g,0,none⟩,cap,rfl,⟨hc,hm,(fun h=>by cases h),fun _=>⟨g,0,rfl,(Array.getElem?_eq_some_iff.1 hg).1,fun j hj i u hu=>?_⟩,hf⟩⟩
  have:=flatR_at l (fun r hr=>(hf r hr).len) j hj i u hu
  rw[<-ht] at this
  rw[Nat.zero_add]
  refine(Joins.cell_of_block hg _).trans ?_
  have hlt:j*38+i<(cur.toList.take (l.length*38)).length:=(List.getElem?_eq_some_iff.1 this).1
  rw[List.getElem?_take_of_lt (by simp at hlt;omega)] at this
  simpa using this
theorem Tryd.info58:(Tryd.prog.info? 58).map (fun i=>(i.zero,i.size,i.bytes))=some (some (.agg recZ.cs.toArray),38,104):=by kernel_rfl
theorem wpList_buildOne{P:Program}{ops:Array Oper}{rest:List Oper}{o:Oper}{a:Act}{w:World}{Q:Exit->Act->World->Prop}(hg:o.guard=none)(t e:TypeId)(x:Operand)(ho:o.op= .buildSlice t 1 #[(0,x)])(d:Option Tmp)(hd:o.dst=d)
 (cells:Array Value) (ie:TypeInfo) (z:Value) (hu:P.underlying t=some (.slice e)) (hie:P.info? e=some ie) (hz:ie.zero=some z) (hs:ie.size=cells.size) (hp:0<cells.size) (hq:cells.size<=1000) (hx:a.eval x= .agg cells)
 (h:wpList P ops Q rest (a.put d (.slice (some ⟨w.heap.size,0,none⟩) 1 1)) (w.alloc (.cells cells e))):wpList P ops Q (o::rest) a w:=by
 subst hd
 refine wpList_buildSlice hg t e 1 _ ho cells ie z hu hie hz (by rw[hs];omega) (by rw[hs];omega) ?_ h
 have:=Great.fill_whole (s:=cells.size) hp [.agg cells] ((Array.range (1*cells.size)).map (z.cells[· % z.cells.size]!)) (fun v hv=>by simp at hv;subst hv;rfl) (by simp)
 rw[hs]
 simpa [hx,Value.cells] using this
def fewL(l:List Rec):List Rec:=(l.take 20).map cutR
theorem fewL_len(l:List Rec):(fewL l).length<=20:=by unfold fewL;simp;omega
end Go.Proofs.YtplinkmagnihmaaDoor
namespace Go.Proofs.YtplinkmagnihmaaDoor
open Go.ChangeShapes Go.WideShapes Go.ChangeAt Go.RowKit Go.Deep
abbrev Hd:=Int×Int×List Int
def hdV(h:Hd):List Value:=hdL h.1 h.2.1 h.2.2
def fltH(h:Hd)(r:Rec):Int:=fltO h.1 h.2.1 h.2.2 r
def nxtH(h:Hd)(r:Rec):Hd:=nxO h.1 h.2.1 h.2.2 r
def wlk(h:Hd):List Rec->Nat->Hd×Nat×Int
 | [],i=>(h,i,0)
 | r::l,i=>if fltH h r=0 then wlk (nxtH h r) l (i+1) else (h,i,fltH h r)
theorem wlk_step{l:List Rec}{k:Nat}(h:Hd)(hk:k<l.length):wlk h (l.drop k) k=if fltH h (l.getD k recZ)=0 then wlk (nxtH h (l.getD k recZ)) (l.drop (k+1)) (k+1) else (h,k,fltH h (l.getD k recZ)):=by
 have e:l.drop k=l.getD k recZ::l.drop (k+1):=by
  rw[List.drop_eq_getElem_cons hk]
  simp[List.getD,List.getElem?_eq_getElem hk]
 rw[e,wlk]
theorem wlk_len:∀(l:List Rec) (h:Hd) (i:Nat),h.2.2.length=32->(wlk h l i).1.2.2.length=32
 | [],_,_,q=>q
 | r::l,h,i,q=>by
   rw[wlk]
   split
   ·exact wlk_len l _ _ (nxO_len _ _ _ _)
   ·exact q
theorem wlk_rng:∀(l:List Rec) (h:Hd) (i:Nat),i<=(wlk h l i).2.1∧(wlk h l i).2.1<=i+l.length
 | [],_,i=>by simp[wlk]
 | r::l,h,i=>by
   rw[wlk]
   split
   ·have:=wlk_rng l (nxtH h r) (i+1)
    simp only[List.length_cons]
    omega
   ·simp
theorem results_row_tmp2{P:Program}{fn:Func}{p u v:Tmp}{ty:TypeId}(h:fn.results= #[.cell p ty,.tmp u,.tmp v])(tmps:Array Value)(w:World)(g:Nat)(x:Value)(hp:tmps.getD p undef= .pointer (some ⟨g,0,none⟩))(hl:(loadVar ty ⟨g,0,none⟩).run P w= .ok x w):
 (results fn tmps).run P w= .ok (.tuple #[x,tmps.getD u undef,tmps.getD v undef]) w:=by
 rw[results_cell_tmp3 h,hp]
 simp[asAddr,hl]
set_option maxHeartbeats 3200000 in
set_option maxRecDepth 100000 in
theorem walk_word(h0:Hd)(a:Option Addr)(cap:Nat)(l:List Rec)(w:World)(hcl:h0.2.2.length=32)(hr:Rr w a cap l)(hL:Sh.Laid w)(hn:∀r∈l,r.ps.length<=1000):
 Calls Tryd.prog 28 #[.agg (hdV h0).toArray,.slice a l.length cap] w fun e w'=>e= .returned (.tuple #[.agg (hdV (wlk h0 l 0).1).toArray,.int .i64 ((wlk h0 l 0).2.1:Int),.int .i64 (wlk h0 l 0).2.2])∧Below w.heap.size w w':=by
 have hroom:=hr.room
 have hmost:=hr.most
 unfold maxLen at hmost
 have HR:=hid hr
 have HLA:=hid hL
 have HN:=hid hn
 have b1:=bel_alc w (.cells (hdV h0).toArray 27)
 have b2:=bel_alc (w.alloc (.cells (hdV h0).toArray 27)) (.cells (hdL 0 0 z32).toArray 27)
 have s1:(w.alloc (.cells (hdV h0).toArray 27)).heap.size=w.heap.size+1:=by simp
 obtain⟨W0,hW0⟩:∃W0,W0=(w.alloc (.cells (hdV h0).toArray 27)).alloc (.cells (hdL 0 0 z32).toArray 27):=⟨_,rfl⟩
 have HW0:=hid hW0
 have e0:W0.heap[w.heap.size]?=some (.cells (hdV h0).toArray 27):=by rw[hW0];exact(b2.block _ (by rw[s1];omega)).trans (heap_alc w _)
 have e1:W0.heap[w.heap.size+1]?=some (.cells (hdL 0 0 z32).toArray 27):=by
  rw[hW0]
  have:=heap_alc (w.alloc (.cells (hdV h0).toArray 27)) (.cells (hdL 0 0 z32).toArray 27)
  rw[s1] at this
  exact this
 have HE0:=hid e0
 have HE1:=hid e1
 have HB0:Hid (Below w.heap.size w W0):=by rw[hW0];exact Bn b1 b2
 have HS1:Hid (w.heap.size+1=(w.alloc (.cells (hdV h0).toArray 27)).heap.size):=s1.symm
 have HHL:=hid hcl
 obtain⟨len,hle⟩:∃n,n=l.length:=⟨_,rfl⟩
 have HL:=hid hle
 rw[<-hle] at hroom|-
 obtain⟨RR,hRR⟩:∃RR,RR=wlk h0 l 0:=⟨_,rfl⟩
 rw[<-hRR]
 have HRR:=hid hRR
 clear hr hle hL hn b1 b2 s1 hW0 e0 e1 hcl hRR
 go_enter Tryd.func28,Tryd.ntmps28
 go_wp2_with (first | refine wpList_alloc_to rfl 27 rfl (some 4) rfl _ Tryd.zero27 (w.heap.size+1) HS1.out W0 HW0.out ?_ | fail)
 go_loopw [13] (fun x13 wr=>∃(k:Nat) (h:Hd),k<=len∧x13= .int .i64 (k:Int)∧Hid (h.2.2.length=32)∧Hid (wr.heap[w.heap.size]?=some (.cells (hdV h).toArray 27))∧Hid (wr.heap[w.heap.size+1]?=some (.cells (hdL 0 0 z32).toArray 27))∧Hid (Below w.heap.size w wr)∧Hid (RR=wlk h (l.drop k) k)) (fun x13 _=>len-(intOf x13).toNat)
 case atStart=>exact⟨0,h0,by omega,rfl,HHL,HE0,HE1,HB0,HRR.out⟩
 case round=>
  obtain⟨k,h,hk,rfl,HHL2,HH,HO,HB,HW⟩:=hrel
  clear HE0 HE1 HB0 HHL HRR HW0 HS1
  by_cases hlt:k<len
  ·have hkz:(k:Int)<(len:Int):=by omega
   obtain⟨b,off,rfl,hbw,hc⟩:=HR.out.cells (by rw[<-HL.out];omega)
   have hrg:=(hc k (by rw[<-HL.out];exact hlt))
   have HRG:Hid (wr.rangeAt b (off+k*38) (l.getD k recZ).cs):=fun j v hv=>(HB.out.cell (p:=⟨b,off+k*38+j,none⟩) hbw).trans (hrg j v hv)
   have hok:=(HR.out.get (j:=k) (by rw[<-HL.out];exact hlt)).later HB.out
   have hnk:=HN.out (l.getD k recZ) (by simp[List.getD,List.getElem?_eq_getElem (show k<l.length by rw[<-HL.out];exact hlt)])
   have HST:=hid (wlk_step h (show k<l.length by rw[<-HL.out];exact hlt))
   generalize l.getD k recZ=x at *
   have HLX:=hid hok.len
   have hba:=bel_alc wr (.cells x.cs.toArray 58)
   have HBX:=hid (Bx.mk' wr x hok.len)
   have HXR:=hid HBX.out.range
   have HH1:Hid ((wr.alloc (.cells x.cs.toArray 58)).rangeAt w.heap.size 0 (hdV h)):=fun j v hv=>by
    rw[Nat.zero_add,Joins.cell_of_block ((hba.block _ (Array.getElem?_eq_some_iff.1 HH.out).1).trans HH.out) j,List.getElem?_toArray]
    exact hv
   have HHV:Hid ((hdV h).length=34):=hdL_len _ _ _ HHL2.out
   have HNX:=hid (next_word h.1 h.2.1 h.2.2 x _ HHL2.out (hok.later hba) (HLA.out.later (Bn HB.out hba)) hnk)
   have HB1:=hid (Bn HB.out hba)
   have HH2:=hid ((hba.block _ (Array.getElem?_eq_some_iff.1 HH.out).1).trans HH.out)
   have HO2:=hid ((hba.block _ (Array.getElem?_eq_some_iff.1 HO.out).1).trans HO.out)
   clear hrg hc hok hba hnk
   go_wp2_with (first | refine wpList_load_g rfl 58 _ rfl b (off+k*38) rfl x.cs _ HRG.out Tryd.underlying58 rfl (by rw[Rec.cs_len HLX.out];exact Tryd.size58) ?_ | refine wpList_alloc_at rfl 58 rfl (some 8) rfl _ Tryd.zero58 wr.heap.size rfl ?_ | refine wpList_store_new rfl 58 _ _ rfl rfl wr recZ.cs.toArray x.cs.toArray rfl rfl rfl (size_recs HLX.out) (by rw[Rec.cs_size rfl,Rec.cs_size HLX.out]) (all_oneCell_toArray (Rec.cs_one _)) ?_ | refine wpList_load_g rfl 27 _ rfl w.heap.size 0 rfl (hdV h) _ HH1.out Tryd.underlying27 rfl (by rw[HHV.out];exact Tryd.size27) ?_ | refine wpList_load_g rfl 58 _ rfl wr.heap.size 0 rfl x.cs _ HXR.out Tryd.underlying58 rfl (by rw[Rec.cs_len HLX.out];exact Tryd.size58) ?_ | fail)
   refine HNX.out.mono ?_
   rintro _ W2 ⟨rfl,hb2⟩
   have HB2:=hid (Bn HB1.out hb2)
   have h2:=(hb2.block _ (Array.getElem?_eq_some_iff.1 HH2.out).1).trans HH2.out
   have o2:=(hb2.block _ (Array.getElem?_eq_some_iff.1 HO2.out).1).trans HO2.out
   obtain⟨N,hN⟩:∃N,N=nxtH h x:=⟨_,rfl⟩
   have hNl:N.2.2.length=32:=by rw[hN];exact nxO_len _ _ _ _
   have HNL:=hid hNl
   rw[show hdL (nxO h.1 h.2.1 h.2.2 x).1 (nxO h.1 h.2.1 h.2.2 x).2.1 (nxO h.1 h.2.1 h.2.2 x).2.2=hdV N from by rw[hN];rfl]
   have hbb:=bel_alc W2 (.cells (hdV N).toArray 27)
   have HH3:=hid ((hbb.block _ (Array.getElem?_eq_some_iff.1 h2).1).trans h2)
   have HO3:=hid ((hbb.block _ (Array.getElem?_eq_some_iff.1 o2).1).trans o2)
   have HB3:=hid (Bn HB2.out hbb)
   have HR3:Hid ((W2.alloc (.cells (hdV N).toArray 27)).rangeAt w.heap.size 0 (hdV h)):=fun j v hv=>by
    rw[Nat.zero_add,Joins.cell_of_block HH3.out j,List.getElem?_toArray]
    exact hv
   have HN3:Hid ((W2.alloc (.cells (hdV N).toArray 27)).rangeAt W2.heap.size 0 (hdV N)):=fun j v hv=>by
    rw[Nat.zero_add,Joins.cell_of_block (heap_alc W2 _) j,List.getElem?_toArray]
    exact hv
   have HNV:Hid ((hdV N).length=34):=hdL_len _ _ _ hNl
   have HZS:Hid ((hdL 0 0 z32).toArray.size=(hdV N).toArray.size):=by show _=_;rw[List.size_toArray,List.size_toArray,HNV.out];rfl
   have HHS:Hid ((hdV h).toArray.size=(hdV N).toArray.size):=by show _=_;rw[List.size_toArray,List.size_toArray,HNV.out,HHV.out]
   have HZH:Hid ((hdL 0 0 z32).toArray.size=(hdV h).toArray.size):=by show _=_;rw[List.size_toArray,List.size_toArray,HHV.out];rfl
   have HSN:Hid ((Tryd.prog.info? 27).map (·.size)=some (hdV N).toArray.size):=size_hd hNl
   have HSH:Hid ((Tryd.prog.info? 27).map (·.size)=some (hdV h).toArray.size):=size_hd HHL2.out
   have HON:=hid (all_oneCell_toArray (show ∀u∈hdV N,u.oneCell'=true from hdL_one _ _ _))
   have HOH:=hid (all_oneCell_toArray (show ∀u∈hdV h,u.oneCell'=true from hdL_one _ _ _))
   have HST2:Hid (RR=if fltO h.1 h.2.1 h.2.2 x=0 then wlk N (l.drop (k+1)) (k+1) else (h,k,fltO h.1 h.2.1 h.2.2 x)):=by show _=_;rw[hN];exact HW.out.trans HST.out
   have HNX2:=hid hN
   clear hb2 h2 o2 hbb hN hNl HNX HH1 HXR HBX HH2 HO2 HB1 HST HRG
   generalize fltO h.1 h.2.1 h.2.2 x=F at *
   by_cases hF:F=0
   ·subst hF
    go_wp2_with (first | refine wpList_alloc_at rfl 27 rfl (some 9) rfl _ Tryd.zero27 W2.heap.size rfl ?_ | refine wpList_store_new rfl 27 _ _ rfl rfl W2 (hdL 0 0 z32).toArray (hdV N).toArray rfl rfl rfl HSN.out HZS.out HON.out ?_ | refine wpList_load_g rfl 27 _ rfl W2.heap.size 0 rfl (hdV N) _ HN3.out Tryd.underlying27 rfl (by rw[HNV.out];exact Tryd.size27) ?_ | refine wpList_store_rowTo rfl 27 _ _ rfl rfl w.heap.size (hdV N).toArray rfl rfl 27 _ HH3.out HSN.out HHS.out HON.out ?_ | fail)
    go_round
    case rel=>exact⟨k+1,N,by omega,by go_num,HNL,setRow_heap _ _ _ _ _ _ HH3.out,(other_setRow _ _ _ _ (by omega)).trans HO3.out,below_setRow HB3.out (Nat.le_refl _) _,by show _=_;rw[HST2.out];simp⟩
    case measure=>simp[intOf];omega
   ·have HF0:=hid hF
    go_wp2_with (first | refine wpList_alloc_at rfl 27 rfl (some 9) rfl _ Tryd.zero27 W2.heap.size rfl ?_ | refine wpList_store_new rfl 27 _ _ rfl rfl W2 (hdL 0 0 z32).toArray (hdV N).toArray rfl rfl rfl HSN.out HZS.out HON.out ?_ | refine wpList_load_g rfl 27 _ rfl w.heap.size 0 rfl (hdV h) _ HR3.out Tryd.underlying27 rfl (by rw[HHV.out];exact Tryd.size27) ?_ | refine wpList_store_rowTo rfl 27 _ _ rfl rfl (w.heap.size+1) (hdV h).toArray rfl rfl 27 _ HO3.out HSH.out HZH.out HOH.out ?_ | fail)
    refine bodyPost_ret (results_row_tmp2 rfl _ _ (w.heap.size+1) _ rfl (load_hd (setRow_heap _ _ _ _ _ _ HO3.out) HHL2.out)) rfl ?_
    exact⟨by rw[HST2.out,if_neg HF0.out];rfl,below_setRow HB3.out (by omega) _⟩
  ·have hkl:k=len:=by omega
   have hkz:¬(k:Int)<(len:Int):=by omega
   have HHV:Hid ((hdV h).length=34):=hdL_len _ _ _ HHL2.out
   have HR3:Hid (wr.rangeAt w.heap.size 0 (hdV h)):=fun j v hv=>by
    rw[Nat.zero_add,Joins.cell_of_block HH.out j,List.getElem?_toArray]
    exact hv
   have HZH:Hid ((hdL 0 0 z32).toArray.size=(hdV h).toArray.size):=by show _=_;rw[List.size_toArray,List.size_toArray,HHV.out];rfl
   have HSH:Hid ((Tryd.prog.info? 27).map (·.size)=some (hdV h).toArray.size):=size_hd HHL2.out
   have HOH:=hid (all_oneCell_toArray (show ∀u∈hdV h,u.oneCell'=true from hdL_one _ _ _))
   have HEN:Hid (RR=(h,k,0)):=by
    show _=_
    rw[HW.out,List.drop_eq_nil_of_le (by rw[<-HL.out];omega),wlk]
   subst hkl
   go_wp2_with (first | refine wpList_load_g rfl 27 _ rfl w.heap.size 0 rfl (hdV h) _ HR3.out Tryd.underlying27 rfl (by rw[HHV.out];exact Tryd.size27) ?_ | refine wpList_store_rowTo rfl 27 _ _ rfl rfl (w.heap.size+1) (hdV h).toArray rfl rfl 27 _ HO.out HSH.out HZH.out HOH.out ?_ | fail)
   refine bodyPost_ret (results_row_tmp2 rfl _ _ (w.heap.size+1) _ rfl (load_hd (setRow_heap _ _ _ _ _ _ HO.out) HHL2.out)) rfl ?_
   exact⟨by rw[HEN.out];rfl,below_setRow HB.out (by omega) _⟩
end Go.Proofs.YtplinkmagnihmaaDoor
namespace Go.Proofs.YtplinkmagnihmaaDoor
open Go.ChangeShapes Go.WideShapes Go.ChangeAt Go.RowKit Go.Deep
theorem Tryd.fields55:Tryd.prog.underlying 27=some (.struct (Tryd.prog.fieldsOf 27)):=by kernel_rfl
theorem guard55:Tryd.prog.eqGuardType Tryd.prog.depth 27=false:=by kernel_rfl
set_option maxRecDepth 100000 in
theorem partS(n k:Int)(l:List Int)(hx:l.length=32)(w:World):(part 3 (hdL n k l).toArray 0).run Tryd.prog w= .ok (.int .i64 n) w:=by
 obtain⟨a0,a1,a2,a3,a4,a5,a6,a7,a8,a9,a10,a11,a12,a13,a14,a15,a16,a17,a18,a19,a20,a21,a22,a23,a24,a25,a26,a27,a28,a29,a30,a31,q⟩:=list32 l hx
 subst q
 kernel_rfl
set_option maxRecDepth 100000 in
theorem partE(n k:Int)(l:List Int)(hx:l.length=32)(w:World):(part 3 (hdL n k l).toArray 1).run Tryd.prog w= .ok (.int .i64 k) w:=by
 obtain⟨a0,a1,a2,a3,a4,a5,a6,a7,a8,a9,a10,a11,a12,a13,a14,a15,a16,a17,a18,a19,a20,a21,a22,a23,a24,a25,a26,a27,a28,a29,a30,a31,q⟩:=list32 l hx
 subst q
 kernel_rfl
set_option maxRecDepth 100000 in
theorem partC(n k:Int)(l:List Int)(hx:l.length=32)(w:World):(part 25 (hdL n k l).toArray 2).run Tryd.prog w= .ok (.agg (u8A l)) w:=by
 obtain⟨a0,a1,a2,a3,a4,a5,a6,a7,a8,a9,a10,a11,a12,a13,a14,a15,a16,a17,a18,a19,a20,a21,a22,a23,a24,a25,a26,a27,a28,a29,a30,a31,q⟩:=list32 l hx
 subst q
 kernel_rfl
theorem partH(h:Hd)(hx:h.2.2.length=32)(w:World):(part 3 (hdV h).toArray 0).run Tryd.prog w= .ok (.int .i64 h.1) w∧(part 3 (hdV h).toArray 1).run Tryd.prog w= .ok (.int .i64 h.2.1) w∧(part 25 (hdV h).toArray 2).run Tryd.prog w= .ok (.agg (u8A h.2.2)) w:=
 ⟨partS _ _ _ hx w,partE _ _ _ hx w,partC _ _ _ hx w⟩
theorem eqI(d:Nat)(a b:Int)(w:World):(Op.equalIn (d+1) 3 (.int .i64 a) (.int .i64 b)).run Tryd.prog w= .ok (a==b) w:=run_equalIn_int w d 3 .i64 .i64 a b Tryd.underlying3
theorem eq_field{P:Program}{d:Nat}{xs ys:Array Value}{f:Field}{fs:List Field}{w:World}{a b:Value}{r:Bool}(hn:f.name ≠ "_")(h1:(part f.type xs f.offset).run P w= .ok a w)(h2:(part f.type ys f.offset).run P w= .ok b w)(h3:(Op.equalIn d f.type a b).run P w= .ok r w):
 (Op.eqFields d xs ys (f::fs)).run P w=if r=true then (Op.eqFields d xs ys fs).run P w else .ok false w:=by
 rw[Op.eqFields,if_pos hn]
 simp only[Sem.run_bind,h1,h2,h3,Result.andThen_ok]
 cases r<;>rfl
set_option maxRecDepth 100000 in
theorem eq55g(d:Nat)(x y:Hd)(hx:x.2.2.length=32)(hy:y.2.2.length=32)(w:World):(Op.equalIn (d+3) 27 (.agg (hdV x).toArray) (.agg (hdV y).toArray)).run Tryd.prog w= .ok (decide (x=y)) w:=by
 rw[show d+3=(d+2)+1 from rfl,run_equalIn_struct w (d+2) 27 _ _ Tryd.fields55 (by kernel_rfl)]
 have hf:∃f0 f1 f2:Field,(Tryd.prog.fieldsOf 27).toList= [f0,f1,f2]∧f0.type=3∧f0.offset=0∧f1.type=3∧f1.offset=1∧f2.type=25∧f2.offset=2∧f0.name ≠ "_" ∧f1.name ≠ "_" ∧f2.name ≠ "_" :=⟨_,_,_,rfl,rfl,rfl,rfl,rfl,rfl,rfl,by decide,by decide,by decide⟩
 obtain⟨f0,f1,f2,hl,t0,o0,t1,o1,t2,o2,n0,n1,n2⟩:=hf
 rw[hl,eq_field n0 (by rw[t0,o0];exact(partH x hx w).1) (by rw[t0,o0];exact(partH y hy w).1) (by rw[t0];exact eqI (d+1) _ _ w),
  eq_field n1 (by rw[t1,o1];exact(partH x hx w).2.1) (by rw[t1,o1];exact(partH y hy w).2.1) (by rw[t1];exact eqI (d+1) _ _ w),
  eq_field n2 (by rw[t2,o2];exact(partH x hx w).2.2) (by rw[t2,o2];exact(partH y hy w).2.2) (by rw[t2];exact eqD d _ _ hx hy w)]
 obtain⟨x1,x2,x3⟩:=x
 obtain⟨y1,y2,y3⟩:=y
 by_cases h1:x1=y1
 ·by_cases h2:x2=y2
  ·by_cases h3:x3=y3
   ·subst h1 h2 h3;simp[Op.eqFields]
   ·subst h1 h2;simp[h3]
  ·subst h1;simp[h2]
 ·simp[h1]
theorem eq55(x y:Hd)(hx:x.2.2.length=32)(hy:y.2.2.length=32)(w:World):(Op.equalIn 10000 27 (.agg (hdV x).toArray) (.agg (hdV y).toArray)).run Tryd.prog w= .ok (decide (x=y)) w:=by
 rw[show(10000:Nat)=9997+3 from rfl]
 exact eq55g 9997 x y hx hy w
end Go.Proofs.YtplinkmagnihmaaDoor
