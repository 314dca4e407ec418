/- Contracts and facts. -/
import Derived.Test.YtibjlbcnapoblaaGreatDoorPart06
namespace Go.Proofs.YtibjlbcnapoblaaGreatDoor
set_option maxRecDepth 100000
set_option maxHeartbeats 6400000
section
open Go.RowKit
abbrev Bst:=List Int×Nat×Nat
def Qpi:Bst->Option (Nat×Bst)
 | ([],_,0)=>none
 | (z::zs,_,0)=>some (z.toNat/2^7%2,(zs,z.toNat,7))
 | (zs,l,n+1)=>some (l/2^n%2,(zs,l,n))
structure Fg (g:Nat) (w w':World):Prop where
 size:w'.heap.size=w.heap.size
 same:∀i,i≠g->w'.heap[i]?=w.heap[i]?
theorem Fg.refl(g:Nat)(w:World):Fg g w w:=⟨rfl,fun _ _=>rfl⟩
theorem Fg.trans{g:Nat}{a b c:World}(h:Fg g a b)(k:Fg g b c):Fg g a c:=⟨k.size.trans h.size,fun i hi=>(k.same i hi).trans (h.same i hi)⟩
theorem Fg.put{g i:Nat}{w w':World}(h:Fg g w w')(x:Value):Fg g w (w'.setCell ⟨g,i,none⟩ x):=⟨by simpa using h.size,fun j hj=>(Below.heap_setCell w' ⟨g,i,none⟩ x j hj).trans (h.same j hj)⟩
theorem Fg.drew{g:Nat}{w w':World}(h:Fg g w w'):Fg g w w'.drew:=⟨h.size,h.same⟩
def Rk(w0 w:World)(g:Nat)(s:Bst):Prop:=s.2.1<256∧s.2.2<=8∧∃a cap,Rr w0 w g 206 [.int .u8 (s.2.1:Int),.int .i64 (s.2.2:Int)] a cap s.1
theorem Rr.one{w0 w:World}{g:Nat}{t:TypeId}{x y:Value}{a:Option Addr}{cap:Nat}{zs:List Int}(h:Rr w0 w g t [x,y] a cap zs)(u:Value):Rr w0 (w.setCell ⟨g,1,none⟩ u) g t [u,y] a cap zs:=by
 refine⟨?_,h.row,h.bel.setCell (show w0.heap.size<=(Addr.mk g 1 none).block from h.ge) _,h.ge⟩
 rw[Joins.block_setCell h.blk];simp
theorem Rr.two{w0 w:World}{g:Nat}{t:TypeId}{x y:Value}{a:Option Addr}{cap:Nat}{zs:List Int}(h:Rr w0 w g t [x,y] a cap zs)(u:Value):Rr w0 (w.setCell ⟨g,2,none⟩ u) g t [x,u] a cap zs:=by
 refine⟨?_,h.row,h.bel.setCell (show w0.heap.size<=(Addr.mk g 2 none).block from h.ge) _,h.ge⟩
 rw[Joins.block_setCell h.blk];simp
theorem Rr.drew{w0 w:World}{g:Nat}{t:TypeId}{tl:List Value}{a:Option Addr}{cap:Nat}{zs:List Int}(h:Rr w0 w g t tl a cap zs):Rr w0 w.drew g t tl a cap zs:=⟨h.blk,h.row,h.bel.drew,h.ge⟩
def Qhu(w0 w:World)(g:Nat)(s:Bst)(e:Ending)(w':World):Prop:=
 match Qpi s with
 | none=>e= .panicked Qd4∧w'=w
 | some (b,s')=>e= .returned (.int .i64 (b:Int))∧Rk w0 w' g s'∧Fg g w w'
theorem Qku(w0 w:World)(g:Nat)(s:Bst)(h:Rk w0 w g s):Calls Tryz.prog 172 #[.pointer (some ⟨g,0,none⟩)] w (Qhu w0 w g s):=by
 obtain⟨zs,la,n⟩:=s
 obtain⟨hla,hn8,a,cap,hR⟩:=h
 dsimp only at *
 have c1:=Joins.cell_of_block hR.blk 1
 have c2:=Joins.cell_of_block hR.blk 2
 have u1:=Joins.unfrozen_of_block hR.blk 1
 have u2:=Joins.unfrozen_of_block hR.blk 2
 simp only[List.getElem?_toArray,List.getElem?_cons_zero,List.getElem?_cons_succ] at c1 c2
 cases n with
 | zero=>
   simp only[Int.natCast_zero] at c2
   cases zs with
   | nil=>
     have HN:=hid (Qmd w0 w g 206 _ a cap hR)
     unfold Qhu
     simp only[Qpi]
     go_enter Tryz.func172,Tryz.ntmps172
     go_wp2_with fail
     go_at_call 137
     refine HN.out.mono ?_
     rintro _ w1 ⟨rfl,hw⟩
     obtain rfl:=hw.symm
     exact⟨rfl,rfl,rfl⟩
   | cons z zs=>
     have HN:=hid (Qlr w0 w g 206 _ a cap z zs hR)
     have hz8:=wf_u8 (by have:=hR.row.fits 0;simpa using this:(Lit.int .u8 z).wf=true)
     obtain⟨zn,hzn⟩:=Int.eq_ofNat_of_zero_le hz8.1
     subst hzn
     have hzl:zn<256:=by omega
     unfold Qhu
     simp only[Qpi,Int.toNat_natCast]
     obtain⟨y,hy⟩:∃y,y=zn/2^7:=⟨_,rfl⟩
     have hyl:y<256:=by rw[hy];exact Nat.lt_of_le_of_lt (Nat.div_le_self _ _) hzl
     have hsh:(zn:Int)/2^7=(y:Int):=by rw[hy];simp
     have hsh2:(zn:Int)/128=(y:Int):=by rw[<-hsh];rfl
     have hand:=Qo2 y (by omega)
     rw[<-hy]
     have HRR:=hid hR
     clear hy hR u1 u2 hz8
     go_enter Tryz.func172,Tryz.ntmps172
     go_wp2_with fail
     go_at_call 137
     refine HN.out.mono ?_
     rintro _ w1 ⟨rfl,a',c',rfl,hr'⟩
     have hR1:=HRR.out.put hr'
     have f1:=Joins.cell_of_block hR1.blk 1
     have f2:=Joins.cell_of_block hR1.blk 2
     have v1:=Joins.unfrozen_of_block hR1.blk 1
     have v2:=Joins.unfrozen_of_block hR1.blk 2
     simp only[List.getElem?_toArray,List.getElem?_cons_zero,List.getElem?_cons_succ] at f1 f2
     have HF0:=hid ((Fg.refl g w).put (i:=0) (.slice a' zs.length c'))
     have HR1:=hid hR1
     clear hR1 hr' HN HRR c1 c2
     generalize w.setCell ⟨g,0,none⟩ (.slice a' zs.length c')=W1 at *
     have HR2:Hid (Rr w0 (((W1.setCell ⟨g,1,none⟩ (.int .u8 (zn:Int))).setCell ⟨g,2,none⟩ (.int .i64 8)).setCell ⟨g,2,none⟩ (.int .i64 7)) g 206 [.int .u8 (zn:Int),.int .i64 7] a' c' zs):=(((HR1.out.one (.int .u8 (zn:Int))).two (.int .i64 8)).two (.int .i64 7))
     have HF:=hid (((HF0.out.put (i:=1) (.int .u8 (zn:Int))).put (i:=2) (.int .i64 8)).put (i:=2) (.int .i64 7))
     clear HF0 HR1
     go_wp2_with fail
     clear f1 f2 v1 v2
     generalize ((W1.setCell ⟨g,1,none⟩ (.int .u8 (zn:Int))).setCell ⟨g,2,none⟩ (.int .i64 8)).setCell ⟨g,2,none⟩ (.int .i64 7)=W2 at *
     have e1:=Joins.cell_of_block HR2.out.blk 1
     have e2:=Joins.cell_of_block HR2.out.blk 2
     simp only[List.getElem?_toArray,List.getElem?_cons_zero,List.getElem?_cons_succ] at e1 e2
     have HRD:=hid HR2.out.drew
     have HFD:=hid HF.out.drew
     clear HR2 HF
     go_region
     clear e1 e2
     generalize W2.drew=W3 at *
     go_wp2
     go_ret
     exact⟨rfl,⟨hzl,by show 7<=8;omega,_,_,HRD.out⟩,HFD.out⟩
 | succ n=>
   have HR2:=hid (hR.two (.int .i64 (n:Int)))
   have hni:((n+1:Nat):Int)=(n:Int)+1:=by omega
   rw[hni] at c2
   have hnb:(((n:Int)+1)==0)=false:=by rw[beq_eq_false_iff_ne];omega
   have HF:=hid ((Fg.refl g w).put (i:=2) (.int .i64 (n:Int)))
   have hn7:n<=7:=by omega
   unfold Qhu
   simp only[Qpi]
   obtain⟨y,hy⟩:∃y,y=la/2^n:=⟨_,rfl⟩
   have hyl:y<256:=by rw[hy];exact Nat.lt_of_le_of_lt (Nat.div_le_self _ _) hla
   have hsh:(la:Int)/2^n=(y:Int):=by rw[hy];simp
   have hand:=Qo2 y (by omega)
   rw[<-hy]
   clear hy hR hni u1
   go_enter Tryz.func172,Tryz.ntmps172
   go_wp2_with fail
   clear c1 c2 u2
   generalize w.setCell ⟨g,2,none⟩ (.int .i64 (n:Int))=W2 at *
   have e1:=Joins.cell_of_block HR2.out.blk 1
   have e2:=Joins.cell_of_block HR2.out.blk 2
   simp only[List.getElem?_toArray,List.getElem?_cons_zero,List.getElem?_cons_succ] at e1 e2
   have HRD:=hid HR2.out.drew
   have HFD:=hid HF.out.drew
   clear HR2 HF
   go_region
   clear e1 e2
   generalize W2.drew=W3 at *
   go_wp2
   go_ret
   exact⟨rfl,⟨hla,by show n<=8;omega,_,_,HRD.out⟩,HFD.out⟩
end
/-
 The contracts of the document's right, moved, constants and Start.
-/
namespace Sh
open Go.RowKit Sha
theorem Qdb{k:IntKind}{a b:Int}(h:a=b):Ending.returned (.int k a)= .returned (.int k b):=by rw[h]
theorem hid{p:Prop}(h:p):Hid p:=h
theorem Bn{w a b:World}(h:Below w.heap.size w a)(h2:Below a.heap.size a b):Below w.heap.size w b:=h.trans (h2.mono h.size)
theorem Qaa(w:World)(o:Obj):Below w.heap.size w (w.alloc o):=(Below.refl _ _).alloc (Nat.le_refl _) o
theorem Qaf(w:World)(o:Obj):(w.alloc o).heap[w.heap.size]?=some o:=by
 show(w.heap.push o)[w.heap.size]?=_
 simp
def arr(k:IntKind)(l:List Nat):Array Value:=(l.map fun z:Nat=>Value.int k (z:Int)).toArray
theorem Qas(k:IntKind)(l:List Nat):(arr k l).size=l.length:=by simp[arr]
theorem Qao(k:IntKind)(l:List Nat)(i:Nat)(h:i<l.length):(arr k l)[i]?=some (.int k ((l.getD i 0:Nat):Int)):=by
 simp[arr,List.getD,List.getElem?_eq_getElem h]
theorem Qdc(k:IntKind)(l:List Nat)(i v:Nat):(arr k l).setIfInBounds i (.int k (v:Int))=arr k (l.set i v):=by
 simp[arr,List.map_set]
theorem Xaw(x:Nat):Qhf 0 x=x:=by unfold Qhf;exact Qme _ _
theorem Qzd(n x:Nat):Qhf (n+1) x=Qhf n (Qyg x):=by unfold Qhf;exact Qls _ _ _
theorem Xb8(x:Nat):Qpx 0 x=x:=by unfold Qpx;exact Qme _ _
theorem Qz9(n x:Nat):Qpx (n+1) x=Qpx n (Xbh x):=by unfold Qpx;exact Qls _ _ _
theorem Xer(y:Nat):(y:Int)/2+(y:Int)%2*2147483648=((Qyg y:Nat):Int):=by unfold Qyg;omega
theorem Xdy(y:Nat):(y:Int)/2=((Xbh y:Nat):Int):=by unfold Xbh;omega
theorem Xdf(x n:Nat)(w:World)(hx:x<2^32)(hn:n<=32):Calls Tryz.prog 93 #[.int .u32 (x:Int),.int .i64 (n:Int)] w fun e w'=>e= .returned (.int .u32 ((Qhf n x:Nat):Int))∧w'=w:=by
 go_enter Tryz.func93,Tryz.ntmps93
 go_wp2
 go_loop [0,1] (fun x' i=>∃(m y:Nat),m<=32∧y<2^32∧Qhf m y=Qhf n x∧i= .int .i64 m∧x'= .int .u32 y) (fun _ i=>(intOf i).toNat)
 case atStart=>exact⟨n,x,hn,hx,rfl,rfl,rfl⟩
 case round=>
  obtain⟨m,y,hm,hy,heq,rfl,rfl⟩:=hrel
  by_cases h0:0<m
  ·obtain⟨j,rfl⟩:∃j,m=j+1:=⟨m-1,by omega⟩
   have h0':(0:Int)<((j+1:Nat):Int):=by omega
   have hr:=Qun y hy
   rw[Qzd] at heq
   have HQ:=hid heq
   have HE:=hid (Xer y)
   clear heq
   go_wp2
   exact⟨⟨j,Qyg y,by omega,hr,HQ.out,rfl,by rw[HE.out]⟩,by simp[intOf]⟩
  ·have hm0:m=0:=by omega
   subst hm0
   go_wp2
   go_ret
   exact⟨Qdb (by rw[<-heq,Xaw]),rfl⟩
theorem Qze(x n:Nat)(w:World)(hx:x<2^32)(hn:n<=32):Calls Tryz.prog 94 #[.int .u32 (x:Int),.int .i64 (n:Int)] w fun e w'=>e= .returned (.int .u32 ((Qpx n x:Nat):Int))∧w'=w:=by
 go_enter Tryz.func94,Tryz.ntmps94
 go_wp2
 go_loop [0,1] (fun x' i=>∃(m y:Nat),m<=32∧y<2^32∧Qpx m y=Qpx n x∧i= .int .i64 m∧x'= .int .u32 y) (fun _ i=>(intOf i).toNat)
 case atStart=>exact⟨n,x,hn,hx,rfl,rfl,rfl⟩
 case round=>
  obtain⟨m,y,hm,hy,heq,rfl,rfl⟩:=hrel
  by_cases h0:0<m
  ·obtain⟨j,rfl⟩:∃j,m=j+1:=⟨m-1,by omega⟩
   have h0':(0:Int)<((j+1:Nat):Int):=by omega
   have hr:=Qtj y hy
   rw[Qz9] at heq
   have HQ:=hid heq
   have HE:=hid (Xdy y)
   clear heq
   go_wp2
   exact⟨⟨j,Xbh y,by omega,hr,HQ.out,rfl,by rw[HE.out]⟩,by simp[intOf]⟩
  ·have hm0:m=0:=by omega
   subst hm0
   go_wp2
   go_ret
   exact⟨Qdb (by rw[<-heq,Xb8]),rfl⟩
theorem Xb9(w:World):Calls Tryz.prog 62 #[] w fun e w'=>e= .returned (.agg (arr .u32 Sha.start.list))∧Below w.heap.size w w':=by
 go_enter Tryz.func62,Tryz.ntmps62
 go_wp2
 refine bodyPost_ret (results_cell_row (ty:=95) rfl _ _ _ _ _ _ _ rfl (Qaf _ _) Tryz.underlying95 rfl (by kernel_rfl)) rfl ?_
 exact⟨rfl,Qaa _ _⟩
theorem Qbm{P:Program}{ops:Array Oper}{rest:List Oper}{o:Oper}{a:Act}{w:World}{Q:Exit->Act->World->Prop}(hgd:o.guard=none)(ty:TypeId)(ho:o.op= .alloc ty)(d:Option Tmp)(hd:o.dst=d)(cs:Array Value)
 (hz:∀w,(zeroValue ty).run P w= .ok (.agg cs) w) (h:wpList P ops Q rest (a.put d (.pointer (some ⟨w.heap.size,0,none⟩))) (w.alloc (.cells cs ty))):wpList P ops Q (o::rest) a w:=by
 subst hd
 refine wpList_plain hgd fun _ hK=>?_
 unfold Oper.wp execOp
 simp only[ho,Instr.alloc,Sem.run_bind,hz,Result.andThen_ok,newVar]
 exact hK _ _ h
def z64:List Nat:=List.replicate 64 0
theorem Tryz.zero138:∀w,(zeroValue 138).run Tryz.prog w= .ok (.agg (arr .u32 z64)) w:=(zero_of_info (t:=138) (n:=64) (by kernel_rfl)).1
theorem Qa7(k:IntKind)(l:List Nat):(arr k l).all (·.oneCell')=true:=by
 simp[arr,Value.oneCell']
theorem Qok(w:World):Calls Tryz.prog 95 #[] w fun e w'=>e= .returned (.agg (arr .u32 kL))∧Below w.heap.size w w':=by
 have hg:=Qaf w (.cells (arr .u32 z64) 138)
 go_enter Tryz.func95,Tryz.ntmps95
 go_wp2_with (first
  | (refine Qbm rfl 138 rfl (some 0) rfl (arr .u32 z64) Tryz.zero138 ?_)
  | (refine wpList_buildFlatArrTo rfl 138 56 64 _ rfl .u32 (kL.map fun z:Nat=>(z:Int)) (some 1) rfl Tryz.underlying138 (by kernel_rfl) (by kernel_rfl) (by kernel_rfl) ?_)
  | (refine wpList_store_rowTo rfl 138 _ _ rfl rfl w.heap.size ((kL.map fun z:Nat=>(z:Int)).map (Value.int .u32)).toArray rfl rfl 138 _ hg (by kernel_rfl) (by kernel_rfl) (by kernel_rfl) ?_))
 refine bodyPost_ret (results_cell_row (ty:=138) rfl _ _ _ _ _ _ _ rfl (setRow_heap _ _ _ _ _ _ hg) Tryz.underlying138 rfl (by kernel_rfl)) rfl ?_
 refine⟨?_,below_setRow (Qaa _ _) (Nat.le_refl _) _⟩
 rw[List.map_map]
 rfl
end Sh
/-
 The contracts of package word that package sha leans on: Bytes and Words, with all that they call.
-/
namespace Sh.Wd
open Go.RowKit
def Qt3(b:Int):Int:=if b=8 then 1 else if b=16 then 2 else if b=32 then 4 else if b=64 then 8 else 0
theorem Qga(b:Int)(w:World):Calls Tryz.prog 91 #[.int .i64 b] w fun e w'=>e= .returned (.int .i64 (Qt3 b))∧w'=w:=by
 by_cases h8:b=8
 ·subst h8
  go_enter Tryz.func91,Tryz.ntmps91
  go_wp2
  go_ret
  exact⟨rfl,rfl⟩
 by_cases h16:b=16
 ·subst h16
  go_enter Tryz.func91,Tryz.ntmps91
  go_wp2
  go_ret
  exact⟨rfl,rfl⟩
 by_cases h32:b=32
 ·subst h32
  go_enter Tryz.func91,Tryz.ntmps91
  go_wp2
  go_ret
  exact⟨rfl,rfl⟩
 by_cases h64:b=64
 ·subst h64
  go_enter Tryz.func91,Tryz.ntmps91
  go_wp2
  go_ret
  exact⟨rfl,rfl⟩
 have g8:(b==8)=false:=by simpa using h8
 have g16:(b==16)=false:=by simpa using h16
 have g32:(b==32)=false:=by simpa using h32
 have g64:(b==64)=false:=by simpa using h64
 go_enter Tryz.func91,Tryz.ntmps91
 go_wp2
 go_ret
 exact⟨Qdb (by simp[Qt3,h8,h16,h32,h64]),rfl⟩
def wdB(b:Int):Bool:=b==8||b==16||b==32||b==64
theorem Xj3(b:Int):(Qt3 b==0)= !wdB b:=by
 unfold Qt3 wdB
 by_cases h8:b=8
 ·subst h8;rfl
 by_cases h16:b=16
 ·subst h16;rfl
 by_cases h32:b=32
 ·subst h32;rfl
 by_cases h64:b=64
 ·subst h64;rfl
 simp[h8,h16,h32,h64]
theorem Tryz.info5:(Tryz.prog.info? 5).map (fun i=>(i.zero,i.size,i.bytes))=some (some (.int .u8 0),1,1):=by kernel_rfl
theorem Qcb{B:Nat}{a w:World}(h:Below B a w)(n:Nat):Below B a (w.drewN n):=h.trans ⟨rfl,rfl,rfl,Nat.le_refl _,fun _ _=>rfl⟩
structure Rd (w:World) (v:Value) (a:Option Addr) (cap:Nat) (zs:List Int):Prop where
 val:v= .slice a zs.length cap
 room:zs.length<=cap
 most:cap<=maxLen
 cells:0<zs.length->∃b off,a=some ⟨b,off,none⟩∧b<w.heap.size∧∀j,j<zs.length->w.cell? ⟨b,off+j,none⟩=some (.int .u8 (zs.getD j 0))
 lo:∀j,0<=zs.getD j 0
 hi:∀j,zs.getD j 0<=255
theorem Rd.later{w w':World}{v:Value}{a:Option Addr}{cap:Nat}{zs:List Int}(h:Rd w v a cap zs)(hb:Below w.heap.size w w'):Rd w' v a cap zs:=by
 refine⟨h.val,h.room,h.most,fun h0=>?_,h.lo,h.hi⟩
 obtain⟨b,off,ha,hbw,hc⟩:=h.cells h0
 exact⟨b,off,ha,Nat.lt_of_lt_of_le hbw hb.size,fun j hj=>(hb.cell (p:=⟨b,off+j,none⟩) hbw).trans (hc j hj)⟩
theorem getD_take(zs:List Int)(n j:Nat)(hj:j<n):(zs.take n).getD j 0=zs.getD j 0:=by
 simp[List.getD,List.getElem?_take_of_lt hj]
theorem Qeh(zs:List Int)(n j:Nat)(hj:¬j<n):(zs.take n).getD j 0=0:=by
 have h:(zs.take n).length<=j:=by simp;omega
 simp[List.getD,List.getElem?_eq_none h]
theorem Rd.take{w:World}{a:Option Addr}{cap:Nat}{zs:List Int}(h:Rd w (.slice a zs.length cap) a cap zs)(n:Nat):Rd w (.slice a (zs.take n).length cap) a cap (zs.take n):=by
 have hroom:=h.room
 have hle:(zs.take n).length<=zs.length:=by simp;omega
 have hln:(zs.take n).length<=n:=List.length_take_le _ _
 refine⟨rfl,by omega,h.most,fun h0=>?_,fun j=>?_,fun j=>?_⟩
 ·obtain⟨b,off,ha,hbw,hc⟩:=h.cells (by omega)
  refine⟨b,off,ha,hbw,fun j hj=>?_⟩
  rw[getD_take zs n j (by omega)]
  exact hc j (by omega)
 ·by_cases hj:j<n
  ·rw[getD_take zs n j hj];exact h.lo j
  ·rw[Qeh zs n j hj];omega
 ·by_cases hj:j<n
  ·rw[getD_take zs n j hj];exact h.hi j
  ·rw[Qeh zs n j hj];omega
def leL:Nat->Int->List Int
 | 0,_=> []
 | n+1,x=>(x%256)::leL n (x/256)
def Qd8(l:List Int):Int:=l.foldl (fun x c=>x*256+c) 0
def Qez(n:Nat)(o x:Int):List Int:=if o=1 then (leL n x).reverse else leL n x
def Xgh(o:Int)(l:List Int):Int:=if o=1 then Qd8 l else Qd8 l.reverse
theorem Qby(n:Nat):∀x:Int,(leL n x).length=n:=by
 induction n with
 | zero=>intro x;rfl
 | succ n ih=>intro x;simp[leL,ih]
theorem Qf4(n:Nat)(o x:Int):(Qez n o x).length=n:=by
 unfold Qez;split<;>simp[Qby]
theorem Qi3(x:Int)(n:Nat):x/256/256^n=x/256^(n+1):=by
 rw[Int.ediv_ediv_of_nonneg (by decide),<-Int.pow_succ']
theorem Xgo(n:Nat):∀x:Int,leL (n+1) x=leL n x++ [x/256^n%256]:=by
 induction n with
 | zero=>intro x;simp[leL]
 | succ n ih=>
   intro x
   rw[leL,ih (x/256),leL,Qi3]
   rfl
theorem Qv4(n:Nat):∀(x:Int) (j:Nat),j<n->(leL n x).getD j 0=x/256^j%256:=by
 induction n with
 | zero=>intro x j h;omega
 | succ n ih=>
   intro x j h
   match j with
   | 0=>simp[leL]
   | j+1=>
     have:=ih (x/256) j (by omega)
     rw[leL,List.getD_cons_succ,this,Qi3]
def shF(n:Nat)(o:Int)(i:Nat):Nat:=if o=1 then 8*(n-1-i) else 8*i
theorem Qhm(k:Nat):(256:Int)^k=2^(8*k):=by rw[Int.pow_mul];rfl
theorem Qpy(l:List Int)(j:Nat)(h:j<l.length):l.reverse.getD j 0=l.getD (l.length-1-j) 0:=by
 have h1:j<l.reverse.length:=by simpa using h
 have h2:l.length-1-j<l.length:=by omega
 simp only[List.getD,List.getElem?_eq_getElem h1,List.getElem?_eq_getElem h2,Option.getD_some]
 rw[List.getElem_reverse]
theorem Qht(n:Nat)(o x:Int)(j:Nat)(h:j<n):(Qez n o x).getD j 0=x/2^(shF n o j)%256:=by
 unfold Qez shF
 by_cases ho:o=1
 ·rw[if_pos ho,if_pos ho,Qpy _ _ (by rw[Qby];exact h),Qby,Qv4 _ _ _ (by omega),Qhm]
 ·rw[if_neg ho,if_neg ho,Qv4 _ _ _ h,Qhm]
theorem Qsl(n:Nat)(o x:Int)(j:Nat):0<=(Qez n o x).getD j 0∧(Qez n o x).getD j 0<=255:=by
 by_cases h:j<n
 ·rw[Qht n o x j h];omega
 ·have:(Qez n o x).length<=j:=by rw[Qf4];omega
  simp[List.getD,List.getElem?_eq_none this]
theorem Qx0(l:List Int):∀a:Int,l.foldl (fun x c=>x*256+c) a=a*256^l.length+Qd8 l:=by
 induction l with
 | nil=>intro a;simp[Qd8]
 | cons c l ih=>
   intro a
   rw[Qd8,List.foldl_cons,List.foldl_cons,ih,ih (0*256+c),List.length_cons,Int.pow_succ',Int.zero_mul,Int.zero_add,Int.add_mul,Int.mul_assoc]
   omega
theorem Qnc(c:Int)(l:List Int):Qd8 (c::l)=c*256^l.length+Qd8 l:=by
 rw[Qd8,List.foldl_cons,Qx0,Int.zero_mul,Int.zero_add]
theorem Qnt(l:List Int)(c:Int):Qd8 (l++ [c])=Qd8 l*256+c:=by
 rw[Qd8,List.foldl_append];rfl
theorem Qeq(l:List Int)(h:∀c∈l,0<=c∧c<=255):0<=Qd8 l∧Qd8 l<256^l.length:=by
 induction l with
 | nil=>simp[Qd8]
 | cons c l ih=>
   have hc:=h c (by simp)
   have hl:=ih (fun x hx=>h x (by simp[hx]))
   rw[Qnc,List.length_cons,Int.pow_succ]
   have hp:(0:Int)<256^l.length:=Int.pow_pos (by decide)
   have h1:c*256^l.length<=255*256^l.length:=Int.mul_le_mul_of_nonneg_right hc.2 (by omega)
   have h2:0<=c*256^l.length:=Int.mul_nonneg hc.1 (by omega)
   omega
theorem Xad(n:Nat):∀x:Int,Qd8 (leL n x).reverse=x%256^n:=by
 induction n with
 | zero=>intro x;simp[leL,Qd8]
 | succ n ih=>
   intro x
   rw[leL,List.reverse_cons,Qnt,ih,Int.pow_succ]
   have hp:(0:Int)<256^n:=Int.pow_pos (by decide)
   have h1:=Int.mul_ediv_add_emod (x/256) (256^n)
   have h2:x%(256^n*256)=x-256^n*256*(x/(256^n*256)):=by rw[Int.emod_def]
   have h3:x/(256^n*256)=x/256/256^n:=by rw[Int.mul_comm,Int.ediv_ediv_of_nonneg (by decide)]
   rw[h2,h3]
   have h4:(256:Int)^n*256*(x/256/256^n)=256*(256^n*(x/256/256^n)):=by
    rw[Int.mul_comm (256^n) 256,Int.mul_assoc]
   rw[h4]
   omega
def Qgf(b o:Int):Int:=if wdB b=false then 10 else if o≠1∧o≠2 then 1 else 0
theorem Ql5(b o:Int)(w:World):Calls Tryz.prog 90 #[.int .i64 b,.int .i64 o] w fun e w'=>e= .returned (.int .i64 (Qgf b o))∧w'=w:=by
 have hs:=Xj3 b
 cases hw:wdB b with
 | false=>
   rw[hw] at hs
   have hf:Qgf b o=10:=by simp[Qgf,hw]
   rw[hf]
   clear hf
   go_enter Tryz.func90,Tryz.ntmps90
   go_wp2_with (go_at_call 91;refine(Qga _ _).mono ?_;rintro e w' ⟨rfl,rfl⟩)
   go_ret
   exact⟨rfl,rfl⟩
 | true=>
   rw[hw] at hs
   by_cases h1:o=1
   ·subst h1
    have hf:Qgf b 1=0:=by simp[Qgf,hw]
    rw[hf]
    clear hf
    go_enter Tryz.func90,Tryz.ntmps90
    go_wp2_with (go_at_call 91;refine(Qga _ _).mono ?_;rintro e w' ⟨rfl,rfl⟩)
    go_ret
    exact⟨rfl,rfl⟩
   ·have g1:(o != 1)=true:=by rw[bne_iff_ne];exact h1
    by_cases h2:o=2
    ·subst h2
     have hf:Qgf b 2=0:=by simp[Qgf,hw]
     rw[hf]
     clear hf
     go_enter Tryz.func90,Tryz.ntmps90
     go_wp2_with (go_at_call 91;refine(Qga _ _).mono ?_;rintro e w' ⟨rfl,rfl⟩)
     go_ret
     exact⟨rfl,rfl⟩
    ·have g2:(o != 2)=true:=by rw[bne_iff_ne];exact h2
     have hf:Qgf b o=1:=by simp[Qgf,hw,h1,h2]
     rw[hf]
     clear hf h1 h2
     go_enter Tryz.func90,Tryz.ntmps90
     go_wp2_with (go_at_call 91;refine(Qga _ _).mono ?_;rintro e w' ⟨rfl,rfl⟩)
     go_ret
     exact⟨rfl,rfl⟩
theorem Qqr(i n:Nat)(o:Int)(w:World)(hi:i<n)(hn:n<=8):
 Calls Tryz.prog 92 #[.int .i64 i,.int .i64 n,.int .i64 o] w fun e w'=>e= .returned (.int .i64 (shF n o i:Nat))∧w'=w:=by
 by_cases h1:o=1
 ·subst h1
  go_enter Tryz.func92,Tryz.ntmps92
  go_wp2
  go_ret
  exact⟨Qdb (by simp only[shF,if_true];omega),rfl⟩
 ·have g1:(o==1)=false:=by rw[beq_eq_false_iff_ne];exact h1
  have hf:shF n o i=8*i:=by simp[shF,h1]
  have HF:=hid hf
  clear hf h1
  go_enter Tryz.func92,Tryz.ntmps92
  go_wp2
  go_ret
  exact⟨Qdb (by rw[HF.out];omega),rfl⟩
def Qc0(n k:Nat)(l:List Int):List Int:=l.take k++List.replicate (n-k) 0
theorem Qe3(n k:Nat)(l:List Int)(hl:l.length=n)(hk:k<=n):(Qc0 n k l).length=n:=by
 simp[Qc0];omega
theorem Qhd(n:Nat)(l:List Int):Qc0 n 0 l=List.replicate n 0:=by simp[Qc0]
theorem Qhh(n:Nat)(l:List Int)(hl:l.length=n):Qc0 n n l=l:=by
 simp[Qc0,<-hl]
theorem Qqm(n k:Nat)(l:List Int)(hl:l.length=n)(hk:k<n)(kd:IntKind):
 ((Qc0 n k l).map (Value.int kd)).set k (.int kd (l.getD k 0))=(Qc0 n (k+1) l).map (Value.int kd):=by
 rw[<-List.map_set]
 congr 1
 unfold Qc0
 rw[List.set_append_right _ _ (by simp;omega),show k-(l.take k).length=0 from by simp;omega,show n-k=(n-(k+1))+1 from by omega,List.replicate_succ,List.set_cons_zero]
 have e:l.getD k 0=l[k]'(by omega):=by simp[List.getD,List.getElem?_eq_getElem (show k<l.length from by omega)]
 rw[e,List.take_succ_eq_append_getElem (show k<l.length from by omega),List.append_assoc]
 rfl
theorem Xgv(n:Nat)(o:Int)(i:Nat)(hn:n<=8)(hi:i<n):shF n o i<=56:=by
 unfold shF;split<;>omega
theorem Qhc(x b o:Int)(n:Nat)(w:World)(_h0:0<=x)(_h1:x<18446744073709551616)(hf:(Qgf b o != 0)=false)(hs:Qt3 b=n)(hn8:n<=8):
 Calls Tryz.prog 60 #[.int .u64 x,.int .i64 b,.int .i64 o] w fun e w'=>∃v,e= .returned (.tuple #[v,.int .i64 0])∧w'.ownsRow w.heap.size 5 1 v (Qez n o x).length ((Qez n o x).map (Value.int .u8))∧Below w.heap.size w w':=by
 obtain⟨i0,hi,hz0,hz1,hz2⟩:=info_parts Tryz.info5
 have hlen:=Qf4 n o x
 have hget:=Qht n o x
 generalize hl:Qez n o x=l at *
 have HL:Hid (l.length=n):=hlen
 have HG:Hid (∀j,j<n->l.getD j 0=x/2^(shF n o j)%256):=hget
 clear hlen hget hl
 go_enter Tryz.func60,Tryz.ntmps60
 go_wp2_with (first
  | (go_at_call 90;refine(Ql5 _ _ _).mono ?_;rintro e w' ⟨rfl,hw⟩;obtain rfl:=hw.symm;clear hw)
  | (go_at_call 91;refine(Qga _ _).mono ?_;rintro e w' ⟨rfl,hw⟩;obtain rfl:=hw.symm;clear hw)
  | (at_make;refine wpList_make_full _ rfl _ _ 22 rfl w.heap.size 5 i0 (.int .u8 0) 1 Tryz.underlying22 hi hz0 hz1 .i64 .i64 _ _ n rfl rfl (by first | rfl | omega) (by first | rfl | omega) ?b2 ?b3 ?b4 ?_))
 case b2=>rw[hz2];omega
 case b3=>unfold maxLen;omega
 case b4=>exact Nat.le_refl _
 intro w1 hown0 hgrow
 have hb1:Below w.heap.size w w1:=(Below.refl _ _).grown hgrow (Nat.le_refl _) (fun k hk=>by cases hk)
 rw[toList_madeCells_one,show List.replicate n (Value.int .u8 0)=(Qc0 n 0 l).map (Value.int .u8) from by rw[Qhd];simp] at hown0
 clear hgrow
 go_wp2
 go_loopw [22] (fun i wr=>∃k:Nat,k<=n∧i= .int .i64 k∧wr.ownsRow w.heap.size 5 1 (.slice (some ⟨w.heap.size,0,none⟩) n n) n ((Qc0 n k l).map (Value.int .u8))∧Below w.heap.size w wr) (fun i _=>n-(intOf i).toNat)
 case atStart=>exact⟨0,by omega,rfl,hown0,hb1⟩
 case round=>
  obtain⟨k,hk,rfl,hown,hbel⟩:=hrel
  by_cases hlt:k<n
  ·have hsh:=Xgv n o k hn8 hlt
   have hcell:∃u,wr.cell? ⟨w.heap.size,k,none⟩=some u:=by
    rw[hown.cellAt k (by omega)]
    exact⟨_,List.getElem?_eq_getElem (by rw[List.length_map,Qe3 n k l HL.out hk];exact hlt)⟩
   obtain⟨u,hu⟩:=hcell
   have hfz:=hown.frozenAt k
   have hst:=hown.stored k (.int .u8 (l.getD k 0))
   rw[Qqm n k l HL.out hlt] at hst
   have hnb:=hbel.grown hst.2 hbel.size (fun j hj=>by injection hj with hj;omega)
   rw[HG.out k hlt] at hst hnb
   have HS:=hid hst.1
   have HB:=hid hnb
   clear hst hnb hown
   go_wp2_with (go_at_call 92;refine(Qqr k n o _ hlt hn8).mono ?_;rintro e w' ⟨rfl,hw⟩;obtain rfl:=hw.symm;clear hw)
   go_roundw
   case rel=>exact⟨k+1,by omega,by go_num,HS.out,HB.out⟩
   case measure=>simp[intOf];omega
  ·have hkn:k=n:=by omega
   subst hkn
   rw[Qhh _ _ HL.out] at hown
   go_wp2
   go_ret2
   exact⟨_,rfl,by rw[HL.out];exact hown,hbel⟩
def Qs3(o:Int)(n:Nat)(zs:List Int)(k:Nat):Int:=if o=1 then Qd8 (zs.take k)*256^(n-k) else Qd8 (zs.take k).reverse
theorem Qbo(zs:List Int)(k:Nat)(hk:k<zs.length):zs.take (k+1)=zs.take k++ [zs.getD k 0]:=by
 rw[List.take_succ_eq_append_getElem hk]
 simp[List.getD,List.getElem?_eq_getElem hk]
theorem Qg7{zs:List Int}(h:∀j,0<=zs.getD j 0∧zs.getD j 0<=255)(k:Nat):∀c∈zs.take k,0<=c∧c<=255:=by
 intro c hc
 obtain⟨j,hj,rfl⟩:=List.getElem_of_mem (List.mem_of_mem_take hc)
 have:=h j
 simpa [List.getD,List.getElem?_eq_getElem hj] using this
theorem Xg5(i:Nat)(a b:Int)(ha0:0<=a)(ha:a<18446744073709551616)(hm:a%2^i=0)(hb0:0<=b)(hb:b<2^i)(hb64:b<18446744073709551616):bits .or .u64 a b=a+b:=by
 obtain⟨m,rfl⟩:=Int.eq_ofNat_of_zero_le ha0
 obtain⟨n,rfl⟩:=Int.eq_ofNat_of_zero_le hb0
 have e1:m%2^i=0:=by
  have:((m%2^i:Nat):Int)=0:=by simpa using hm
  omega
 have e2:n<2^i:=by
  have:(n:Int)<((2^i:Nat):Int):=by simpa using hb
  omega
 rw[u64_or_nat _ _ (by omega) (by omega),nat_join i m n e1 e2]
 omega
theorem Xjb(i:Nat)(a b:Int)(ha0:0<=a)(ha:a<2^i)(ha64:a<18446744073709551616)(hb0:0<=b)(hb:b<18446744073709551616)(hm:b%2^i=0):bits .or .u64 a b=a+b:=by
 have h:=Xg5 i b a hb0 hb hm ha0 ha ha64
 obtain⟨m,rfl⟩:=Int.eq_ofNat_of_zero_le ha0
 obtain⟨n,rfl⟩:=Int.eq_ofNat_of_zero_le hb0
 rw[u64_or_nat _ _ (by omega) (by omega)] at h|-
 rw[Nat.or_comm,h];omega
theorem Qr9(k:Nat)(hk:k<=8):(256:Int)^k<=18446744073709551616:=by
 have h:=Nat.pow_le_pow_right (n:=256) (by decide) hk
 have e:((256^k:Nat):Int)<=((256^8:Nat):Int):=by omega
 simpa using e
theorem Qju(o:Int)(n:Nat)(zs:List Int)(k:Nat)(hz:zs.length=n)(hn:n<=8)(hk:k<=n)(h:∀j,0<=zs.getD j 0∧zs.getD j 0<=255):0<=Qs3 o n zs k∧Qs3 o n zs k<18446744073709551616:=by
 have hl:(zs.take k).length=k:=by simp;omega
 have hb:=Qeq (zs.take k) (Qg7 h k)
 have hb':=Qeq (zs.take k).reverse (fun c hc=>Qg7 h k c (List.mem_reverse.1 hc))
 rw[List.length_reverse] at hb'
 rw[hl] at hb hb'
 have hp:(0:Int)<256^(n-k):=Int.pow_pos (by decide)
 unfold Qs3
 split
 ·refine⟨Int.mul_nonneg hb.1 (by omega),?_⟩
  have h1:Qd8 (zs.take k)*256^(n-k)<256^k*256^(n-k):=Int.mul_lt_mul_of_pos_right hb.2 hp
  rw[<-Int.pow_add,show k+(n-k)=n from by omega] at h1
  exact Int.lt_of_lt_of_le h1 (Qr9 n hn)
 ·exact⟨hb'.1,Int.lt_of_lt_of_le hb'.2 (Qr9 k (by omega))⟩
theorem Qwn(o:Int)(n:Nat)(zs:List Int)(k:Nat)(hz:zs.length=n)(hn:n<=8)(hk:k<n)(h:∀j,0<=zs.getD j 0∧zs.getD j 0<=255):
 0<=zs.getD k 0*2^(shF n o k)∧zs.getD k 0*2^(shF n o k)<18446744073709551616∧bits .or .u64 (Qs3 o n zs k) (zs.getD k 0*2^(shF n o k))=Qs3 o n zs (k+1):=by
 have hc:=h k
 have hl:(zs.take k).length=k:=by simp;omega
 have hb:=Qeq (zs.take k) (Qg7 h k)
 have hb':=Qeq (zs.take k).reverse (fun c hc=>Qg7 h k c (List.mem_reverse.1 hc))
 rw[List.length_reverse] at hb'
 rw[hl] at hb hb'
 have hab:=Qju o n zs k hz hn (by omega) h
 have hab':=Qju o n zs (k+1) hz hn (by omega) h
 have hs:=Qbo zs k (by omega)
 unfold Qs3 shF at *
 by_cases ho:o=1
 ·simp only[if_pos ho] at *
  rw[<-Qhm]
  have hp:(0:Int)<256^(n-1-k):=Int.pow_pos (by decide)
  have hnk:(256:Int)^(n-k)=256^(n-1-k)*256:=by rw[<-Int.pow_succ,show(n-1-k).succ=n-k from by omega]
  rw[hs,Qnt] at hab'|-
  rw[show n-(k+1)=n-1-k from by omega] at hab'|-
  have e1:(Qd8 (zs.take k)*256+zs.getD k 0)*256^(n-1-k)=Qd8 (zs.take k)*256^(n-k)+zs.getD k 0*256^(n-1-k):=by
   rw[hnk,Int.add_mul,Int.mul_assoc,Int.mul_comm 256]
  rw[e1] at hab'|-
  have h5:0<=zs.getD k 0*256^(n-1-k):=Int.mul_nonneg hc.1 (by omega)
  have h6:zs.getD k 0*256^(n-1-k)<=255*256^(n-1-k):=Int.mul_le_mul_of_nonneg_right hc.2 (by omega)
  refine⟨h5,by omega,Xg5 (8*(n-k)) _ _ hab.1 hab.2 ?_ h5 ?_ (by omega)⟩
  ·rw[<-Qhm];exact Int.mul_emod_left _ _
  ·rw[<-Qhm,hnk];omega
 ·simp only[if_neg ho] at *
  rw[<-Qhm]
  have hp:(0:Int)<256^k:=Int.pow_pos (by decide)
  rw[hs,List.reverse_append,List.reverse_singleton,List.singleton_append,Qnc,List.length_reverse,hl] at hab'|-
  have h5:0<=zs.getD k 0*256^k:=Int.mul_nonneg hc.1 (by omega)
  refine⟨h5,by omega,?_⟩
  rw[Xjb (8*k) _ _ hab.1 (by rw[<-Qhm];exact hb'.2) hab.2 h5 (by omega) (by rw[<-Qhm];exact Int.mul_emod_left _ _)]
  omega
theorem Xam(o:Int)(n:Nat)(zs:List Int)(k:Nat)(hz:zs.length=n)(hn:n<=8)(hk:k<n)(h:∀j,0<=zs.getD j 0∧zs.getD j 0<=255):
 bits .or .u64 (Qs3 o n zs k) (IntKind.u64.wrap (zs.getD k 0*2^(shF n o k)))=Qs3 o n zs (k+1):=by
 obtain⟨h1,h2,h3⟩:=Qwn o n zs k hz hn hk h
 rw[IntKind.wrap_u64,Int.emod_eq_of_lt h1 h2,h3]
theorem Xcm(o:Int)(n:Nat)(zs:List Int)(hz:zs.length=n):Qs3 o n zs n=Xgh o zs:=by
 unfold Qs3 Xgh
 rw[List.take_of_length_le (by omega)]
 simp
theorem Xbm(o:Int)(n:Nat)(zs:List Int):Qs3 o n zs 0=0:=by
 simp[Qs3,Qd8]
theorem Qnl(a:Option Addr)(cap:Nat)(zs:List Int)(o:Int)(w:World)(hr:Rd w (.slice a zs.length cap) a cap zs)(hn:zs.length<=8):
 Calls Tryz.prog 113 #[.slice a zs.length cap,.int .i64 o] w fun e w'=>e= .returned (.int .u64 (Xgh o zs))∧∃m,w'=w.drewN m:=by
 have hcells:=hr.cells
 have hby:∀j,0<=zs.getD j 0∧zs.getD j 0<=255:=fun j=>⟨hr.lo j,hr.hi j⟩
 obtain⟨n,hlen⟩:∃n,n=zs.length:=⟨_,rfl⟩
 clear hr
 rw[<-hlen] at hcells hn|-
 have HL:Hid (zs.length=n):=hlen.symm
 have HY:=hid hby
 clear hlen hby
 go_enter Tryz.func113,Tryz.ntmps113
 go_wp2
 go_loopw [5,9] (fun x i wr=>∃k:Nat,k<=n∧i= .int .i64 k∧x= .int .u64 (Qs3 o n zs k)∧∃m,wr=w.drewN m) (fun _ i _=>n-(intOf i).toNat)
 case atStart=>exact⟨0,by omega,rfl,by rw[Xbm],0,rfl⟩
 case round=>
  obtain⟨k,hk,rfl,rfl,m,rfl⟩:=hrel
  by_cases hlt:k<n
  ·obtain⟨b,off,rfl,hbw,hc⟩:=hcells (by omega)
   have hck:(w.drewN m).cell? ⟨b,off+k,none⟩=some (.int .u8 (zs.getD k 0)):=by simpa using hc k hlt
   have hyk:=HY.out k
   have hst:=Xam o n zs k HL.out hn hlt HY.out
   have hb1:=Qju o n zs k HL.out hn hk HY.out
   have hsh:=Xgv n o k hn hlt
   have hkn:(k:Int)<(n:Int):=by omega
   generalize zs.getD k 0=c at *
   generalize hac:Qs3 o n zs k=ac at *
   generalize hac':Qs3 o n zs (k+1)=ac' at *
   have HAC:=hid hac'
   generalize hW:w.drewN m=W at *
   have HW:=hid hW
   clear hc hcells hac hac' hW
   go_wp2_with fail
   go_quiet ((go_at_call 92;exact Calls.quiet_of_same (Qqr k n o _ hlt hn)))
   go_wp2
   go_roundw
   case rel=>exact⟨k+1,by omega,by go_num,by rw[HAC.out],m+nq,by rw[<-HW.out,World.drewN_drewN]⟩
   case measure=>simp[intOf];omega
  ·have hkn:k=n:=by omega
   subst hkn
   rw[Xcm _ _ _ HL.out]
   go_wp2
   go_ret
   exact⟨rfl,m,rfl⟩
theorem Tryz.info59:(Tryz.prog.info? 59).map (fun i=>(i.zero,i.size,i.bytes))=some (some (.int .u64 0),1,8):=by kernel_rfl
def Qge(n:Nat)(o:Int)(zs:List Int)(m:Nat):List Int:=(List.range m).map (fun i=>Xgh o ((zs.drop (i*n)).take n))
theorem Qie(n:Nat)(o:Int)(zs:List Int)(m:Nat):(Qge n o zs m).length=m:=by simp[Qge]
theorem Qmv(n:Nat)(o:Int)(zs:List Int)(m k:Nat)(hk:k<m):(Qge n o zs m).getD k 0=Xgh o ((zs.drop (k*n)).take n):=by
 simp[Qge,List.getD,hk]
theorem Qdv(zs:List Int)(p n j:Nat)(hj:j<n):((zs.drop p).take n).getD j 0=zs.getD (p+j) 0:=by
 rw[getD_take _ _ _ hj];simp[List.getD]
theorem getD_drop(zs:List Int)(p j:Nat):(zs.drop p).getD j 0=zs.getD (p+j) 0:=by simp[List.getD]
theorem Rd.piece{w:World}{bk off cap:Nat}{zs:List Int}(h:Rd w (.slice (some ⟨bk,off,none⟩) zs.length cap) (some ⟨bk,off,none⟩) cap zs)(p:Nat)(hp:p<zs.length):
 Rd w (.slice (some ⟨bk,off+p,none⟩) (zs.drop p).length (cap-p)) (some ⟨bk,off+p,none⟩) (cap-p) (zs.drop p):=by
 have hroom:=h.room
 have hmost:=h.most
 have hl:(zs.drop p).length=zs.length-p:=List.length_drop
 obtain⟨b',off',hb',hbw,hc⟩:=h.cells (by omega)
 injection hb' with hb'
 injection hb' with e1 e2
 subst e1;subst e2
 refine⟨rfl,by omega,by omega,fun _=>⟨bk,off+p,rfl,hbw,fun j hj=>?_⟩,fun j=>?_,fun j=>?_⟩
 ·rw[getD_drop,Nat.add_assoc];exact hc (p+j) (by omega)
 ·rw[getD_drop];exact h.lo _
 ·rw[getD_drop];exact h.hi _
theorem Xev(a:Option Addr)(cap:Nat)(zs:List Int)(b o:Int)(n m:Nat)(w:World)(hr:Rd w (.slice a zs.length cap) a cap zs)(hf:(Qgf b o != 0)=false)(hs:Qt3 b=n)(h1:1<=n)(h8:n<=8)(hlen:zs.length<=400)(hm:zs.length=m*n):
 Calls Tryz.prog 123 #[.slice a zs.length cap,.int .i64 b,.int .i64 o] w fun e w'=>∃v,e= .returned (.tuple #[v,.int .i64 0])∧w'.ownsRow w.heap.size 59 1 v (Qge n o zs m).length ((Qge n o zs m).map (Value.int .u64))∧Below w.heap.size w w':=by
 obtain⟨i0,hi,hz0,hz1,hz2⟩:=info_parts Tryz.info59
 have hcap:=hr.room
 have hmax:=hr.most
 unfold maxLen at hmax
 have hmm:m<=zs.length:=by rw[hm];exact Nat.le_mul_of_pos_right m h1
 have HR:=hid hr
 obtain⟨len,hl⟩:∃n,n=zs.length:=⟨_,rfl⟩
 have HL:=hid hl
 have hd1:(len:Int)%(n:Int)=0:=by
  rw[hl,hm];simp
 have hd2:(len:Int)/(n:Int)=(m:Int):=by
  rw[hl,hm];simp;exact Int.mul_ediv_cancel _ (by omega)
 have hd3:len=m*n:=by rw[hl];exact hm
 rw[<-hl] at hcap hlen hmm|-
 have HM:=hid hd3
 clear hr hm hl hd3
 have HW:=hid (Qie n o zs m)
 have HG:=hid (Qmv n o zs m)
 generalize hws:Qge n o zs m=ws at *
 clear hws
 go_enter Tryz.func123,Tryz.ntmps123
 go_wp2_with (first
  | (go_at_call 90;refine(Ql5 _ _ _).mono ?_;rintro e w' ⟨rfl,hw⟩;obtain rfl:=hw.symm;clear hw)
  | (go_at_call 91;refine(Qga _ _).mono ?_;rintro e w' ⟨rfl,hw⟩;obtain rfl:=hw.symm;clear hw)
  | (at_make;refine wpList_make_full _ rfl _ _ 182 rfl w.heap.size 59 i0 (.int .u64 0) 1 Tryz.underlying182 hi hz0 hz1 .i64 .i64 _ _ m rfl rfl (by first | rfl | omega) (by first | rfl | omega) ?b2 ?b3 ?b4 ?_))
 case b2=>rw[hz2];omega
 case b3=>unfold maxLen;omega
 case b4=>exact Nat.le_refl _
 intro w1 hown0 hgrow
 have hb1:Below w.heap.size w w1:=(Below.refl _ _).grown hgrow (Nat.le_refl _) (fun k hk=>by cases hk)
 rw[toList_madeCells_one,show List.replicate m (Value.int .u64 0)=(Qc0 m 0 ws).map (Value.int .u64) from by rw[Qhd];simp] at hown0
 clear hgrow
 go_wp2
 go_loopw [32] (fun i wr=>∃k:Nat,k<=m∧i= .int .i64 k∧wr.ownsRow w.heap.size 59 1 (.slice (some ⟨w.heap.size,0,none⟩) m m) m ((Qc0 m k ws).map (Value.int .u64))∧Below w.heap.size w wr) (fun i _=>m-(intOf i).toNat)
 case atStart=>exact⟨0,by omega,rfl,hown0,hb1⟩
 case round=>
  obtain⟨k,hk,rfl,hown,hbel⟩:=hrel
  by_cases hlt:k<m
  ·have hle:(k+1)*n<=m*n:=Nat.mul_le_mul_right n hlt
   obtain⟨p,hp⟩:∃p,p=k*n:=⟨_,rfl⟩
   have hp1:p+n<=len:=by rw[HM.out,hp];rw[Nat.add_mul] at hle;omega
   have hpi:(k:Int)*(n:Int)=(p:Int):=by rw[hp];simp
   have hpj:((k:Int)+1)*(n:Int)=(p:Int)+(n:Int):=by rw[hp,Int.add_mul];simp
   have hgk:=HG.out k hlt
   rw[<-hp] at hgk
   obtain⟨bk,off,rfl,_,_⟩:=(HR.out).cells (by rw[<-HL.out];omega)
   have hrp:=((HR.out).later hbel).piece p (by rw[<-HL.out];omega)
   have hrt:=hrp.take n
   have hlp:((zs.drop p).take n).length=n:=by rw[List.length_take,List.length_drop,<-HL.out];omega
   have hnum:=Qnl (some ⟨bk,off+p,none⟩) (cap-p) ((zs.drop p).take n) o wr hrt (by omega)
   rw[hlp,<-hgk] at hnum
   have HN:=hid hnum
   have hcell:∃u,wr.cell? ⟨w.heap.size,k,none⟩=some u:=by
    rw[hown.cellAt k (by omega)]
    exact⟨_,List.getElem?_eq_getElem (by rw[List.length_map,Qe3 m k ws HW.out hk];exact hlt)⟩
   obtain⟨u,hu⟩:=hcell
   have hfz:=hown.frozenAt k
   have HO:=hid hown
   have hkm:(k:Int)<(m:Int):=by omega
   have hpc:p≠cap:=by omega
   have hpc2:p+n<=cap:=by omega
   clear hown hnum hrt hrp hlp hle hp
   generalize hgz:ws.getD k 0=z at *
   have HZ:=hid hgz
   clear hgz hgk
   have hst:=(HO.out).stored k (.int .u64 (ws.getD k 0))
   rw[Qqm m k ws HW.out hlt] at hst
   rw[HZ.out] at hst
   have HS:=hid hst.1
   clear hst HO
   go_wp2_with fail
   refine(HN.out).mono ?_
   rintro e w2 ⟨rfl,q,rfl⟩
   go_wp2
   go_roundw
   case rel=>exact⟨k+1,by omega,by go_num,HS.out,(Qcb hbel q).setCell (Nat.le_refl _) _⟩
   case measure=>simp[intOf];omega
  ·have hkn:k=m:=by omega
   subst hkn
   rw[Qhh _ _ HW.out] at hown
   go_wp2
   go_ret2
   exact⟨_,rfl,by rw[HW.out];exact hown,hbel⟩
end Sh.Wd
/-
 What is left to be read: pack's next and number, word.Word, and a head's may.
-/
section
open Go.RowKit
def Qpv(n k:Nat):Bool:=decide (1<=n∧n<=4096)&&decide (1<=k∧k<=4100)
theorem Xdz(n k:Nat)(d:List Int)(w:World)(hn:n<=10000000)(hk:k<=10000000):Calls Tryz.prog 52 #[.agg (hdL n k d).toArray] w fun e w'=>e= .returned (.bool (Qpv n k))∧Below w.heap.size w w':=by
 have hb:=Qbp w (.cells (hdL n k d).toArray 53)
 have e0:=Joins.cell_of_block (Qba w (.cells (hdL n k d).toArray 53)) 0
 have e1:=Joins.cell_of_block (Qba w (.cells (hdL n k d).toArray 53)) 1
 rw[show(hdL n k d).toArray[0]?=some (.int .i64 (n:Int)) from rfl] at e0
 rw[show(hdL n k d).toArray[1]?=some (.int .i64 (k:Int)) from rfl] at e1
 generalize (hdL n k d).toArray=H at *
 unfold Qpv
 by_cases h1:1<=n∧n<=4096
 ·by_cases h2:1<=k
  ·have e2:(1:Int)<=(k:Int):=by omega
   by_cases h3:k<=4100
   ·have e3:(k:Int)<=4100:=by omega
    rw[decide_eq_true h1,decide_eq_true (show 1<=k∧k<=4100 from⟨h2,h3⟩)]
    go_enter Tryz.func52,Tryz.ntmps52
    go_wp2_with fail
    refine(Qd7 _ _ (by omega)).mono ?_
    rintro _ w1 ⟨rfl,hw⟩
    obtain rfl:=hw.symm
    clear hw
    rw[decide_eq_true h1]
    go_wp2
    go_ret
    exact⟨rfl,hb⟩
   ·have e3:¬(k:Int)<=4100:=by omega
    rw[decide_eq_true h1,decide_eq_false (show ¬(1<=k∧k<=4100) from fun h=>h3 h.2)]
    go_enter Tryz.func52,Tryz.ntmps52
    go_wp2_with fail
    refine(Qd7 _ _ (by omega)).mono ?_
    rintro _ w1 ⟨rfl,hw⟩
    obtain rfl:=hw.symm
    clear hw
    rw[decide_eq_true h1]
    go_wp2
    go_ret
    exact⟨congrArg (fun b=>Ending.returned (Value.bool b)) (decide_eq_false (by omega)),hb⟩
  ·have e2:¬(1:Int)<=(k:Int):=by omega
   rw[decide_eq_true h1,decide_eq_false (show ¬(1<=k∧k<=4100) from fun h=>h2 h.1)]
   go_enter Tryz.func52,Tryz.ntmps52
   go_wp2_with fail
   refine(Qd7 _ _ (by omega)).mono ?_
   rintro _ w1 ⟨rfl,hw⟩
   obtain rfl:=hw.symm
   clear hw
   rw[decide_eq_true h1]
   go_wp2
   go_ret
   exact⟨rfl,hb⟩
 ·rw[decide_eq_false h1,Bool.false_and]
  go_enter Tryz.func52,Tryz.ntmps52
  go_wp2_with fail
  refine(Qd7 _ _ (by omega)).mono ?_
  rintro _ w1 ⟨rfl,hw⟩
  obtain rfl:=hw.symm
  clear hw
  rw[decide_eq_false h1]
  go_wp2
  go_ret
  exact⟨rfl,hb⟩
def Qke(l:List Int):Int:=Sh.Wd.Xgh 2 l
theorem Qu3(l:List Int)(h:∀c∈l,0<=c∧c<=255):0<=Qke l∧Qke l<256^l.length:=by
 have:=Sh.Wd.Qeq l.reverse (fun c hc=>h c (List.mem_reverse.1 hc))
 rw[List.length_reverse] at this
 exact this
theorem Ri.rdW{w:World}{a:Option Addr}{cap:Nat}{zs:List Int}(h:Ri w .u8 a cap zs):Sh.Wd.Rd w (.slice a zs.length cap) a cap zs:=⟨rfl,h.room,h.most,h.cells,fun j=>(wf_u8 (h.fits j)).1,fun j=>(wf_u8 (h.fits j)).2⟩
theorem Xcu(B:Int)(n:Nat)(a:Option Addr)(cap:Nat)(zs:List Int)(w:World)(hB:(B=16∧n=2)∨(B=32∧n=4))(hr:Ri w .u8 a cap zs)(hn:n=zs.length):
 Calls Tryz.prog 80 #[.slice a n cap,.int .i64 B,.int .i64 2] w fun e w'=>e= .returned (.tuple #[.int .u64 (Qke zs),.int .i64 0])∧∃m,w'=w.drewN m:=by
 have HNU:Hid (Calls Tryz.prog 113 #[.slice a n cap,.int .i64 2] w fun e w'=>e= .returned (.int .u64 (Qke zs))∧∃m,w'=w.drewN m):=by
  have:=Sh.Wd.Qnl a cap zs 2 w hr.rdW (by omega)
  rw[<-hn] at this
  exact this
 have hroom:=hr.room
 rw[<-hn] at hroom
 clear hr hn
 generalize Qke zs=x at *
 have hf:Sh.Wd.Qgf B 2=0:=by rcases hB with ⟨rfl,rfl⟩ | ⟨rfl,rfl⟩<;>decide
 have hs:Sh.Wd.Qt3 B=(n:Int):=by rcases hB with ⟨rfl,rfl⟩ | ⟨rfl,rfl⟩<;>decide
 have hn4:n<=4:=by omega
 clear hB
 have h1:¬(n:Int)<(n:Int):=by omega
 go_enter Tryz.func80,Tryz.ntmps80
 go_wp2_with fail
 refine(Sh.Wd.Ql5 _ _ _).mono ?_
 rintro _ w1 ⟨rfl,hw⟩
 obtain rfl:=hw.symm
 clear hw
 rw[hf]
 go_wp2_with fail
 refine(Sh.Wd.Qga _ _).mono ?_
 rintro _ w1 ⟨rfl,hw⟩
 obtain rfl:=hw.symm
 clear hw
 rw[hs]
 clear hf hs
 go_wp2_with fail
 refine HNU.out.mono ?_
 rintro _ w1 ⟨rfl,m,rfl⟩
 go_wp2_with fail
 go_ret2
 exact⟨rfl,m,rfl⟩
theorem Fg.drewN{g:Nat}{w w':World}(h:Fg g w w')(m:Nat):Fg g w (w'.drewN m):=⟨h.size,h.same⟩
theorem Rr.drewN{w0 w:World}{g:Nat}{t:TypeId}{tl:List Value}{a:Option Addr}{cap:Nat}{zs:List Int}(h:Rr w0 w g t tl a cap zs)(m:Nat):Rr w0 (w.drewN m) g t tl a cap zs:=⟨h.blk,h.row,Qcb h.bel m,h.ge⟩
theorem Qfu(w0 w:World)(g:Nat)(t:TypeId)(tl:List Value)(b off cap n:Nat)(zs:List Int)(h:Rr w0 w g t tl (some ⟨b,off,none⟩) cap zs)(hn:n<=zs.length):
 Calls Tryz.prog 50 #[.pointer (some ⟨g,0,none⟩),.int .i64 (n:Int)] w fun e w'=>e= .returned (.slice (some ⟨b,off,none⟩) n cap)∧∃off' c',w'=w.setCell ⟨g,0,none⟩ (.slice (some ⟨b,off',none⟩) (zs.drop n).length c')∧Ri w0 .u8 (some ⟨b,off',none⟩) c' (zs.drop n):=by
 have c0:=Joins.cell_of_block h.blk 0
 have u0:=Joins.unfrozen_of_block h.blk 0
 simp only[List.getElem?_toArray,List.getElem?_cons_zero] at c0
 have hroom:=h.row.room
 have hmost:=h.row.most
 have HRT:=hid (h.row.tail n hn b off rfl)
 unfold maxLen at hmost
 have hd:(zs.drop n).length=zs.length-n:=List.length_drop
 have HNil:Hid (zs.length=n->zs.drop n= []):=fun e=>List.drop_eq_nil_of_le (by omega)
 generalize zs.drop n=ds at *
 generalize zs.length=L at *
 clear h
 obtain⟨q,hq⟩:∃q,q=L-n:=⟨_,rfl⟩
 have HQ:Hid (ds.length=q):=by show _=_;omega
 have HLQ:Hid (L=n+q):=by show _=_;omega
 have hLq:=HLQ.out
 subst hLq
 clear hd hq
 by_cases hcap:cap=n
 ·have hz:q=0:=by omega
  subst hz
  have hnil:ds= []:=HNil.out rfl
  subst hnil
  subst hcap
  simp only[List.length_nil,Nat.add_zero] at *
  clear hroom HNil HQ HLQ
  go_enter Tryz.func50,Tryz.ntmps50
  go_wp2
  go_ret
  exact⟨rfl,_,_,rfl,Qps _ _ _ _ (by unfold maxLen;omega)⟩
 ·have hc2:n<cap:=by omega
  have hc1:¬cap<=n:=by omega
  have hc3:¬cap-n=0:=by omega
  have hc4:n<=cap:=by omega
  rw[HQ.out]
  go_enter Tryz.func50,Tryz.ntmps50
  go_wp2
  go_ret
  exact⟨rfl,_,_,rfl,HRT.out⟩
theorem Qgs(B:Int)(n:Nat)(w0 w:World)(g:Nat)(t:TypeId)(tl:List Value)(b off cap:Nat)(zs:List Int)(hB:(B=16∧n=2)∨(B=32∧n=4))(h:Rr w0 w g t tl (some ⟨b,off,none⟩) cap zs)(hn:n<=zs.length):
 Calls Tryz.prog 51 #[.pointer (some ⟨g,0,none⟩),.int .i64 B] w fun e w'=>e= .returned (.int .i64 (Qke (zs.take n)))∧Fg g w w'∧∃off' c',Rr w0 w' g t tl (some ⟨b,off',none⟩) c' (zs.drop n):=by
 have HNX:=hid (Qfu w0 w g t tl b off cap n zs h hn)
 have HR:=hid h
 have htk:(zs.take n).length=n:=by simp;omega
 have hrg:=Qu3 (zs.take n) (fun c hc=>by
  have h1:=List.mem_of_mem_take hc
  obtain⟨j,hj,rfl⟩:=List.getElem_of_mem h1
  have:=wf_u8 (h.row.fits j)
  rw[show zs.getD j 0=zs[j] from by simp[List.getD,List.getElem?_eq_getElem hj]] at this
  exact this)
 rw[htk] at hrg
 have hx2:Qke (zs.take n)<4294967296:=by
  rcases hB with ⟨_,rfl⟩ | ⟨_,rfl⟩
  ·have:=hrg.2;omega
  ·exact hrg.2
 have hx1:=hrg.1
 have HTK:=hid htk
 have hdv:B/8=(n:Int):=by rcases hB with ⟨rfl,rfl⟩ | ⟨rfl,rfl⟩<;>decide
 have HB:=hid hB
 have hq:0<=B∧B<=32:=by rcases hB with ⟨rfl,rfl⟩ | ⟨rfl,rfl⟩<;>decide
 have hq0:=hq.1
 have hq1:=hq.2
 have HWW:Hid (∀V,Below w0.heap.size w0 V->Calls Tryz.prog 80 #[.slice (some ⟨b,off,none⟩) n cap,.int .i64 B,.int .i64 2] V fun e w'=>e= .returned (.tuple #[.int .u64 (Qke (zs.take n)),.int .i64 0])∧∃m,w'=V.drewN m):=fun V hV=>
  Xcu B n _ cap (zs.take n) V hB ((h.row.take n).later hV) htk.symm
 generalize Qke (zs.take n)=x at *
 clear h hB htk hrg hn hq
 go_enter Tryz.func51,Tryz.ntmps51
 go_wp2_with fail
 rw[hdv]
 refine HNX.out.mono ?_
 rintro _ w1 ⟨rfl,off',c',rfl,hr1⟩
 have HR1:=hid (HR.out.put hr1)
 have HF1:=hid ((Fg.refl g w).put (i:=0) (.slice (some ⟨b,off',none⟩) (zs.drop n).length c'))
 clear hr1 HNX HR hdv
 generalize w.setCell ⟨g,0,none⟩ (.slice (some ⟨b,off',none⟩) (zs.drop n).length c')=w1 at *
 go_wp2_with fail
 refine(HWW.out _ HR1.out.bel).mono ?_
 rintro _ w2 ⟨rfl,m,rfl⟩
 go_wp2
 go_ret
 exact⟨rfl,HF1.out.drewN m,off',c',HR1.out.drewN m⟩
end
end Go.Proofs.YtibjlbcnapoblaaGreatDoor
