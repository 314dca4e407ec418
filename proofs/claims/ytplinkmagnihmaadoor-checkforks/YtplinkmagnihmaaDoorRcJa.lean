/-
  A record's bytes: the contracts of record's writtenPieces, written, Bytes. Which records may be: the contracts of record's mayOfKind, may, Check. Which records may be: the contracts of record's within, Size, IsPath, mayOfKind, may, Check. A record and its pieces as values: their cells, what a row of pieces reads as, and in which worlds.
-/
import Derived.Test.YtplinkmagnihmaaDoorBas
import Derived.Lib.AppendStr
namespace Go.Proofs.YtplinkmagnihmaaDoor
open Go.ChangeShapes Go.WideShapes Go.ChangeAt Go.RowKit Go.Deep
abbrev Pc:=List Int×Int
def pc0:Pc:=([],0)
def pcC(x:Pc):List Value:=x.1.map (Value.int .u8)++ [.int .i64 x.2]
structure PcOk (x:Pc):Prop where
 len:x.1.length=32
 u8:∀j,(Lit.int .u8 (x.1.getD j 0)).wf=true
 i64:(Lit.int .i64 x.2).wf=true
theorem pcC_len{x:Pc}(h:x.1.length=32):(pcC x).length=33:=by simp[pcC,h]
theorem pcC_one(x:Pc):∀u∈pcC x,u.oneCell'=true:=by
 intro u hu
 simp only[pcC,List.mem_append,List.mem_map,List.mem_singleton] at hu
 rcases hu with ⟨y,_,rfl⟩ | rfl<;>rfl
theorem pcC_n{x:Pc}(h:x.1.length=32):(pcC x)[32]?=some (.int .i64 x.2):=by
 unfold pcC
 rw[List.getElem?_append_right (by simp[h])]
 simp[h]
theorem pcC_d{x:Pc}(h:x.1.length=32)(j:Nat)(hj:j<32):(pcC x)[j]?=some (.int .u8 (x.1.getD j 0)):=by
 unfold pcC
 rw[List.getElem?_append_left (by simp[h];exact hj)]
 simp[List.getD,List.getElem?_eq_getElem (show j<x.1.length by omega)]
structure Rp (w:World) (a:Option Addr) (cap:Nat) (l:List Pc):Prop where
 room:l.length<=cap
 most:cap<=maxLen
 none0:a=none->cap=0
 cells:0<l.length->∃b off,a=some ⟨b,off,none⟩∧b<w.heap.size∧∀j,j<l.length->w.rangeAt b (off+j*33) (pcC (l.getD j pc0))
 fits:∀x∈l,PcOk x
theorem range_later{w w':World}{b o:Nat}{cs:List Value}(h:w.rangeAt b o cs)(hb:Below w.heap.size w w')(hlt:b<w.heap.size):w'.rangeAt b o cs:=
 fun j v hv=>(hb.cell (p:=⟨b,o+j,none⟩) hlt).trans (h j v hv)
theorem Rp.later{w w':World}{a:Option Addr}{cap:Nat}{l:List Pc}(h:Rp w a cap l)(hb:Below w.heap.size w w'):Rp w' a cap l:=by
 refine⟨h.room,h.most,h.none0,fun h0=>?_,h.fits⟩
 obtain⟨b,off,ha,hbw,hc⟩:=h.cells h0
 exact⟨b,off,ha,Nat.lt_of_lt_of_le hbw hb.size,fun j hj=>range_later (hc j hj) hb hbw⟩
theorem Rp.take{w:World}{a:Option Addr}{cap:Nat}{l:List Pc}(h:Rp w a cap l)(n:Nat):Rp w a cap (l.take n):=by
 have hr:=h.room
 have hle:(l.take n).length<=l.length:=by simp;omega
 have e:∀j,j<(l.take n).length->(l.take n).getD j pc0=l.getD j pc0:=fun j hj=>by
  have:j<n:=by simp at hj;omega
  simp[List.getD,List.getElem?_take_of_lt this]
 refine⟨by omega,h.most,h.none0,fun h0=>?_,fun x hx=>h.fits x (List.mem_of_mem_take hx)⟩
 obtain⟨b,off,ha,hbw,hc⟩:=h.cells (by omega)
 exact⟨b,off,ha,hbw,fun j hj=>by rw[e j hj];exact hc j (by omega)⟩
theorem Rp.get{w:World}{a:Option Addr}{cap:Nat}{l:List Pc}(h:Rp w a cap l){j:Nat}(hj:j<l.length):PcOk (l.getD j pc0):=
 h.fits _ (by simp[List.getD,List.getElem?_eq_getElem hj])
structure Rec where
 seq:Int
 epoch:Int
 prev:List Int
 kind:Int
 site:Int
 path:ByteArray
 a:Option Addr
 cap:Nat
 ps:List Pc
def Rec.cs(r:Rec):List Value:= .int .i64 r.seq:: .int .i64 r.epoch::(r.prev.map (Value.int .u8)++ [.int .i64 r.kind,.int .i64 r.site,.string r.path,.slice r.a r.ps.length r.cap])
structure Rv (w:World) (r:Rec):Prop where
 len:r.prev.length=32
 u8:∀j,(Lit.int .u8 (r.prev.getD j 0)).wf=true
 seq:(Lit.int .i64 r.seq).wf=true
 epoch:(Lit.int .i64 r.epoch).wf=true
 kind:(Lit.int .i64 r.kind).wf=true
 site:(Lit.int .i64 r.site).wf=true
 path:r.path.size<=maxLen
 row:Rp w r.a r.cap r.ps
theorem Rv.later{w w':World}{r:Rec}(h:Rv w r)(hb:Below w.heap.size w w'):Rv w' r:=⟨h.len,h.u8,h.seq,h.epoch,h.kind,h.site,h.path,h.row.later hb⟩
theorem Rec.cs_len{r:Rec}(h:r.prev.length=32):r.cs.length=38:=by simp[Rec.cs,h]
theorem Rec.cs_size{r:Rec}(h:r.prev.length=32):r.cs.toArray.size=38:=by simp[Rec.cs,h]
theorem Rec.cs_one(r:Rec):∀u∈r.cs,u.oneCell'=true:=by
 intro u hu
 simp only[Rec.cs,List.mem_cons,List.mem_append,List.mem_map,List.not_mem_nil,or_false] at hu
 rcases hu with rfl | rfl | ⟨y,_,rfl⟩ | rfl | rfl | rfl | rfl<;>rfl
theorem Rec.tail(r:Rec)(h:r.prev.length=32)(j:Nat):r.cs[34+j]?= [Value.int .i64 r.kind,.int .i64 r.site,.string r.path,.slice r.a r.ps.length r.cap][j]?:=by
 unfold Rec.cs
 rw[show 34+j=(32+j)+1+1 from by omega,List.getElem?_cons_succ,List.getElem?_cons_succ,List.getElem?_append_right (by simp[h])]
 simp[h]
theorem Rec.mid(r:Rec)(h:r.prev.length=32)(j:Nat)(hj:j<32):r.cs[2+j]?=some (.int .u8 (r.prev.getD j 0)):=by
 unfold Rec.cs
 rw[show 2+j=j+1+1 from by omega,List.getElem?_cons_succ,List.getElem?_cons_succ,List.getElem?_append_left (by simp[h];exact hj)]
 simp[List.getD,List.getElem?_eq_getElem (show j<r.prev.length by omega)]
structure Bx (w:World) (g:Nat) (r:Rec):Prop where
 blk:w.heap[g]?=some (.cells r.cs.toArray 58)
 len:r.prev.length=32
theorem Bx.lt{w:World}{g:Nat}{r:Rec}(h:Bx w g r):g<w.heap.size:=(Array.getElem?_eq_some_iff.1 h.blk).1
theorem Bx.later{w w':World}{g:Nat}{r:Rec}(h:Bx w g r)(hb:Below w.heap.size w w'):Bx w' g r:=⟨(hb.block _ h.lt).trans h.blk,h.len⟩
theorem Bx.mk'(w:World)(r:Rec)(h:r.prev.length=32):Bx (w.alloc (.cells r.cs.toArray 58)) w.heap.size r:=⟨heap_alc w _,h⟩
theorem Bx.c0{w:World}{g:Nat}{r:Rec}(h:Bx w g r):w.cell? ⟨g,0,none⟩=some (.int .i64 r.seq):=(Joins.cell_of_block h.blk 0).trans rfl
theorem Bx.c1{w:World}{g:Nat}{r:Rec}(h:Bx w g r):w.cell? ⟨g,1,none⟩=some (.int .i64 r.epoch):=(Joins.cell_of_block h.blk 1).trans rfl
theorem Bx.c34{w:World}{g:Nat}{r:Rec}(h:Bx w g r):w.cell? ⟨g,34,none⟩=some (.int .i64 r.kind):=(Joins.cell_of_block h.blk 34).trans (by rw[List.getElem?_toArray];exact r.tail h.len 0)
theorem Bx.c35{w:World}{g:Nat}{r:Rec}(h:Bx w g r):w.cell? ⟨g,35,none⟩=some (.int .i64 r.site):=(Joins.cell_of_block h.blk 35).trans (by rw[List.getElem?_toArray];exact r.tail h.len 1)
theorem Bx.c36{w:World}{g:Nat}{r:Rec}(h:Bx w g r):w.cell? ⟨g,36,none⟩=some (.string r.path):=(Joins.cell_of_block h.blk 36).trans (by rw[List.getElem?_toArray];exact r.tail h.len 2)
theorem Bx.c37{w:World}{g:Nat}{r:Rec}(h:Bx w g r):w.cell? ⟨g,37,none⟩=some (.slice r.a r.ps.length r.cap):=(Joins.cell_of_block h.blk 37).trans (by rw[List.getElem?_toArray];exact r.tail h.len 3)
theorem Bx.cp{w:World}{g:Nat}{r:Rec}(h:Bx w g r)(j:Nat)(hj:j<32):w.cell? ⟨g,2+j,none⟩=some (.int .u8 (r.prev.getD j 0)):=(Joins.cell_of_block h.blk (2+j)).trans (by rw[List.getElem?_toArray];exact r.mid h.len j hj)
theorem Tryd.size58:(Tryd.prog.info? 58).map (·.size)=some 38:=by kernel_rfl
theorem Tryd.size80:(Tryd.prog.info? 80).map (·.size)=some 33:=by kernel_rfl
theorem Tryd.size25:(Tryd.prog.info? 25).map (·.size)=some 32:=by kernel_rfl
theorem Tryd.size27:(Tryd.prog.info? 27).map (·.size)=some 34:=by kernel_rfl
theorem Bx.load{w:World}{g:Nat}{r:Rec}(h:Bx w g r):(loadVar 58 ⟨g,0,none⟩).run Tryd.prog w= .ok (.agg r.cs.toArray) w:=
 run_loadVar_row (P:=Tryd.prog) w g 58 58 r.cs.toArray (0,0) _ h.blk Tryd.underlying58 rfl (by rw[Rec.cs_size h.len];exact Tryd.size58)
theorem wpList_load_g{P:Program}{ops:Array Oper}{rest:List Oper}{o:Oper}{a:Act}{w:World}{Q:Exit->Act->World->Prop}(hw:Region.wanted o (yielded ops a.tmps)=true)(ty:TypeId)(x:Operand)(ho:o.op= .load ty x)
 (b off:Nat) (hx:a.eval x= .pointer (some ⟨b,off,none⟩)) (cs:List Value) (d:TypeDesc) (hc:w.rangeAt b off cs) (hu:P.underlying ty=some d) (hd:d.isRow=true) (hi:(P.info? ty).map (·.size)=some cs.length)
 (h:wpList P ops Q rest (a.put o.dst (.agg cs.toArray)) w):wpList P ops Q (o::rest) a w:=
 wpList_step fun K hK=>by
  rw[if_pos hw]
  exact wp_load_mid ty x ho b off hx cs d hc hu hd hi (hK _ _ h)
theorem lc_range{w:World}{b o n:Nat}{cs:List Value}(h:w.rangeAt b o cs)(hn:cs.length=n):(loadCellsFrom ⟨b,o,none⟩ 0 n #[]).run Tryd.prog w= .ok cs.toArray w:=by
 subst hn
 have:=run_loadCells_list (P:=Tryd.prog) w ⟨b,o,none⟩ cs (fun j v hv=>by
  rw[Addr.add_mid]
  exact h j v hv)
 simpa [loadCells] using this
theorem Bx.range{w:World}{g:Nat}{r:Rec}(h:Bx w g r):w.rangeAt g 0 r.cs:=fun j v hv=>by
 rw[Nat.zero_add,Joins.cell_of_block h.blk j,List.getElem?_toArray]
 exact hv
theorem Bx.lc{w:World}{g:Nat}{r:Rec}(h:Bx w g r):(loadCellsFrom ⟨g,0,none⟩ 0 38 #[]).run Tryd.prog w= .ok r.cs.toArray w:=lc_range h.range (Rec.cs_len h.len)
theorem Bx.prev{w:World}{g:Nat}{r:Rec}(h:Bx w g r):w.rangeAt g 2 (r.prev.map (Value.int .u8)):=fun j v hv=>by
 have hj:j<32:=by
  have:=(List.getElem?_eq_some_iff.1 hv).1
  simpa [h.len] using this
 rw[h.cp j hj,<-hv]
 simp[List.getD,List.getElem?_eq_getElem (show j<r.prev.length by rw[h.len];exact hj)]
theorem Bx.ri{w:World}{g:Nat}{r:Rec}(h:Bx w g r)(h8:∀j,(Lit.int .u8 (r.prev.getD j 0)).wf=true):Ri w .u8 (some ⟨g,2,none⟩) 32 r.prev:=
 ⟨by rw[h.len];omega,by unfold maxLen;omega,fun _=>⟨g,2,rfl,h.lt,fun j hj=>h.cp j (by rw[h.len] at hj;exact hj)⟩,h8⟩
end Go.Proofs.YtplinkmagnihmaaDoor
namespace Go.Proofs.YtplinkmagnihmaaDoor
open Go.ChangeShapes Go.WideShapes Go.ChangeAt Go.RowKit Go.Deep
theorem within_word(n m:Int)(w:World):Calls Tryd.prog 95 #[.int .i64 n,.int .i64 m] w fun e w'=>e= .returned (.bool (decide (1<=n∧n<=m)))∧w'=w:=by
 by_cases h1:1<=n
 ·by_cases h2:n<=m
  ·rw[decide_eq_true (show 1<=n∧n<=m from⟨h1,h2⟩)]
   go_enter Tryd.func95,Tryd.ntmps95
   go_wp2
   go_ret
   exact⟨rfl,rfl⟩
  ·rw[decide_eq_false (show ¬(1<=n∧n<=m) from fun h=>h2 h.2)]
   go_enter Tryd.func95,Tryd.ntmps95
   go_wp2
   go_ret
   exact⟨rfl,rfl⟩
 ·rw[decide_eq_false (show ¬(1<=n∧n<=m) from fun h=>h1 h.1)]
  go_enter Tryd.func95,Tryd.ntmps95
  go_wp2
  go_ret
  exact⟨rfl,rfl⟩
def nOk(x:Pc):Bool:=decide (1<=x.2∧x.2<=4096)
def sumP:List Pc->Int
 | []=>0
 | x::l=>x.2+sumP l
theorem sumP_app(l m:List Pc):sumP (l++m)=sumP l+sumP m:=by
 induction l with
 | nil=>simp[sumP]
 | cons x l ih=>simp only[List.cons_append,sumP,ih];omega
theorem sumP_bound(l:List Pc)(h:l.all nOk=true):0<=sumP l∧sumP l<=4096*l.length:=by
 induction l with
 | nil=>simp[sumP]
 | cons x l ih=>
   simp only[List.all_cons,Bool.and_eq_true] at h
   have:=ih h.2
   have hx:=of_decide_eq_true h.1
   simp only[sumP,List.length_cons]
   omega
def sizO(l:List Pc):Int×Int:=if 4096<l.length then (0,130) else if l.all nOk=true then (if 1048576<sumP l then (0,130) else (sumP l,0)) else (0,130)
theorem take_pc(l:List Pc)(k:Nat)(h:k<l.length):l.take (k+1)=l.take k++ [l.getD k pc0]:=by
 rw[List.take_add_one]
 simp[List.getD,List.getElem?_eq_getElem h]
theorem all_false(l:List Pc)(k:Nat)(h:k<l.length)(hx:nOk (l.getD k pc0)=false):l.all nOk=false:=by
 rw[List.all_eq_false]
 exact⟨l.getD k pc0,by simp[List.getD,List.getElem?_eq_getElem h],by rw[hx];simp⟩
def pcZ:Array Value:=(pcC (z32,0)).toArray
theorem Tryd.zero80:∀w,(zeroValue 80).run Tryd.prog w= .ok (.agg pcZ) w:=fun w=>by kernel_rfl
theorem pcZ_size{x:Pc}(h:(pcC x).length=33):pcZ.size=(pcC x).toArray.size:=by rw[show(pcC x).toArray.size=(pcC x).length from rfl,h];rfl
theorem size_long(a:Option Addr)(n cap:Nat)(w:World)(hn:4096<n)(hm:n<=maxLen):
 Calls Tryd.prog 99 #[.slice a n cap] w fun e w'=>e= .returned (.tuple #[.int .i64 0,.int .i64 130])∧w'=w:=by
 have e1:((4096:Nat):Int)<(n:Int):=by omega
 unfold maxLen at hm
 go_enter Tryd.func99,Tryd.ntmps99
 go_wp2
 go_ret2
 exact⟨rfl,rfl⟩
set_option maxHeartbeats 3200000 in
set_option maxRecDepth 100000 in
theorem size_word(a:Option Addr)(cap:Nat)(l:List Pc)(w:World)(hr:Rp w a cap l):
 Calls Tryd.prog 99 #[.slice a l.length cap] w fun e w'=>e= .returned (.tuple #[.int .i64 (sizO l).1,.int .i64 (sizO l).2])∧Below w.heap.size w w':=by
 have hroom:=hr.room
 have hmost:=hr.most
 by_cases hlong:4096<l.length
 ·refine(size_long a l.length cap w hlong (by omega)).mono ?_
  rintro e w' ⟨rfl,rfl⟩
  unfold sizO
  rw[if_pos hlong]
  exact⟨rfl,Below.refl _ _⟩
 unfold maxLen at hmost
 have HR:=hid hr
 obtain⟨len,hle⟩:∃n,n=l.length:=⟨_,rfl⟩
 have HL:=hid hle
 rw[<-hle] at hlong hroom|-
 clear hr hle
 go_enter Tryd.func99,Tryd.ntmps99
 go_wp2
 go_loopw [4,12] (fun x4 x12 wr=>∃k:Nat,k<=len∧x12= .int .i64 (k:Int)∧x4= .int .i64 (sumP (l.take k))∧Below w.heap.size w wr∧Hid ((l.take k).all nOk=true)) (fun _ x12 _=>len-(intOf x12).toNat)
 case atStart=>exact⟨0,by omega,rfl,rfl,Below.refl _ _,rfl⟩
 case round=>
  obtain⟨k,hk,rfl,rfl,hbel,HA⟩:=hrel
  have hsb:=sumP_bound _ HA.out
  have htl:(l.take k).length<=4096:=by simp;omega
  by_cases hlt:k<len
  ·have hkz:(k:Int)<(len:Int):=by omega
   obtain⟨b,off,rfl,hbw,hc⟩:=HR.out.cells (by rw[<-HL.out];omega)
   have hrg:=(hc k (by rw[<-HL.out];exact hlt))
   have HRG:Hid (wr.rangeAt b (off+k*33) (pcC (l.getD k pc0))):=fun j v hv=>(hbel.cell (p:=⟨b,off+k*33+j,none⟩) hbw).trans (hrg j v hv)
   have hok:=HR.out.get (j:=k) (by rw[<-HL.out];exact hlt)
   have HTK:=hid (take_pc l k (by rw[<-HL.out];exact hlt))
   have HNO:=hid (all_false l k (by rw[<-HL.out];exact hlt))
   generalize hx:l.getD k pc0=x at *
   have HLP:=hid (pcC_len hok.len)
   have HE:Hid ((wr.alloc (.cells (pcC x).toArray 80)).heap[wr.heap.size]?=some (.cells (pcC x).toArray 80)):=heap_alc _ _
   have hcn:(wr.alloc (.cells (pcC x).toArray 80)).cell? ⟨wr.heap.size,32,none⟩=some (.int .i64 x.2):=(Joins.cell_of_block HE.out 32).trans (by rw[List.getElem?_toArray];exact pcC_n hok.len)
   have HB2:=hid (Bn hbel (bel_alc wr (.cells (pcC x).toArray 80)))
   have HW:=hid (fun V=>within_word x.2 4096 V)
   have hwf:=wf_i64 hok.i64
   clear hbel hrg hc hok
   obtain⟨S,hS⟩:∃S,S=sumP (l.take k):=⟨_,rfl⟩
   have HS:=hid hS
   rw[<-hS] at hsb|-
   clear hS
   go_wp2_with (first | refine wpList_load_mid rfl 80 _ rfl b (off+k*33) rfl (pcC x) _ HRG.out Tryd.underlying80 rfl (by rw[HLP.out];exact Tryd.size80) ?_ | refine wpList_alloc_at rfl 80 rfl (some 6) rfl _ Tryd.zero80 wr.heap.size rfl ?_ | refine wpList_store_new rfl 80 _ _ rfl rfl wr pcZ (pcC x).toArray rfl rfl rfl (by rw[List.size_toArray,HLP.out];exact Tryd.size80) (pcZ_size HLP.out) (all_oneCell_toArray (pcC_one x)) ?_ | fail)
   refine(HW.out _).mono ?_
   rintro _ w0 ⟨rfl,hw⟩
   obtain rfl:=hw.symm
   clear hw HW
   by_cases hx:1<=x.2∧x.2<=4096
   ·rw[decide_eq_true hx]
    have hx1:=hx.1
    have hx2:=hx.2
    have HX:Hid (nOk x=true):=decide_eq_true hx
    clear hx
    go_wp2
    go_round
    case rel=>exact⟨k+1,by omega,by go_num,by rw[HTK.out,sumP_app,HS.out];simp[sumP],HB2.out,by show _=_;rw[HTK.out,List.all_append,HA.out];simp[HX.out]⟩
    case measure=>simp[intOf];omega
   ·rw[decide_eq_false hx]
    have HX:Hid (nOk x=false):=decide_eq_false hx
    clear hx
    go_wp2
    go_ret2
    refine⟨?_,HB2.out⟩
    unfold sizO
    rw[<-HL.out,if_neg hlong,HNO.out HX.out]
    rfl
  ·have hkl:k=len:=by omega
   subst hkl
   have HT:Hid (l.take k=l):=List.take_of_length_le (by rw[HL.out];exact Nat.le_refl _)
   rw[HT.out] at hsb HA|-
   have HB:=hid hbel
   clear hbel
   obtain⟨S,hS⟩:∃S,S=sumP l:=⟨_,rfl⟩
   have HS:=hid hS
   rw[<-hS] at hsb|-
   clear hS
   by_cases hbig:1048576<S
   ·go_wp2
    go_ret2
    refine⟨?_,HB.out⟩
    unfold sizO
    rw[<-HL.out,if_neg hlong,if_pos HA.out,<-HS.out,if_pos (by omega)]
    rfl
   ·go_wp2
    go_ret2
    refine⟨?_,HB.out⟩
    unfold sizO
    rw[<-HL.out,if_neg hlong,if_pos HA.out,<-HS.out,if_neg (by omega)]
    rfl
def chr8(c:UInt8):Bool:=decide (33<=c.toNat∧c.toNat<=126)
def pathB(s:ByteArray):Bool:=decide (1<=s.size∧s.size<=255)&&s.data.toList.all chr8
theorem str_take(s:ByteArray)(k:Nat)(h:k<s.size):s.data.toList.take (k+1)=s.data.toList.take k++ [s[k]]:=by
 have h':k<s.data.toList.length:=h
 rw[List.take_add_one,List.getElem?_eq_getElem h']
 rfl
theorem path_no(s:ByteArray)(k:Nat)(h:k<s.size)(hc:chr8 s[k]=false):pathB s=false:=by
 unfold pathB
 rw[Bool.and_eq_false_iff]
 right
 rw[List.all_eq_false]
 exact⟨s[k],List.getElem_mem (l:=s.data.toList) (show k<s.data.toList.length from h),by rw[hc];simp⟩
set_option maxHeartbeats 3200000 in
set_option maxRecDepth 100000 in
theorem path_word(s:ByteArray)(w:World)(hs:s.size<=maxLen):Calls Tryd.prog 100 #[.string s] w fun e w'=>e= .returned (.bool (pathB s))∧w'=w:=by
 unfold maxLen at hs
 have HW:=hid (fun V=>within_word (s.size:Int) 255 V)
 go_enter Tryd.func100,Tryd.ntmps100
 go_wp2_with fail
 refine(HW.out _).mono ?_
 rintro _ w0 ⟨rfl,hw⟩
 obtain rfl:=hw.symm
 clear hw HW
 by_cases hx:1<=(s.size:Int)∧(s.size:Int)<=255
 ·rw[decide_eq_true hx]
  have hx2:=hx.2
  have HX:Hid (decide (1<=s.size∧s.size<=255)=true):=decide_eq_true (by omega)
  clear hx
  go_wp2
  go_loop [10] (fun x=>∃k:Nat,k<=s.size∧x= .int .i64 (k:Int)∧Hid ((s.data.toList.take k).all chr8=true)) (fun x=>s.size-(intOf x).toNat)
  case atStart=>exact⟨0,by omega,rfl,rfl⟩
  case round=>
   obtain⟨k,hk,rfl,HA⟩:=hrel
   by_cases hlt:k<s.size
   ·have hkz:(k:Int)<(s.size:Int):=by omega
    have HTK:=hid (str_take s k hlt)
    by_cases h33:(33:Int)<=(s[k].toNat:Int)
    ·by_cases h126:(s[k].toNat:Int)<=126
     ·have HC:Hid (chr8 s[k]=true):=decide_eq_true (by omega)
      go_wp2
      go_round
      case rel=>exact⟨k+1,by omega,by go_num,by show _=_;rw[HTK.out,List.all_append,HA.out];simp[HC.out]⟩
      case measure=>simp[intOf];omega
     ·have HC:Hid (chr8 s[k]=false):=decide_eq_false (by omega)
      go_wp2
      go_ret
      exact⟨(path_no s k hlt HC.out) ▸ rfl,rfl⟩
    ·have HC:Hid (chr8 s[k]=false):=decide_eq_false (by omega)
     go_wp2
     go_ret
     exact⟨(path_no s k hlt HC.out) ▸ rfl,rfl⟩
   ·have hkl:k=s.size:=by omega
    have HP:Hid (pathB s=true):=by
     show _=_
     have:=HA.out
     rw[List.take_of_length_le (by show s.size<=k;omega)] at this
     unfold pathB
     rw[HX.out,this]
     rfl
    go_wp2
    go_ret
    exact⟨HP.out ▸ rfl,rfl⟩
 ·rw[decide_eq_false hx]
  have HX:Hid (decide (1<=s.size∧s.size<=255)=false):=decide_eq_false (by omega)
  clear hx
  go_wp2
  go_ret
  exact⟨by unfold pathB;rw[HX.out];rfl,rfl⟩
end Go.Proofs.YtplinkmagnihmaaDoor
namespace Go.Proofs.YtplinkmagnihmaaDoor
open Go.ChangeShapes Go.WideShapes Go.ChangeAt Go.RowKit Go.Deep
def kindB(r:Rec):Bool:=
 if r.kind=1 then decide (r.site=0∨r.site=1)&&decide (r.path.size=0)&&decide (r.ps.length=0)
 else if r.kind=3 then decide (r.ps.length=0)&&(decide (r.site=0)&&pathB r.path&&decide ((sizO r.ps).2=0))
 else if r.kind=2 then decide (r.site=0)&&pathB r.path&&decide ((sizO r.ps).2=0)
 else false
def mayB(r:Rec):Bool:=decide (1<=r.seq∧r.seq<=1073741824)&&decide (1<=r.epoch∧r.epoch<=1073741824)&&kindB r
def e130:Bool->Int
 | true=>0
 | false=>130
theorem siz_or(l:List Pc):(sizO l).2=0∨(sizO l).2=130:=by
 unfold sizO
 split
 ·exact .inr rfl
 ·split
  ·split
   ·exact .inr rfl
   ·exact .inl rfl
  ·exact .inr rfl
theorem ba_nil(s:ByteArray)(h:s.size=0):s=ByteArray.empty:=by
 cases s with
 | mk d=>
   have:d.size=0:=h
   rw[Array.size_eq_zero_iff] at this
   subst this
   rfl
theorem ba_some(s:ByteArray)(h:s≠ByteArray.empty):s.toList.isEmpty=false:=by
 rw[ByteArray.toList_eq]
 cases e:s.data.toList with
 | nil=>
   refine absurd (ba_nil s ?_) h
   show s.data.size=0
   rw[<-Array.length_toList,e]
   rfl
 | cons a b=>rfl
theorem beq_nat(n:Nat):((n:Int)==0)=decide (n=0):=by
 by_cases h:n=0
 ·subst h;rfl
 ·rw[decide_eq_false h,beq_eq_false_iff_ne];omega
set_option maxHeartbeats 3200000 in
set_option maxRecDepth 100000 in
theorem kind_lead(r:Rec)(w:World)(h:Rv w r)(hk:r.kind=1):Calls Tryd.prog 96 #[.agg r.cs.toArray] w fun e w'=>e= .returned (.bool (kindB r))∧Below w.heap.size w w':=by
 have hb:=hid (bel_alc w (.cells r.cs.toArray 58))
 have B0:=Bx.mk' w r h.len
 have c34:=B0.c34
 have c35:=B0.c35
 have c36:=B0.c36
 have c37:=B0.c37
 have hroom:=h.row.room
 have hmost:=h.row.most
 unfold maxLen at hmost
 have HK:Hid (kindB r=(decide (r.site=0∨r.site=1)&&decide (r.path.size=0)&&decide (r.ps.length=0))):=by show _=_;unfold kindB;rw[if_pos hk]
 rw[hk] at c34
 clear B0 h hk
 generalize r.cs.toArray=H at *
 have hpn:r.path=ByteArray.empty↔r.path.size=0:=⟨fun e=>by rw[e];rfl,ba_nil _⟩
 generalize kindB r=KB at *
 generalize r.ps.length=L at *
 generalize r.site=si at *
 generalize r.path=pa at *
 by_cases hp:pa=ByteArray.empty
 ·have HP:Hid (decide (pa.size=0)=true):=decide_eq_true (hpn.1 hp)
  subst hp
  by_cases hs:si=0
  ·subst hs
   go_enter Tryd.func96,Tryd.ntmps96
   go_wp2
   go_ret
   exact⟨by rw[HK.out,HP.out];simp[beq_nat],hb.out⟩
  ·by_cases hs1:si=1
   ·subst hs1
    go_enter Tryd.func96,Tryd.ntmps96
    go_wp2
    go_ret
    exact⟨by rw[HK.out,HP.out];simp[beq_nat],hb.out⟩
   ·have HS:Hid (decide (si=0∨si=1)=false):=decide_eq_false (by omega)
    go_enter Tryd.func96,Tryd.ntmps96
    go_wp2
    go_ret
    exact⟨by rw[HK.out,HS.out];rfl,hb.out⟩
 ·have HP:Hid (decide (pa.size=0)=false):=decide_eq_false (fun e=>hp (hpn.2 e))
  have hpe:=ba_some pa hp
  by_cases hs:si=0
  ·subst hs
   go_enter Tryd.func96,Tryd.ntmps96
   go_wp2
   go_ret
   exact⟨by rw[HK.out,HP.out];simp,hb.out⟩
  ·by_cases hs1:si=1
   ·subst hs1
    go_enter Tryd.func96,Tryd.ntmps96
    go_wp2
    go_ret
    exact⟨by rw[HK.out,HP.out];simp,hb.out⟩
   ·have HS:Hid (decide (si=0∨si=1)=false):=decide_eq_false (by omega)
    go_enter Tryd.func96,Tryd.ntmps96
    go_wp2
    go_ret
    exact⟨by rw[HK.out,HS.out];rfl,hb.out⟩
set_option maxHeartbeats 3200000 in
set_option maxRecDepth 100000 in
theorem kind_none(r:Rec)(w:World)(h:Rv w r)(h1:r.kind≠1)(h2:r.kind≠2)(h3:r.kind≠3):Calls Tryd.prog 96 #[.agg r.cs.toArray] w fun e w'=>e= .returned (.bool (kindB r))∧Below w.heap.size w w':=by
 have hb:=hid (bel_alc w (.cells r.cs.toArray 58))
 have c34:=(Bx.mk' w r h.len).c34
 have HK:Hid (kindB r=false):=by show _=_;unfold kindB;rw[if_neg h1,if_neg h3,if_neg h2]
 clear h
 generalize r.cs.toArray=H at *
 generalize kindB r=KB at *
 generalize r.kind=ki at *
 go_enter Tryd.func96,Tryd.ntmps96
 go_wp2
 go_ret
 exact⟨by rw[HK.out];rfl,hb.out⟩
set_option maxHeartbeats 3200000 in
set_option maxRecDepth 100000 in
theorem kind_file(r:Rec)(w:World)(h:Rv w r)(hk:r.kind=2∨r.kind=3):Calls Tryd.prog 96 #[.agg r.cs.toArray] w fun e w'=>e= .returned (.bool (kindB r))∧Below w.heap.size w w':=by
 have hb:=hid (bel_alc w (.cells r.cs.toArray 58))
 have B0:=Bx.mk' w r h.len
 have HBX:=hid B0
 have c34:=B0.c34
 have c37:=B0.c37
 have HSZ:=hid (fun V (hV:Below w.heap.size w V)=>size_word r.a r.cap r.ps V (h.row.later hV))
 have HPT:=hid (fun V=>path_word r.path V h.path)
 have hroom:=h.row.room
 have hmost:=h.row.most
 have hor:=siz_or r.ps
 unfold maxLen at hmost
 have HK:Hid (kindB r=(decide (r.kind=2∨r.ps.length=0)&&(decide (r.site=0)&&pathB r.path&&decide ((sizO r.ps).2=0)))):=by
  show _=_
  unfold kindB
  rcases hk with hk | hk<;>rw[hk]<;>simp
 by_cases hz:r.kind=3∧0<r.ps.length
 ·obtain⟨hz1,hz2⟩:=hz
  have HF:Hid (kindB r=false):=by show _=_;rw[HK.out,decide_eq_false (by omega)];rfl
  rw[hz1] at c34
  clear B0 h hk HBX HSZ HPT HK hz1
  generalize r.cs.toArray=H at *
  generalize kindB r=KB at *
  generalize r.ps.length=L at *
  go_enter Tryd.func96,Tryd.ntmps96
  go_wp2
  go_ret
  exact⟨by rw[HF.out];rfl,hb.out⟩
 ·have HK2:Hid (kindB r=(decide (r.site=0)&&pathB r.path&&decide ((sizO r.ps).2=0))):=by show _=_;rw[HK.out,decide_eq_true (by omega)];rfl
  clear B0 h HK
  have hz':r.kind=3->r.ps.length=0:=fun e=>by
   rcases Nat.eq_zero_or_pos r.ps.length with q | q
   ·exact q
   ·exact absurd ⟨e,q⟩ hz
  clear hz
  generalize hkk:kindB r=KB at *
  generalize hC:r.cs.toArray=H at *
  generalize hLL:r.ps.length=L at *
  rcases hk with hk | hk
  ·rw[hk] at c34
   go_enter Tryd.func96,Tryd.ntmps96
   go_wp2_with fail
   refine(HSZ.out _ hb.out).mono ?_
   rintro _ W1 ⟨rfl,hb1⟩
   have B1:=HBX.out.later hb1
   have c35:=B1.c35
   have c36:=B1.c36
   have HB1:=hid (Bn hb.out hb1)
   clear hb1 B1 HSZ hb HBX c34 c37
   generalize (sizO r.ps).1=E1 at *
   generalize (sizO r.ps).2=E2 at *
   generalize pathB r.path=PB at *
   by_cases hs:r.site=0
   ·rw[hs] at c35
    have HK3:Hid (KB=(PB&&decide (E2=0))):=by show _=_;rw[HK2.out,hs];simp
    clear HK2
    go_wp2_with fail
    refine(HPT.out _).mono ?_
    rintro _ w0 ⟨rfl,hw⟩
    obtain rfl:=hw.symm
    clear hw HPT
    cases PB with
    | false=>
      go_wp2
      go_ret
      exact⟨by rw[HK3.out];rfl,HB1.out⟩
    | true=>
      rcases hor with ho | ho
      ·subst ho
       go_wp2
       go_ret
       exact⟨by rw[HK3.out];rfl,HB1.out⟩
      ·subst ho
       go_wp2
       go_ret
       exact⟨by rw[HK3.out];rfl,HB1.out⟩
   ·have HK3:Hid (KB=false):=by show _=_;rw[HK2.out,decide_eq_false hs];rfl
    generalize r.site=si at *
    clear HK2 HPT
    go_wp2
    go_ret
    exact⟨by rw[HK3.out];rfl,HB1.out⟩
  ·rw[hk] at c34
   have h0:=hz' hk
   subst h0
   go_enter Tryd.func96,Tryd.ntmps96
   go_wp2_with fail
   refine(HSZ.out _ hb.out).mono ?_
   rintro _ W1 ⟨rfl,hb1⟩
   have B1:=HBX.out.later hb1
   have c35:=B1.c35
   have c36:=B1.c36
   have HB1:=hid (Bn hb.out hb1)
   clear hb1 B1 HSZ hb HBX c34 c37
   generalize (sizO r.ps).1=E1 at *
   generalize (sizO r.ps).2=E2 at *
   generalize pathB r.path=PB at *
   by_cases hs:r.site=0
   ·rw[hs] at c35
    have HK3:Hid (KB=(PB&&decide (E2=0))):=by show _=_;rw[HK2.out,hs];simp
    clear HK2
    go_wp2_with fail
    refine(HPT.out _).mono ?_
    rintro _ w0 ⟨rfl,hw⟩
    obtain rfl:=hw.symm
    clear hw HPT
    cases PB with
    | false=>
      go_wp2
      go_ret
      exact⟨by rw[HK3.out];rfl,HB1.out⟩
    | true=>
      rcases hor with ho | ho
      ·subst ho
       go_wp2
       go_ret
       exact⟨by rw[HK3.out];rfl,HB1.out⟩
      ·subst ho
       go_wp2
       go_ret
       exact⟨by rw[HK3.out];rfl,HB1.out⟩
   ·have HK3:Hid (KB=false):=by show _=_;rw[HK2.out,decide_eq_false hs];rfl
    generalize r.site=si at *
    clear HK2 HPT
    go_wp2
    go_ret
    exact⟨by rw[HK3.out];rfl,HB1.out⟩
theorem kind_word(r:Rec)(w:World)(h:Rv w r):Calls Tryd.prog 96 #[.agg r.cs.toArray] w fun e w'=>e= .returned (.bool (kindB r))∧Below w.heap.size w w':=by
 by_cases h1:r.kind=1
 ·exact kind_lead r w h h1
 by_cases h2:r.kind=2
 ·exact kind_file r w h (.inl h2)
 by_cases h3:r.kind=3
 ·exact kind_file r w h (.inr h3)
 exact kind_none r w h h1 h2 h3
set_option maxHeartbeats 3200000 in
set_option maxRecDepth 100000 in
theorem may_word(r:Rec)(w:World)(h:Rv w r):Calls Tryd.prog 92 #[.agg r.cs.toArray] w fun e w'=>e= .returned (.bool (mayB r))∧Below w.heap.size w w':=by
 have hb:=hid (bel_alc w (.cells r.cs.toArray 58))
 have B0:=Bx.mk' w r h.len
 have c0:=B0.c0
 have c1:=B0.c1
 have HLD:=hid B0.range
 have HLL:=hid (Rec.cs_len h.len)
 have HKW:=hid (kind_word r _ (h.later hb.out))
 have HW1:=hid (fun V=>within_word r.seq 1073741824 V)
 have HW2:=hid (fun V=>within_word r.epoch 1073741824 V)
 have HM:Hid (mayB r=(decide (1<=r.seq∧r.seq<=1073741824)&&decide (1<=r.epoch∧r.epoch<=1073741824)&&kindB r)):=rfl
 clear B0 h
 generalize mayB r=MB at *
 generalize kindB r=KB at *
 generalize decide (1<=r.seq∧r.seq<=1073741824)=A1 at *
 generalize decide (1<=r.epoch∧r.epoch<=1073741824)=A2 at *
 generalize r.seq=sq at *
 generalize r.epoch=ep at *
 go_enter Tryd.func92,Tryd.ntmps92
 go_wp2_with fail
 refine(HW1.out _).mono ?_
 rintro _ w0 ⟨rfl,hw⟩
 obtain rfl:=hw.symm
 clear hw HW1
 cases A1 with
 | false=>
   go_wp2
   go_ret
   exact⟨by rw[HM.out];rfl,hb.out⟩
 | true=>
   go_wp2_with fail
   refine(HW2.out _).mono ?_
   rintro _ w0 ⟨rfl,hw⟩
   obtain rfl:=hw.symm
   clear hw HW2
   cases A2 with
   | false=>
     go_wp2
     go_ret
     exact⟨by rw[HM.out];rfl,hb.out⟩
   | true=>
     go_wp2_with (first | refine wpList_load_g rfl 58 _ rfl w.heap.size 0 rfl r.cs _ HLD.out Tryd.underlying58 rfl (by rw[HLL.out];exact Tryd.size58) ?_ | fail)
     refine HKW.out.mono ?_
     rintro _ w2 ⟨rfl,hb2⟩
     have HB2:=hid (Bn hb.out hb2)
     clear hb2 HKW HLD
     go_wp2
     go_ret
     exact⟨by rw[HM.out];cases KB<;>rfl,HB2.out⟩
set_option maxHeartbeats 3200000 in
set_option maxRecDepth 100000 in
theorem check_word(r:Rec)(w:World)(h:Rv w r):Calls Tryd.prog 77 #[.agg r.cs.toArray] w fun e w'=>e= .returned (.int .i64 (e130 (mayB r)))∧Below w.heap.size w w':=by
 have hb:=hid (bel_alc w (.cells r.cs.toArray 58))
 have HLD:=hid (Bx.mk' w r h.len).range
 have HLL:=hid (Rec.cs_len h.len)
 have HMW:=hid (may_word r _ (h.later hb.out))
 clear h
 generalize mayB r=MB at *
 go_enter Tryd.func77,Tryd.ntmps77
 go_wp2_with (first | refine wpList_load_g rfl 58 _ rfl w.heap.size 0 rfl r.cs _ HLD.out Tryd.underlying58 rfl (by rw[HLL.out];exact Tryd.size58) ?_ | fail)
 refine HMW.out.mono ?_
 rintro _ w2 ⟨rfl,hb2⟩
 have HB2:=hid (Bn hb.out hb2)
 clear hb2 HMW HLD
 cases MB with
 | false=>
   go_wp2
   go_ret
   exact⟨rfl,HB2.out⟩
 | true=>
   go_wp2
   go_ret
   exact⟨rfl,HB2.out⟩
end Go.Proofs.YtplinkmagnihmaaDoor
namespace Go.Proofs.YtplinkmagnihmaaDoor
open Go.ChangeShapes Go.WideShapes Go.ChangeAt Go.RowKit Go.Deep
def pcB(x:Pc):List Int:=vint x.2++x.1
def pcsB(l:List Pc):List Int:=vint (l.length:Int)++l.flatMap pcB
theorem vint10(x:Int):(vint x).length<=10:=by
 have:∀f (y:Int),(vintL f y).length<=f+1:=by
  intro f
  induction f with
  | zero=>intro y;unfold vintL;simp
  | succ f ih=>
    intro y
    unfold vintL
    split
    ·simp
    ·simp only[List.length_cons];have:=ih (y/128);omega
 exact this 9 x
theorem flat_len(l:List Pc)(h:∀x∈l,x.1.length=32):(l.flatMap pcB).length<=42*l.length:=by
 induction l with
 | nil=>simp
 | cons x l ih=>
   have h1:=h x (by simp)
   have h2:=ih (fun y hy=>h y (by simp[hy]))
   have:=vint10 x.2
   simp only[List.flatMap_cons,List.length_append,List.length_cons,pcB]
   omega
theorem Ri.grown{w w':World}{kd:IntKind}{a:Option Addr}{cap:Nat}{zs:List Int}{row:Option Nat}(h:Ri w kd a cap zs)(hg:w.grownBy w' row)(hne:∀b off,a=some ⟨b,off,none⟩->some b≠row):Ri w' kd a cap zs:=by
 refine⟨h.room,h.most,fun h0=>?_,h.fits⟩
 obtain⟨b,off,ha,hb,hc⟩:=h.cells h0
 have hk:∀j,j<zs.length->w'.cell? ⟨b,off+j,none⟩=some (.int kd (zs.getD j 0)):=fun j hj=>hg.cell (hc j hj) (hne b off ha)
 exact⟨b,off,ha,cell_lt (hk 0 h0),hk⟩
set_option maxHeartbeats 3200000 in
set_option maxRecDepth 100000 in
theorem pieces_word(a:Option Addr)(cap:Nat)(l:List Pc)(w:World)(hr:Rp w a cap l)(hn:l.length<=4096)(hok:l.all nOk=true):
 Calls Tryd.prog 82 #[.slice a l.length cap] w fun e w'=>∃v,e= .returned v∧w'.ownsRow w.heap.size 5 1 v (pcsB l).length ((pcsB l).map (Value.int .u8))∧Below w.heap.size w w':=by
 have hroom:=hr.room
 have hmost:=hr.most
 unfold maxLen at hmost
 have HR:=hid hr
 have HOK:=hid hok
 obtain⟨len,hle⟩:∃n,n=l.length:=⟨_,rfl⟩
 have HL:=hid hle
 have HV:=hid (var_word (len:Int) w (by omega) (by omega))
 rw[<-hle] at hn hroom|-
 clear hr hle hok
 go_enter Tryd.func82,Tryd.ntmps82
 go_wp2_with fail
 refine HV.out.mono ?_
 rintro _ W0 ⟨v0,rfl,ho0,hb0⟩
 have HO0:=hid ho0
 have HB0:=hid hb0
 clear ho0 hb0 HV
 go_wp2
 go_loopw [3,12] (fun x3 x12 wr=>∃k:Nat,k<=len∧x12= .int .i64 (k:Int)∧Hid (wr.ownsRow w.heap.size 5 1 x3 (vint (len:Int)++(l.take k).flatMap pcB).length ((vint (len:Int)++(l.take k).flatMap pcB).map (Value.int .u8)))∧Hid (Below w.heap.size w wr)) (fun _ x12 _=>len-(intOf x12).toNat)
 case atStart=>exact⟨0,by omega,rfl,by show World.ownsRow _ _ _ _ _ _ _;simpa using HO0.out,HB0.out⟩
 case round=>
  obtain⟨k,hk,rfl,HO,HB⟩:=hrel
  by_cases hlt:k<len
  ·have hkz:(k:Int)<(len:Int):=by omega
   obtain⟨b,off,rfl,hbw,hc⟩:=HR.out.cells (by rw[<-HL.out];omega)
   have hrg:=(hc k (by rw[<-HL.out];exact hlt))
   have HRG:Hid (wr.rangeAt b (off+k*33) (pcC (l.getD k pc0))):=fun j v hv=>(HB.out.cell (p:=⟨b,off+k*33+j,none⟩) hbw).trans (hrg j v hv)
   have hok:=HR.out.get (j:=k) (by rw[<-HL.out];exact hlt)
   have hnk:nOk (l.getD k pc0)=true:=List.all_eq_true.1 HOK.out _ (by simp[List.getD,List.getElem?_eq_getElem (show k<l.length by rw[<-HL.out];exact hlt)])
   have HTK:=hid (take_pc l k (by rw[<-HL.out];exact hlt))
   have HFL:Hid ((vint (len:Int)++(l.take k).flatMap pcB).length<=180000):=by
    show _<=_
    have h1:=vint10 (len:Int)
    have h2:=flat_len (l.take k) (fun x hx=>(HR.out.fits x (List.mem_of_mem_take hx)).len)
    have h3:(l.take k).length<=4096:=by simp;omega
    rw[List.length_append]
    omega
   generalize hx:l.getD k pc0=x at *
   have hxr:=of_decide_eq_true hnk
   have hx1:=hxr.1
   have hx2:=hxr.2
   have HLP:=hid (pcC_len hok.len)
   have HE:Hid ((wr.alloc (.cells (pcC x).toArray 80)).heap[wr.heap.size]?=some (.cells (pcC x).toArray 80)):=heap_alc _ _
   have hcn:(wr.alloc (.cells (pcC x).toArray 80)).cell? ⟨wr.heap.size,32,none⟩=some (.int .i64 x.2):=(Joins.cell_of_block HE.out 32).trans (by rw[List.getElem?_toArray];exact pcC_n hok.len)
   have HB1:=hid (bel_alc wr (.cells (pcC x).toArray 80))
   have HDR:Hid (Ri (wr.alloc (.cells (pcC x).toArray 80)) .u8 (some ⟨wr.heap.size,0,none⟩) 32 x.1):=
    ⟨by rw[hok.len];omega,by unfold maxLen;omega,fun _=>⟨wr.heap.size,0,rfl,by simp,fun j hj=>by
     rw[hok.len] at hj
     rw[Nat.zero_add]
     exact(Joins.cell_of_block HE.out j).trans (by rw[List.getElem?_toArray];exact pcC_d hok.len j hj)⟩,hok.u8⟩
   have HXL:=hid hok.len
   have HV:=hid (fun V=>varint_ri x.2 V (by omega) (by omega))
   have HVL:=hid (vint10 x.2)
   generalize hA:vint (len:Int)++(l.take k).flatMap pcB=A at *
   have HA:=hid hA
   clear hrg hc hok hxr hnk hA hx HE
   go_wp2_with (first | refine wpList_load_mid rfl 80 _ rfl b (off+k*33) rfl (pcC x) _ HRG.out Tryd.underlying80 rfl (by rw[HLP.out];exact Tryd.size80) ?_ | refine wpList_alloc_at rfl 80 rfl (some 5) rfl _ Tryd.zero80 wr.heap.size rfl ?_ | refine wpList_store_new rfl 80 _ _ rfl rfl wr pcZ (pcC x).toArray rfl rfl rfl (by rw[List.size_toArray,HLP.out];exact Tryd.size80) (pcZ_size HLP.out) (all_oneCell_toArray (pcC_one x)) ?_ | fail)
   refine(HV.out _).mono ?_
   rintro _ W1 ⟨a1,c1,rfl,hr1,hb1⟩
   have HB2:=hid (Bn HB1.out hb1)
   have HO1:=hid (own_later HO.out HB2.out)
   have HR1:=hid hr1
   have HS1:Hid (w.heap.size<=W1.heap.size):=Nat.le_trans HB.out.size HB2.out.size
   have HDR1:=hid (HDR.out.later hb1)
   have HBW:=hid (Bn HB.out HB2.out)
   have HNE:Hid (∀b off,(some (⟨wr.heap.size,0,none⟩:Addr))=some ⟨b,off,none⟩->some b≠u3.ownBlock):=fun b off e q=>by
    injection e with e
    injection e with e1
    have:=(HO.out.lt b q.symm).2
    omega
   clear hr1 hb1 HV HDR HB1 HB2 HO hcn
   go_wp2_with (at_builtin;refine app_any _ rfl _ _ rfl w.heap.size _ A rfl HO1.out a1 c1 (vint x.2) rfl HR1.out (by have:=HFL.out;have:=HVL.out;omega) HS1.out ?_)
   intro v2 W2 ho2 hg2
   have HO2:=hid (show W2.ownsRow w.heap.size 5 1 v2 (A++vint x.2).length ((A++vint x.2).map (Value.int .u8)) by simpa using ho2)
   have HD2:Hid (Ri W2 .u8 (some ⟨wr.heap.size,0,none⟩) 32 x.1):=HDR1.out.grown hg2 HNE.out
   have HBW2:Hid (Below w.heap.size W1 W2):=(Below.refl _ W1).grown hg2 HS1.out (fun j hj=>(HO1.out.lt j hj).1)
   have HS2:Hid (w.heap.size<=W2.heap.size):=Nat.le_trans HS1.out HBW2.out.size
   clear ho2 hg2 HO1 HR1 HDR1 HNE
   go_wp2_with (at_builtin;refine app_any _ rfl _ _ rfl w.heap.size _ (A++vint x.2) rfl HO2.out _ 32 x.1 (by rw[HXL.out];rfl) HD2.out (by have:=HFL.out;have:=HVL.out;have:=HXL.out;rw[List.length_append];omega) HS2.out ?_)
   intro v3 W3 ho3 hg3
   have HO3:=hid (show W3.ownsRow w.heap.size 5 1 v3 (A++pcB x).length ((A++pcB x).map (Value.int .u8)) by simpa [pcB,Nat.add_assoc] using ho3)
   have HB3:Hid (Below w.heap.size w W3):=(HBW.out.trans HBW2.out).trans ((Below.refl _ W2).grown hg3 HS2.out (fun j hj=>(HO2.out.lt j hj).1))
   clear ho3 hg3 HO2 HD2 HBW2 HBW
   go_wp2
   go_round
   case rel=>exact⟨k+1,by omega,by go_num,by rw[HTK.out,List.flatMap_append,<-List.append_assoc,HA.out];show World.ownsRow _ _ _ _ _ _ _;simpa using HO3.out,HB3.out⟩
   case measure=>simp[intOf];omega
  ·have hkl:k=len:=by omega
   subst hkl
   have HT:Hid (l.take k=l):=List.take_of_length_le (by rw[HL.out];exact Nat.le_refl _)
   rw[HT.out] at HO
   have HO2:Hid (wr.ownsRow w.heap.size 5 1 u3 (pcsB l).length ((pcsB l).map (Value.int .u8))):=by
    have:=HO.out
    show World.ownsRow _ _ _ _ _ _ _
    unfold pcsB
    rw[<-HL.out]
    exact this
   clear HO
   go_wp2
   go_ret
   exact⟨_,rfl,HO2.out,HB.out⟩
end Go.Proofs.YtplinkmagnihmaaDoor
