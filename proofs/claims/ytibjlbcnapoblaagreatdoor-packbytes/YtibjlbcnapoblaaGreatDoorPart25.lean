/- Contracts and facts. -/
import Derived.Test.YtibjlbcnapoblaaGreatDoorPart09
import Derived.Laws.AppendOwn
namespace Go.Proofs.YtibjlbcnapoblaaGreatDoor
set_option maxRecDepth 100000
set_option maxHeartbeats 6400000
namespace Sh
open Go.RowKit Sha
theorem Qac{w:World}{g k i:Nat}{cs:Array Value}{t:TypeId}{fr:Nat×Nat}(h:w.heap[g]?=some (.cells cs t fr))(hk:k≠g)(v:Value):(w.setCell ⟨g,i,none⟩ v).heap[k]?=w.heap[k]?:=by
 rw[setCell_eq_setRow w g i cs t fr v h]
 exact setRow_other w g k _ hk
structure Mem (w wr:World) (s bl ws:List Nat):Prop where
 st:wr.heap[w.heap.size]?=some (.cells (arr .u32 s) 95 (0,0))
 bk:wr.heap[w.heap.size+1]?=some (.cells (arr .u8 bl) 96 (0,0))
 res:wr.heap[w.heap.size+1+1]?=some (.cells (arr .u32 [0,0,0,0,0,0,0,0]) 95 (0,0))
 wv:wr.heap[w.heap.size+1+1+1]?=some (.cells (arr .u32 ws) 138 (0,0))
 bel:Below w.heap.size w wr
theorem Mem.put{w wr:World}{s bl ws:List Nat}(h:Mem w wr s bl ws)(i v:Nat):Mem w (wr.setCell ⟨w.heap.size+1+1+1,i,none⟩ (.int .u32 (v:Int))).drew s bl (ws.set i v):=by
 have e:∀k:Nat,(wr.setCell ⟨w.heap.size+1+1+1,i,none⟩ (.int .u32 (v:Int))).drew.heap[k]?=(wr.setCell ⟨w.heap.size+1+1+1,i,none⟩ (.int .u32 (v:Int))).heap[k]?:=fun k=>rfl
 refine⟨?_,?_,?_,?_,(h.bel.setCell (by simp;omega) _).drew⟩
 ·rw[e,Qac h.wv (by omega)];exact h.st
 ·rw[e,Qac h.wv (by omega)];exact h.bk
 ·rw[e,Qac h.wv (by omega)];exact h.res
 ·rw[e,Joins.block_setCell h.wv,Qdf]
theorem Mem.drew{w wr:World}{s bl ws:List Nat}(h:Mem w wr s bl ws):Mem w wr.drew s bl ws:=⟨h.st,h.bk,h.res,h.wv,h.bel.drew⟩
def wsL(bl:List Nat)(k:Nat):List Nat:=sched bl k++List.replicate (64-k) 0
theorem Qg4(bl:List Nat)(k:Nat)(h:k<=64):(wsL bl k).length=64:=by
 rw[wsL,List.length_append,Qbm,List.length_replicate];omega
theorem Xdm(bl:List Nat)(k i:Nat)(h:i<k):(wsL bl k).getD i 0=wS bl i:=by
 rw[<-Qet bl k i h,wsL]
 simp[List.getD,List.getElem?_append_left (show i<(sched bl k).length from by rw[Qbm];exact h)]
theorem Qor(bl:List Nat)(k:Nat)(h:k<64):(wsL bl k).set k (wS bl k)=wsL bl (k+1):=by
 have hl:=Qbm bl k
 rw[wsL,List.set_append_right _ _ (by omega),hl,Nat.sub_self,show 64-k=(63-k)+1 from by omega,List.replicate_succ,List.set_cons_zero,wsL,sched,List.append_assoc,show 64-(k+1)=63-k from by omega]
 rfl
theorem Qvm(bl:List Nat):wsL bl 64=sched bl 64:=by rw[wsL];simp
theorem Xjt(b0 b1 b2 b3:Nat)(h0:b0<256)(h1:b1<256)(h2:b2<256)(h3:b3<256):(b0:Int)*16777216+(b1:Int)*65536+(b2:Int)*256+(b3:Int)=((add32 (add32 (add32 (b0*16777216%4294967296) (b1*65536%4294967296)) (b2*256%4294967296)) b3:Nat):Int):=by
 unfold add32;omega
theorem Xar(bl:List Nat)(i:Nat):wS bl (i+16)=add32 (add32 (add32 (wS bl i) (sg0 (wS bl (i+1)))) (wS bl (i+9))) (sg1 (wS bl (i+14))):=by
 rw[Xhw,Qsd _ (Qh2 _ _),Qp3 _ (Qh2 _ _)]
theorem Qgm(a b:Nat)(ha:a<2^32)(hb:b<2^32):bits .xor .u32 (a:Int) (b:Int)=((a^^^b:Nat):Int):=u32_xor_nat a b ha hb
theorem Qz5(a b:Nat)(ha:a<2^32)(hb:b<2^32):bits .and .u32 (a:Int) (b:Int)=((a&&&b:Nat):Int):=u32_and_nat a b ha hb
theorem Xc2(x:Nat)(h:x<2^32):bits .xor .u32 (bits .xor .u32 ((Qhb 7 x:Nat):Int) ((Qhb 18 x:Nat):Int)) ((Qpv 3 x:Nat):Int)=((sg0 x:Nat):Int):=by
 rw[Qgm _ _ (Qbd _ _ h) (Qbd _ _ h),Qgm _ _ (Nat.xor_lt_two_pow (Qbd _ _ h) (Qbd _ _ h)) (Qo0 _ _ h),sg0]
theorem Xcx(x:Nat)(h:x<2^32):bits .xor .u32 (bits .xor .u32 ((Qhb 17 x:Nat):Int) ((Qhb 19 x:Nat):Int)) ((Qpv 10 x:Nat):Int)=((sg1 x:Nat):Int):=by
 rw[Qgm _ _ (Qbd _ _ h) (Qbd _ _ h),Qgm _ _ (Nat.xor_lt_two_pow (Qbd _ _ h) (Qbd _ _ h)) (Qo0 _ _ h),sg1]
theorem Qc2(x n:Nat)(z:Int)(w:World)(hx:x<2^32)(hn:n<=32)(hz:z=(n:Int)):Calls Tryz.prog 93 #[.int .u32 (x:Int),.int .i64 z] w fun e w'=>e= .returned (.int .u32 ((Qhb n x:Nat):Int))∧w'=w:=by
 subst hz;exact Qy6 x n w hx hn
theorem Qrz(x n:Nat)(z:Int)(w:World)(hx:x<2^32)(hn:n<=32)(hz:z=(n:Int)):Calls Tryz.prog 94 #[.int .u32 (x:Int),.int .i64 z] w fun e w'=>e= .returned (.int .u32 ((Qpv n x:Nat):Int))∧w'=w:=by
 subst hz;exact Qy2 x n w hx hn
theorem Xe5(p a q c:Nat):((p:Int)+(a:Int)+(q:Int)+(c:Int))%4294967296=((add32 (add32 (add32 p a) q) c:Nat):Int):=by
 unfold add32;omega
theorem Qad{P:Program}{ops:Array Oper}{rest:List Oper}{o:Oper}{a:Act}{w:World}{Q:Exit->Act->World->Prop}(hgd:o.guard=none)(ty:TypeId)(ho:o.op= .alloc ty)(d:Option Tmp)(hd:o.dst=d)(cs:Array Value)
 (hz:∀w,(zeroValue ty).run P w= .ok (.agg cs) w) (N:Nat) (hN:N=w.heap.size) (h:wpList P ops Q rest (a.put d (.pointer (some ⟨N,0,none⟩))) (w.alloc (.cells cs ty))):wpList P ops Q (o::rest) a w:=by
 subst hN;exact Qbo hgd ty ho d hd cs hz h
theorem Tryz.size95:(Tryz.prog.info? 95).map (·.size)=some 8:=by kernel_rfl
def z8:List Nat:=List.replicate 8 0
theorem Tryz.zero95:∀w,(zeroValue 95).run Tryz.prog w= .ok (.agg (arr .u32 z8)) w:=(zero_of_info (t:=95) (n:=8) (by kernel_rfl)).1
structure Qst (w wr:World) (gk:Nat) (s ws r:List Nat):Prop where
 st:wr.heap[w.heap.size]?=some (.cells (arr .u32 s) 95 (0,0))
 res:wr.heap[w.heap.size+1+1]?=some (.cells (arr .u32 [0,0,0,0,0,0,0,0]) 95 (0,0))
 wv:wr.heap[w.heap.size+1+1+1]?=some (.cells (arr .u32 ws) 138 (0,0))
 kv:wr.heap[gk]?=some (.cells (arr .u32 kL) 138 (0,0))
 sv:wr.heap[gk+1]?=some (.cells (arr .u32 r) 95 (0,0))
 bel:Below w.heap.size w wr
theorem Qst.drew{w wr:World}{gk:Nat}{s ws r:List Nat}(h:Qst w wr gk s ws r):Qst w wr.drew gk s ws r:=⟨h.st,h.res,h.wv,h.kv,h.sv,h.bel.drew⟩
theorem Qst.drewN{w wr:World}{gk:Nat}{s ws r:List Nat}(h:Qst w wr gk s ws r)(n:Nat):Qst w (wr.drewN n) gk s ws r:=⟨h.st,h.res,h.wv,h.kv,h.sv,Below.trans h.bel ⟨rfl,rfl,rfl,Nat.le_refl _,fun _ _=>rfl⟩⟩
theorem Qst.put{w wr:World}{gk:Nat}{s ws r:List Nat}(h:Qst w wr gk s ws r)(hg:w.heap.size+3<gk)(i v:Nat):Qst w (wr.setCell ⟨gk+1,i,none⟩ (.int .u32 (v:Int))) gk s ws (r.set i v):=by
 refine⟨?_,?_,?_,?_,?_,h.bel.setCell (by simp;omega) _⟩
 ·rw[Qac h.sv (by omega)];exact h.st
 ·rw[Qac h.sv (by omega)];exact h.res
 ·rw[Qac h.sv (by omega)];exact h.wv
 ·rw[Qac h.sv (by omega)];exact h.kv
 ·rw[Joins.block_setCell h.sv,Qdf]
theorem Qst.cells{w wr:World}{gk:Nat}{s ws:List Nat}{a b c d e f g h:Nat}(hM:Qst w wr gk s ws (St.mk a b c d e f g h).list):
 wr.cell? ⟨gk+1,0,none⟩=some (.int .u32 (a:Int))∧wr.cell? ⟨gk+1,1,none⟩=some (.int .u32 (b:Int))∧wr.cell? ⟨gk+1,2,none⟩=some (.int .u32 (c:Int))∧wr.cell? ⟨gk+1,3,none⟩=some (.int .u32 (d:Int)) ∧
 wr.cell? ⟨gk+1,4,none⟩=some (.int .u32 (e:Int))∧wr.cell? ⟨gk+1,5,none⟩=some (.int .u32 (f:Int))∧wr.cell? ⟨gk+1,6,none⟩=some (.int .u32 (g:Int))∧wr.cell? ⟨gk+1,7,none⟩=some (.int .u32 (h:Int)):=
 ⟨Joins.cell_of_block hM.sv 0,Joins.cell_of_block hM.sv 1,Joins.cell_of_block hM.sv 2,Joins.cell_of_block hM.sv 3,Joins.cell_of_block hM.sv 4,Joins.cell_of_block hM.sv 5,Joins.cell_of_block hM.sv 6,Joins.cell_of_block hM.sv 7⟩
theorem Xaq(x:Nat)(h:x<2^32):bits .xor .u32 (bits .xor .u32 ((Qhb 6 x:Nat):Int) ((Qhb 11 x:Nat):Int)) ((Qhb 25 x:Nat):Int)=((up1 x:Nat):Int):=by
 rw[Qgm _ _ (Qbd _ _ h) (Qbd _ _ h),Qgm _ _ (Nat.xor_lt_two_pow (Qbd _ _ h) (Qbd _ _ h)) (Qbd _ _ h),up1]
theorem Xaf(x:Nat)(h:x<2^32):bits .xor .u32 (bits .xor .u32 ((Qhb 2 x:Nat):Int) ((Qhb 13 x:Nat):Int)) ((Qhb 22 x:Nat):Int)=((up0 x:Nat):Int):=by
 rw[Qgm _ _ (Qbd _ _ h) (Qbd _ _ h),Qgm _ _ (Nat.xor_lt_two_pow (Qbd _ _ h) (Qbd _ _ h)) (Qbd _ _ h),up0]
theorem Xhj(e f g:Nat)(he:e<2^32)(hf:f<2^32)(hg:g<2^32):bits .xor .u32 (bits .and .u32 (e:Int) (f:Int)) (bits .and .u32 (bits .xor .u32 (if IntKind.u32.signed=true then -1 else IntKind.u32.max) (e:Int)) (g:Int))=(((e&&&f)^^^((e^^^4294967295)&&&g):Nat):Int):=by
 have hn:e^^^4294967295<2^32:=Nat.xor_lt_two_pow he (by decide)
 rw[if_neg (by decide),show IntKind.u32.max=((4294967295:Nat):Int) from rfl,Qgm _ _ (by decide) he,Nat.xor_comm 4294967295 e,Qz5 _ _ he hf,Qz5 _ _ hn hg,Qgm _ _ (Nat.and_lt_two_pow _ hf) (Nat.and_lt_two_pow _ hg)]
theorem Xaa(a b c:Nat)(ha:a<2^32)(hb:b<2^32)(hc:c<2^32):bits .xor .u32 (bits .xor .u32 (bits .and .u32 (a:Int) (b:Int)) (bits .and .u32 (a:Int) (c:Int))) (bits .and .u32 (b:Int) (c:Int))=(((a&&&b)^^^(a&&&c)^^^(b&&&c):Nat):Int):=by
 rw[Qz5 _ _ ha hb,Qz5 _ _ ha hc,Qz5 _ _ hb hc,Qgm _ _ (Nat.and_lt_two_pow _ hb) (Nat.and_lt_two_pow _ hc),Qgm _ _ (Nat.xor_lt_two_pow (Nat.and_lt_two_pow _ hb) (Nat.and_lt_two_pow _ hc)) (Nat.and_lt_two_pow _ hc)]
theorem Xhq(h u x k w:Nat):(((h:Int)+(u:Int)+(x:Int)+(k:Int))%4294967296+(w:Int))%4294967296=((add32 (add32 (add32 (add32 h u) x) k) w:Nat):Int):=by
 unfold add32;omega
theorem Xle(t u m:Nat):((t:Int)+((u:Int)+(m:Int)))%4294967296=((add32 t (add32 u m):Nat):Int):=by
 unfold add32;omega
theorem Xfq(d t:Nat):((d:Int)+(t:Int))%4294967296=((add32 d t:Nat):Int):=by
 unfold add32;omega
theorem Xkl(k:Nat):kL.getD k 0<2^32:=by
 by_cases hk:k<64
 ·have h:∀i:Fin 64,kL.getD i.val 0<2^32:=by decide +kernel
  exact h ⟨k,hk⟩
 ·rw[List.getD,List.getElem?_eq_none (by show kL.length<=k;rw[show kL.length=64 from rfl];omega)]
  decide
def Qh1(r s:List Nat):Nat->List Nat
 | 0=>r
 | j+1=>(Qh1 r s j).set j (add32 ((Qh1 r s j).getD j 0) (s.getD j 0))
theorem Qjq(r s:List Nat)(j:Nat):(Qh1 r s j).length=r.length:=by
 induction j with
 | zero=>rfl
 | succ j ih=>rw[Qh1,List.length_set,ih]
theorem Qqa(R s:St):Qh1 R.list s.list 8=(both R s).list:=rfl
theorem Xet(s:St)(bl:List Nat)(w:World)(hs:s.Ok)(hl:bl.length=64)(hb:∀j,bl.getD j 0<256):
 Calls Tryz.prog 63 #[.agg (arr .u32 s.list),.agg (arr .u8 bl)] w fun e w'=>e= .returned (.agg (arr .u32 (Sha.step s bl).list))∧Below w.heap.size w w':=by
 have HB:=hid hb
 have HL:=hid hl
 clear hb hl
 go_enter Tryz.func63,Tryz.ntmps63
 go_wp2_with (refine Qbo rfl 138 rfl (some 5) rfl (arr .u32 z64) Tryz.zero138 ?_)
 generalize hw4:(((w.alloc (.cells (arr .u32 s.list) 95)).alloc (.cells (arr .u8 bl) 96)).alloc (.cells #[.int .u32 0,.int .u32 0,.int .u32 0,.int .u32 0,.int .u32 0,.int .u32 0,.int .u32 0,.int .u32 0] 95)).alloc (.cells (arr .u32 z64) 138)=w4
 have hM:Mem w w4 s.list bl (wsL bl 0):=by
  subst hw4
  have b1:=Qab w (.cells (arr .u32 s.list) 95)
  generalize hw1:w.alloc (.cells (arr .u32 s.list) 95)=w1 at *
  have s1:w1.heap.size=w.heap.size+1:=by rw[<-hw1];simp
  have e1:w1.heap[w.heap.size]?=some (.cells (arr .u32 s.list) 95 (0,0)):=by rw[<-hw1];exact Qag _ _
  have b2:=Qab w1 (.cells (arr .u8 bl) 96)
  generalize hw2:w1.alloc (.cells (arr .u8 bl) 96)=w2 at *
  have s2:w2.heap.size=w.heap.size+1+1:=by rw[<-hw2];simp[s1]
  have e2:w2.heap[w.heap.size+1]?=some (.cells (arr .u8 bl) 96 (0,0)):=by rw[<-hw2,<-s1];exact Qag _ _
  have b3:=Qab w2 (.cells #[.int .u32 0,.int .u32 0,.int .u32 0,.int .u32 0,.int .u32 0,.int .u32 0,.int .u32 0,.int .u32 0] 95)
  generalize hw3:w2.alloc (.cells #[.int .u32 0,.int .u32 0,.int .u32 0,.int .u32 0,.int .u32 0,.int .u32 0,.int .u32 0,.int .u32 0] 95)=w3 at *
  have s3:w3.heap.size=w.heap.size+1+1+1:=by rw[<-hw3];simp[s2]
  have e3:w3.heap[w.heap.size+1+1]?=some (.cells (arr .u32 [0,0,0,0,0,0,0,0]) 95 (0,0)):=by rw[<-hw3,<-s2];exact Qag _ _
  have b4:=Qab w3 (.cells (arr .u32 z64) 138)
  have e4:(w3.alloc (.cells (arr .u32 z64) 138)).heap[w.heap.size+1+1+1]?=some (.cells (arr .u32 z64) 138 (0,0)):=by rw[<-s3];exact Qag _ _
  refine⟨?_,?_,?_,e4,Bn (Bn (Bn b1 b2) b3) b4⟩
  ·rw[b4.block _ (by omega),b3.block _ (by omega),b2.block _ (by omega)];exact e1
  ·rw[b4.block _ (by omega),b3.block _ (by omega)];exact e2
  ·rw[b4.block _ (by omega)];exact e3
 clear hw4
 go_loopw [6] (fun i wr=>∃k:Nat,k<=16∧i= .int .i64 k∧Mem w wr s.list bl (wsL bl k)) (fun i _=>16-(intOf i).toNat)
 case atStart=>exact⟨0,by omega,rfl,hM⟩
 case round=>
  obtain⟨k,hk,rfl,hM⟩:=hrel
  by_cases hlt:k<16
  ·have hk16:(k:Int)<16:=by omega
   have hlen:=HL.out
   have c0:=(Joins.cell_of_block hM.bk (4*k)).trans (Qas .u8 bl _ (by omega))
   have c1:=(Joins.cell_of_block hM.bk (4*k+1)).trans (Qas .u8 bl _ (by omega))
   have c2:=(Joins.cell_of_block hM.bk (4*k+2)).trans (Qas .u8 bl _ (by omega))
   have c3:=(Joins.cell_of_block hM.bk (4*k+3)).trans (Qas .u8 bl _ (by omega))
   have q0:=HB.out (4*k)
   have q1:=HB.out (4*k+1)
   have q2:=HB.out (4*k+2)
   have q3:=HB.out (4*k+3)
   have HV:=hid (Xjt _ _ _ _ q0 q1 q2 q3)
   have HE:Hid (wS bl k=be4 bl k):=Xg8 bl k hlt
   have hwl:=Qg4 bl k (by omega)
   have cw:=(Joins.cell_of_block hM.wv k).trans (Qas .u32 _ k (by omega))
   have fw:=Joins.unfrozen_of_block hM.wv k
   have hput:=hM.put k (wS bl k)
   rw[Qor bl k (by omega),HE.out,be4] at hput
   have HP:=hid hput
   clear hput hM hlen hwl
   generalize bl.getD (4*k) 0=b0 at *
   generalize bl.getD (4*k+1) 0=b1 at *
   generalize bl.getD (4*k+2) 0=b2 at *
   generalize bl.getD (4*k+3) 0=b3 at *
   generalize (wsL bl k).getD k 0=old at *
   go_wp2_with fail
   go_region
   rw[HV.out]
   generalize hW:(wr.setCell ⟨w.heap.size+1+1+1,k,none⟩ (.int .u32 ((add32 (add32 (add32 (b0*16777216%4294967296) (b1*65536%4294967296)) (b2*256%4294967296)) b3:Nat):Int))).drew=W at *
   go_wp2
   go_roundw
   case rel=>exact⟨k+1,by omega,by go_num,HP.out⟩
   case measure=>simp[intOf];omega
  obtain rfl:k=16:=by omega
  have HM:=hid hM
  clear hM
  go_wp2_with fail
  rw[show((16:Nat):Int)=16 from rfl]
  go_loopw [7] (fun i wr=>∃j:Nat,j<=48∧i= .int .i64 ((j:Int)+16)∧Mem w wr s.list bl (wsL bl (j+16))) (fun i _=>64-(intOf i).toNat)
  case atStart=>exact⟨0,by omega,rfl,HM.out⟩
  case round=>
   obtain⟨j,hj,rfl,hM⟩:=hrel
   by_cases hlt:j<48
   ·have hj48:(j:Int)+16<64:=by omega
    have hwl:=Qg4 bl (j+16) (by omega)
    have d0:=(Joins.cell_of_block hM.wv j).trans (Qas .u32 _ j (by omega))
    have d1:=(Joins.cell_of_block hM.wv (j+1)).trans (Qas .u32 _ _ (by omega))
    have d9:=(Joins.cell_of_block hM.wv (j+9)).trans (Qas .u32 _ _ (by omega))
    have d14:=(Joins.cell_of_block hM.wv (j+14)).trans (Qas .u32 _ _ (by omega))
    have dw:=(Joins.cell_of_block hM.wv (j+16)).trans (Qas .u32 _ _ (by omega))
    have fw:=Joins.unfrozen_of_block hM.wv (j+16)
    rw[Xdm bl (j+16) _ (by omega)] at d0 d1 d9 d14
    have x0:=Qh2 bl j
    have x1:=Qh2 bl (j+1)
    have x9:=Qh2 bl (j+9)
    have x14:=Qh2 bl (j+14)
    have HN:=hid (Xar bl j)
    have HS0:=hid (Xc2 _ x1)
    have HS1:=hid (Xcx _ x14)
    have HSM:=hid (Xe5 (wS bl j) (sg0 (wS bl (j+1))) (wS bl (j+9)) (sg1 (wS bl (j+14))))
    have y0:=Xhc _ x1
    have y1:=Xhd _ x14
    have hput:=fun W (h:Mem w W s.list bl (wsL bl (j+16)))=>h.put (j+16) (wS bl (j+16))
    rw[Qor bl (j+16) (by omega),HN.out] at hput
    have HP:=hid hput
    have HM:=hid hM
    clear hput hM hwl
    generalize (wsL bl (j+16)).getD (j+16) 0=old at *
    generalize wS bl j=v0 at *
    generalize wS bl (j+1)=v1 at *
    generalize wS bl (j+9)=v9 at *
    generalize wS bl (j+14)=v14 at *
    go_wp2_with fail
    go_region
    have HM1:=hid HM.out.drew
    generalize hW1:wr.drew=W1 at *
    have e0:W1.cell? ⟨w.heap.size+1+1+1,j,none⟩=some (.int .u32 (v0:Int)):=by rw[<-hW1];exact d0
    have e9:W1.cell? ⟨w.heap.size+1+1+1,j+9,none⟩=some (.int .u32 (v9:Int)):=by rw[<-hW1];exact d9
    have ew:W1.cell? ⟨w.heap.size+1+1+1,j+16,none⟩=some (.int .u32 (old:Int)):=by rw[<-hW1];exact dw
    have ef:W1.frozen? ⟨w.heap.size+1+1+1,j+16,none⟩=false:=by rw[<-hW1];exact fw
    clear d0 d1 d9 d14 dw fw HM hW1
    go_wp2_with fail
    go_at_call 93
    refine(Qc2 v1 7 _ _ x1 (by decide) rfl).mono ?_
    rintro _ w' ⟨rfl,hw⟩
    obtain rfl:=hw.symm
    clear hw
    go_wp2_with fail
    go_at_call 93
    refine(Qc2 v1 18 _ _ x1 (by decide) rfl).mono ?_
    rintro _ w' ⟨rfl,hw⟩
    obtain rfl:=hw.symm
    clear hw
    go_wp2_with fail
    go_at_call 94
    refine(Qrz v1 3 _ _ x1 (by decide) rfl).mono ?_
    rintro _ w' ⟨rfl,hw⟩
    obtain rfl:=hw.symm
    clear hw
    go_wp2_with fail
    rw[HS0.out]
    go_at_call 93
    refine(Qc2 v14 17 _ _ x14 (by decide) rfl).mono ?_
    rintro _ w' ⟨rfl,hw⟩
    obtain rfl:=hw.symm
    clear hw
    go_wp2_with fail
    go_at_call 93
    refine(Qc2 v14 19 _ _ x14 (by decide) rfl).mono ?_
    rintro _ w' ⟨rfl,hw⟩
    obtain rfl:=hw.symm
    clear hw
    go_wp2_with fail
    go_at_call 94
    refine(Qrz v14 10 _ _ x14 (by decide) rfl).mono ?_
    rintro _ w' ⟨rfl,hw⟩
    obtain rfl:=hw.symm
    clear hw
    go_wp2_with fail
    rw[HS1.out]
    generalize sg0 v1=t0 at *
    generalize sg1 v14=t1 at *
    go_region
    rw[HSM.out]
    have HP1:=hid (HP.out _ HM1.out)
    generalize hW2:(W1.setCell ⟨w.heap.size+1+1+1,j+16,none⟩ (.int .u32 ((add32 (add32 (add32 v0 t0) v9) t1:Nat):Int))).drew=W2 at *
    clear hW2
    go_wp2
    go_roundw
    case rel=>exact⟨j+1,by omega,by go_num,by rw[show j+1+16=j+16+1 from by omega];exact HP1.out⟩
    case measure=>simp[intOf];omega
   ·obtain rfl:j=48:=by omega
    have hM':=hM
    rw[show 48+16=64 from rfl,Qvm] at hM'
    have HM:=hid hM'
    clear hM hM'
    go_wp2_with fail
    rw[show((48:Nat):Int)+16=64 from rfl]
    go_at_call 95
    refine(Qoi _).mono ?_
    rintro _ w5 ⟨rfl,hb5⟩
    have hsz5:w.heap.size+1+1+1<w5.heap.size:=by
     have h1:=hb5.size
     have h2:w.heap.size+1+1+1<wr.heap.size:=(Array.getElem?_eq_some_iff.1 HM.out.wv).1
     omega
    have hgA:=Qag w5 (.cells (arr .u32 z64) 138)
    have hgB:((w5.alloc (.cells (arr .u32 z64) 138)).setRow w5.heap.size (arr .u32 kL)).heap[w.heap.size]?=some (.cells (arr .u32 s.list) 95 (0,0)):=by
     rw[setRow_other _ _ _ _ (by omega),heap_alloc_old _ _ (by omega),hb5.block _ (by have h2:w.heap.size+1+1+1<wr.heap.size:=(Array.getElem?_eq_some_iff.1 HM.out.wv).1;omega)]
     exact HM.out.st
    have hgC:(((w5.alloc (.cells (arr .u32 z64) 138)).setRow w5.heap.size (arr .u32 kL)).alloc (.cells (arr .u32 z8) 95)).heap[w5.heap.size+1]?=some (.cells (arr .u32 z8) 95 (0,0)):=by
     have e:((w5.alloc (.cells (arr .u32 z64) 138)).setRow w5.heap.size (arr .u32 kL)).heap.size=w5.heap.size+1:=by simp[World.setRow]
     rw[<-e];exact Qag _ _
    have hM3:Qst w ((((w5.alloc (.cells (arr .u32 z64) 138)).setRow w5.heap.size (arr .u32 kL)).alloc (.cells (arr .u32 z8) 95)).setRow (w5.heap.size+1) (arr .u32 s.list)) w5.heap.size s.list (sched bl 64) s.list:=by
     have h2:w.heap.size+1+1+1<wr.heap.size:=(Array.getElem?_eq_some_iff.1 HM.out.wv).1
     have hB:Below w5.heap.size w5 ((((w5.alloc (.cells (arr .u32 z64) 138)).setRow w5.heap.size (arr .u32 kL)).alloc (.cells (arr .u32 z8) 95)).setRow (w5.heap.size+1) (arr .u32 s.list)):=below_setRow ((below_setRow (Qab _ _) (Nat.le_refl _) _).alloc (by simp[World.setRow]) _) (by omega) _
     have hB':=hb5.trans (hB.mono hb5.size)
     refine⟨?_,?_,?_,?_,setRow_heap _ _ _ _ _ _ hgC,Bn HM.out.bel hB'⟩
     ·rw[hB'.block _ (by omega)];exact HM.out.st
     ·rw[hB'.block _ (by omega)];exact HM.out.res
     ·rw[hB'.block _ (by omega)];exact HM.out.wv
     ·rw[setRow_other _ _ _ _ (by omega),heap_alloc_old _ _ (by simp[World.setRow])]
      exact setRow_heap _ _ _ _ _ _ hgA
    go_wp2_with (first
     | (refine Qbo rfl 138 rfl (some 12) rfl (arr .u32 z64) Tryz.zero138 ?_)
     | (refine wpList_store_rowTo rfl 138 _ _ rfl rfl w5.heap.size (arr .u32 kL) rfl rfl 138 _ hgA (by kernel_rfl) rfl (Qbe _ _) ?_)
     | (refine wpList_load_row rfl 95 _ rfl w.heap.size rfl 95 (arr .u32 s.list) (0,0) _ hgB Tryz.underlying95 rfl (by kernel_rfl) ?_)
     | (refine Qad rfl 95 rfl (some 13) rfl (arr .u32 z8) Tryz.zero95 (w5.heap.size+1) (by simp[World.setRow]) ?_)
     | (refine wpList_store_rowTo rfl 95 _ _ rfl rfl (w5.heap.size+1) (arr .u32 s.list) rfl rfl 95 _ hgC (by kernel_rfl) rfl (Qbe _ _) ?_))
    generalize hw6:(((w5.alloc (.cells (arr .u32 z64) 138)).setRow w5.heap.size (arr .u32 kL)).alloc (.cells (arr .u32 z8) 95)).setRow (w5.heap.size+1) (arr .u32 s.list)=w6 at *
    generalize hgk:w5.heap.size=gk at *
    have HM3:=hid hM3
    have hgk3:w.heap.size+3<gk:=by omega
    clear hw6 hgA hgB hgC hM3 HM hgk hb5 hsz5
    go_loopw [14] (fun i wr=>∃k:Nat,k<=64∧i= .int .i64 k∧Qst w wr gk s.list (sched bl 64) (rounds (sched bl 64) s k).list) (fun i _=>64-(intOf i).toNat)
    case atStart=>exact⟨0,by omega,rfl,HM3.out⟩
    case round=>
     obtain⟨k,hk,rfl,hM⟩:=hrel
     by_cases hlt:k<64
     ·have hk64:(k:Int)<64:=by omega
      have hok:=Qq2 (sched bl 64) s hs k
      have ck:=(Joins.cell_of_block hM.kv k).trans (Qas .u32 kL k hlt)
      have cw:=(Joins.cell_of_block hM.wv k).trans (Qas .u32 _ k (by rw[Qbm];exact hlt))
      have hkl:kL.getD k 0<2^32:=Xkl k
      have hwl:(sched bl 64).getD k 0<2^32:=by rw[Qet _ _ _ hlt];exact Qh2 _ _
      have HR:Hid (rounds (sched bl 64) s (k+1)=rnd (rounds (sched bl 64) s k) (kL.getD k 0) ((sched bl 64).getD k 0)):=rfl
      generalize kL.getD k 0=kk at *
      generalize (sched bl 64).getD k 0=ww at *
      generalize rounds (sched bl 64) s k=r at *
      obtain⟨a,b,c,d,e,f,g,h8⟩:=r
      have HM:=hid hM
      obtain⟨s0,s1,s2,s3,s4,s5,s6,s7⟩:=hM.cells
      have oa:=hok.a
      have ob:=hok.b
      have oc:=hok.c
      have od:=hok.d
      have oe:=hok.e
      have of:=hok.f
      have og:=hok.g
      have oh:=hok.h
      simp only at oa ob oc od oe of og oh
      have HU1:=hid (Xaq e oe)
      have HU0:=hid (Xaf a oa)
      clear hM hok
      go_wp2_with fail
      go_quiet ((go_at_call 93;first | exact Calls.quiet_of_same (Qc2 e 6 _ _ oe (by decide) rfl) | exact Calls.quiet_of_same (Qc2 e 11 _ _ oe (by decide) rfl) | exact Calls.quiet_of_same (Qc2 e 25 _ _ oe (by decide) rfl)))
      rw[HU1.out]
      have hM1:=HM.out.drewN nq
      have ck1:(wr.drewN nq).cell? ⟨gk,k,none⟩=some (.int .u32 (kk:Int)):=ck
      have cw1:(wr.drewN nq).cell? ⟨w.heap.size+1+1+1,k,none⟩=some (.int .u32 (ww:Int)):=cw
      clear s0 s1 s2 s3 s4 s5 s6 s7 HM ck cw
      generalize wr.drewN nq=W1 at *
      have HM1:=hid hM1
      obtain⟨s0,s1,s2,s3,s4,s5,s6,s7⟩:=hM1.cells
      clear hM1
      have ou1:=Xkc e oe
      generalize hu1:up1 e=u1e at *
      have HUE:=hid hu1
      clear hu1
      go_wp2_with fail
      go_quiet (fail)
      have HC:=hid (Xhj e f g oe of og)
      have HMJ:=hid (Xaa a b c oa ob oc)
      rw[HC.out,Xhq]
      have HT:Hid (t1F ⟨a,b,c,d,e,f,g,h8⟩ kk ww=add32 (add32 (add32 (add32 h8 (up1 e)) ((e&&&f)^^^((e^^^4294967295)&&&g))) kk) ww):=rfl
      have hM2:=HM1.out.drewN nq
      clear s0 s1 s2 s3 s4 s5 s6 s7 HM1 ck1 cw1
      generalize W1.drewN nq=W2 at *
      have HM2:=hid hM2
      obtain⟨s0,s1,s2,s3,s4,s5,s6,s7⟩:=hM2.cells
      clear hM2
      have ot1:=Qcn (add32 (add32 (add32 h8 u1e) ((e&&&f)^^^((e^^^4294967295)&&&g))) kk) ww
      generalize ht1:add32 (add32 (add32 (add32 h8 u1e) ((e&&&f)^^^((e^^^4294967295)&&&g))) kk) ww=t1 at *
      have HT1:=hid ht1
      clear ht1
      go_wp2_with fail
      go_quiet ((go_at_call 93;first | exact Calls.quiet_of_same (Qc2 a 2 _ _ oa (by decide) rfl) | exact Calls.quiet_of_same (Qc2 a 13 _ _ oa (by decide) rfl) | exact Calls.quiet_of_same (Qc2 a 22 _ _ oa (by decide) rfl)))
      rw[HU0.out]
      have hM3:=HM2.out.drewN nq
      clear s0 s1 s2 s3 s4 s5 s6 s7 HM2
      generalize W2.drewN nq=W3 at *
      have HM3:=hid hM3
      obtain⟨s0,s1,s2,s3,s4,s5,s6,s7⟩:=hM3.cells
      have hsv:=hM3.sv
      clear hM3
      have ou0:=Xj9 a oa
      generalize hu0:up0 a=u0a at *
      have HUA:=hid hu0
      clear hu0
      have fz:=Joins.unfrozen_of_block hsv
      have HSV:=hid hsv
      clear hsv
      have HT2:Hid (t2F ⟨a,b,c,d,e,f,g,h8⟩=add32 (up0 a) ((a&&&b)^^^(a&&&c)^^^(b&&&c))):=rfl
      go_wp2
      rw[HMJ.out,Xle,Xfq]
      have hR:rounds (sched bl 64) s (k+1)=⟨add32 t1 (add32 u0a ((a&&&b)^^^(a&&&c)^^^(b&&&c))),a,b,c,add32 d t1,e,f,g⟩:=by
       rw[HR.out,rnd,HT.out,HUE.out,HT1.out,HT2.out,HUA.out]
      refine⟨⟨k+1,by omega,by go_num,?_⟩,by simp[intOf];omega⟩
      rw[hR]
      exact(((((((HM3.out.put hgk3 0 _).put hgk3 1 a).put hgk3 2 b).put hgk3 3 c).put hgk3 4 _).put hgk3 5 e).put hgk3 6 f).put hgk3 7 g
     ·obtain rfl:k=64:=by omega
      have HM:=hid hM
      clear hM
      go_wp2_with fail
      rw[show((64:Nat):Int)=64 from rfl]
      have HSTEP:Hid (Sha.step s bl=both (rounds (sched bl 64) s 64) s):=rfl
      generalize rounds (sched bl 64) s 64=R at *
      go_loopw [19] (fun i wr=>∃j:Nat,j<=8∧i= .int .i64 j∧Qst w wr gk s.list (sched bl 64) (Qh1 R.list s.list j)) (fun i _=>8-(intOf i).toNat)
      case atStart=>exact⟨0,by omega,rfl,HM.out⟩
      case round=>
       obtain⟨j,hj,rfl,hM⟩:=hrel
       by_cases hlt:j<8
       ·have hj8:(j:Int)<8:=by omega
        have hlen:=Qjq R.list s.list j
        have d0:=(Joins.cell_of_block hM.sv j).trans (Qas .u32 _ j (by rw[hlen];exact hlt))
        have d1:=(Joins.cell_of_block hM.st j).trans (Qas .u32 s.list j hlt)
        have fz:=Joins.unfrozen_of_block hM.sv j
        have hput:=(hM.put hgk3 j (add32 ((Qh1 R.list s.list j).getD j 0) (s.list.getD j 0))).drew
        have HP:Hid (Qst w _ gk s.list (sched bl 64) (Qh1 R.list s.list (j+1))):=hput
        have HV:=hid (Xfq ((Qh1 R.list s.list j).getD j 0) (s.list.getD j 0))
        clear hput hM hlen
        generalize (Qh1 R.list s.list j).getD j 0=p at *
        generalize s.list.getD j 0=q at *
        go_wp2_with fail
        go_region
        rw[HV.out]
        generalize hW:(wr.setCell ⟨gk+1,j,none⟩ (.int .u32 ((add32 p q:Nat):Int))).drew=W at *
        clear hW
        go_wp2
        go_roundw
        case rel=>exact⟨j+1,by omega,by go_num,HP.out⟩
        case measure=>simp[intOf];omega
       ·obtain rfl:j=8:=by omega
        rw[Qqa,<-HSTEP.out] at hM
        have hsv:=hM.sv
        have hres:=hM.res
        have hbel:=hM.bel
        have hlS:(arr .u32 (Sha.step s bl).list).size=8:=Qav _ _
        clear hM HM
        go_wp2_with (first
         | (refine wpList_load_row rfl 95 _ rfl (gk+1) rfl 95 (arr .u32 (Sha.step s bl).list) (0,0) _ hsv Tryz.underlying95 rfl (by rw[hlS];exact Tryz.size95) ?_)
         | (refine wpList_store_rowTo rfl 95 _ _ rfl rfl (w.heap.size+1+1) (arr .u32 (Sha.step s bl).list) rfl rfl 95 _ hres (by rw[hlS];exact Tryz.size95) (by rw[hlS];rfl) (Qbe _ _) ?_))
        refine bodyPost_ret (results_cell_row (ty:=95) rfl _ _ _ _ _ _ _ rfl (setRow_heap _ _ _ _ _ _ hres) Tryz.underlying95 rfl (by rw[hlS];exact Tryz.size95)) rfl ?_
        exact⟨rfl,below_setRow hbel (by omega) _⟩
end Sh
namespace Sh
open Go.RowKit Sha
theorem Qe1(s:St):(Sha.bytes s).length=32:=rfl
theorem Qzz(s:St):∀i,i<32->(Sha.bytes s).getD i 0=s.list.getD (i/4) 0/256^(3-i%4)%256
 | 0,_=>rfl
 | 1,_=>rfl
 | 2,_=>rfl
 | 3,_=>by show s.a%256=s.a/256^0%256;rw[Nat.pow_zero,Nat.div_one]
 | 4,_=>rfl
 | 5,_=>rfl
 | 6,_=>rfl
 | 7,_=>by show s.b%256=s.b/256^0%256;rw[Nat.pow_zero,Nat.div_one]
 | 8,_=>rfl
 | 9,_=>rfl
 | 10,_=>rfl
 | 11,_=>by show s.c%256=s.c/256^0%256;rw[Nat.pow_zero,Nat.div_one]
 | 12,_=>rfl
 | 13,_=>rfl
 | 14,_=>rfl
 | 15,_=>by show s.d%256=s.d/256^0%256;rw[Nat.pow_zero,Nat.div_one]
 | 16,_=>rfl
 | 17,_=>rfl
 | 18,_=>rfl
 | 19,_=>by show s.e%256=s.e/256^0%256;rw[Nat.pow_zero,Nat.div_one]
 | 20,_=>rfl
 | 21,_=>rfl
 | 22,_=>rfl
 | 23,_=>by show s.f%256=s.f/256^0%256;rw[Nat.pow_zero,Nat.div_one]
 | 24,_=>rfl
 | 25,_=>rfl
 | 26,_=>rfl
 | 27,_=>by show s.g%256=s.g/256^0%256;rw[Nat.pow_zero,Nat.div_one]
 | 28,_=>rfl
 | 29,_=>rfl
 | 30,_=>rfl
 | 31,_=>by show s.h%256=s.h/256^0%256;rw[Nat.pow_zero,Nat.div_one]
 | n+32,h=>absurd h (by omega)
def z32:List Nat:=List.replicate 32 0
theorem Tryz.zero36:∀w,(zeroValue 36).run Tryz.prog w= .ok (.agg (arr .u8 z32)) w:=(zero_of_info (t:=36) (n:=32) (by kernel_rfl)).1
theorem Tryz.size36:(Tryz.prog.info? 36).map (·.size)=some 32:=by kernel_rfl
structure Xkq (w wr:World) (s d:List Nat):Prop where
 st:wr.heap[w.heap.size]?=some (.cells (arr .u32 s) 95 (0,0))
 res:wr.heap[w.heap.size+1]?=some (.cells (arr .u8 z32) 36 (0,0))
 dv:wr.heap[w.heap.size+1+1]?=some (.cells (arr .u8 d) 36 (0,0))
 bel:Below w.heap.size w wr
theorem Xkq.put{w wr:World}{s d:List Nat}(h:Xkq w wr s d)(i v:Nat):Xkq w (wr.setCell ⟨w.heap.size+1+1,i,none⟩ (.int .u8 (v:Int))) s (d.set i v):=by
 refine⟨?_,?_,?_,h.bel.setCell (by simp;omega) _⟩
 ·rw[Qac h.dv (by omega)];exact h.st
 ·rw[Qac h.dv (by omega)];exact h.res
 ·rw[Joins.block_setCell h.dv,Qdf]
def Qef(n:Nat)(l:List Nat)(i:Nat):List Nat:=l.take i++List.replicate (n-i) 0
theorem Qgz(n:Nat)(l:List Nat)(i:Nat)(hl:l.length=n)(hi:i<=n):(Qef n l i).length=n:=by simp[Qef];omega
theorem Qrh(n:Nat)(l:List Nat)(i:Nat)(hl:l.length=n)(hi:i<n):(Qef n l i).set i (l.getD i 0)=Qef n l (i+1):=by
 unfold Qef
 rw[List.set_append_right _ _ (by simp;omega),show i-(l.take i).length=0 from by simp;omega,show n-i=(n-(i+1))+1 from by omega,List.replicate_succ,List.set_cons_zero]
 have e:l.getD i 0=l[i]'(by omega):=by simp[List.getD,List.getElem?_eq_getElem (show i<l.length from by omega)]
 rw[e,List.take_succ_eq_append_getElem (show i<l.length from by omega),List.append_assoc]
 rfl
theorem Qi7(n:Nat)(l:List Nat)(hl:l.length=n):Qef n l n=l:=by simp[Qef,<-hl]
theorem Qi9(n:Nat)(l:List Nat):Qef n l 0=List.replicate n 0:=by simp[Qef]
theorem Xai(s:St)(h:s.Ok)(i:Nat):s.list.getD i 0<2^32:=by
 match i with
 | 0=>exact h.a
 | 1=>exact h.b
 | 2=>exact h.c
 | 3=>exact h.d
 | 4=>exact h.e
 | 5=>exact h.f
 | 6=>exact h.g
 | 7=>exact h.h
 | n+8=>exact Nat.two_pow_pos 32
theorem Xjb(x m:Nat):((x/256^m:Nat):Int)/256=((x/256^(m+1):Nat):Int):=by
 rw[Nat.pow_succ,<-Nat.div_div_eq_div_mul];omega
theorem Xcn(s:St)(w:World)(hs:s.Ok):Calls Tryz.prog 64 #[.agg (arr .u32 s.list)] w fun e w'=>e= .returned (.agg (arr .u8 (Sha.bytes s)))∧Below w.heap.size w w':=by
 have HSL:=hid (Xai s hs)
 have HBG:=hid (Qzz s)
 have HBL:=hid (Qe1 s)
 have hM:Xkq w (((w.alloc (.cells (arr .u32 s.list) 95)).alloc (.cells (arr .u8 z32) 36)).alloc (.cells (arr .u8 z32) 36)) s.list (Qef 32 (Sha.bytes s) 0):=by
  rw[Qi9]
  have b1:=Qab w (.cells (arr .u32 s.list) 95)
  generalize hw1:w.alloc (.cells (arr .u32 s.list) 95)=w1 at *
  have s1:w1.heap.size=w.heap.size+1:=by rw[<-hw1];simp
  have e1:w1.heap[w.heap.size]?=some (.cells (arr .u32 s.list) 95 (0,0)):=by rw[<-hw1];exact Qag _ _
  have b2:=Qab w1 (.cells (arr .u8 z32) 36)
  generalize hw2:w1.alloc (.cells (arr .u8 z32) 36)=w2 at *
  have s2:w2.heap.size=w.heap.size+1+1:=by rw[<-hw2];simp[s1]
  have e2:w2.heap[w.heap.size+1]?=some (.cells (arr .u8 z32) 36 (0,0)):=by rw[<-hw2,<-s1];exact Qag _ _
  have b3:=Qab w2 (.cells (arr .u8 z32) 36)
  refine⟨?_,?_,?_,Bn (Bn b1 b2) b3⟩
  ·rw[b3.block _ (by omega),b2.block _ (by omega)];exact e1
  ·rw[b3.block _ (by omega)];exact e2
  ·rw[<-s2];exact Qag _ _
 go_enter Tryz.func64,Tryz.ntmps64
 go_wp2_with (first
  | (refine Qad rfl 36 rfl (some 2) rfl (arr .u8 z32) Tryz.zero36 (w.heap.size+1) (by simp) ?_)
  | (refine Qad rfl 36 rfl (some 3) rfl (arr .u8 z32) Tryz.zero36 (w.heap.size+1+1) (by simp) ?_))
 generalize ((w.alloc (.cells (arr .u32 s.list) 95)).alloc (.cells (arr .u8 z32) 36)).alloc (.cells (arr .u8 z32) 36)=w3 at *
 go_loopw [4] (fun i wr=>∃k:Nat,k<=32∧i= .int .i64 k∧Xkq w wr s.list (Qef 32 (Sha.bytes s) k)) (fun i _=>32-(intOf i).toNat)
 case atStart=>exact⟨0,by omega,rfl,hM⟩
 case round=>
  obtain⟨k,hk,rfl,hM⟩:=hrel
  by_cases hlt:k<32
  ·have hk32:(k:Int)<32:=by omega
   have hq:k/4<s.list.length:=by show k/4<8;omega
   have c0:=(Joins.cell_of_block hM.st (k/4)).trans (Qas .u32 s.list _ hq)
   have hx:=HSL.out (k/4)
   have HG:=hid (HBG.out k hlt)
   have hfl:=Qgz 32 (Sha.bytes s) k HBL.out hk
   have c1:=(Joins.cell_of_block hM.dv k).trans (Qas .u8 _ k (by omega))
   have fz:=Joins.unfrozen_of_block hM.dv k
   have hput:=hM.put k ((Sha.bytes s).getD k 0)
   rw[Qrh 32 (Sha.bytes s) k HBL.out hlt,HG.out] at hput
   have HP:=hid hput
   clear hput hM hfl hq
   generalize s.list.getD (k/4) 0=X at *
   generalize (Qef 32 (Sha.bytes s) k).getD k 0=old at *
   have hq':((k:Int)/4).toNat=k/4:=by omega
   go_wp2_with fail
   go_loop [5,6] (fun x i=>∃m:Nat,k%4<=m∧m<=3∧i= .int .i64 m∧x= .int .u32 ((X/256^(m-k%4):Nat):Int)) (fun _ i=>3-(intOf i).toNat)
   case atStart=>exact⟨k%4,by omega,by omega,by go_num,by rw[Nat.sub_self,Nat.pow_zero,Nat.div_one]⟩
   case round=>
    obtain⟨m,hm1,hm2,rfl,rfl⟩:=hrel
    by_cases hm3:m<3
    ·have hm3':(m:Int)<3:=by omega
     have HQ:=hid (Xjb X (m-k%4))
     have hxl:X/256^(m-k%4)<2^32:=Nat.lt_of_le_of_lt (Nat.div_le_self _ _) hx
     generalize X/256^(m-k%4)=y at *
     go_wp2
     go_round
     case rel=>exact⟨m+1,by omega,by omega,by go_num,by rw[HQ.out,show m+1-k%4=m-k%4+1 from by omega]⟩
     case measure=>simp[intOf];omega
    ·obtain rfl:m=3:=by omega
     have hxl:X/256^(3-k%4)<2^32:=Nat.lt_of_le_of_lt (Nat.div_le_self _ _) hx
     have HI:Hid (((X/256^(3-k%4):Nat):Int)%256=((X/256^(3-k%4)%256:Nat):Int)):=by
      show _=_
      omega
     generalize X/256^(3-k%4)=y at *
     go_wp2
     rw[HI.out]
     exact⟨⟨k+1,by omega,by go_num,HP.out⟩,by simp[intOf];omega⟩
  ·obtain rfl:k=32:=by omega
   rw[Qi7 32 _ HBL.out] at hM
   have hres:=hM.res
   have hdv:=hM.dv
   have hbel:=hM.bel
   have hsz:(arr .u8 (Sha.bytes s)).size=32:=Qav _ _
   clear hM
   go_wp2_with (first
    | (refine wpList_load_row rfl 36 _ rfl (w.heap.size+1+1) rfl 36 (arr .u8 (Sha.bytes s)) (0,0) _ hdv Tryz.underlying36 rfl (by rw[hsz];exact Tryz.size36) ?_)
    | (refine wpList_store_rowTo rfl 36 _ _ rfl rfl (w.heap.size+1) (arr .u8 (Sha.bytes s)) rfl rfl 36 _ hres (by rw[hsz];exact Tryz.size36) (by rw[hsz];rfl) (Qbe _ _) ?_))
   refine bodyPost_ret (results_cell_row (ty:=36) rfl _ _ _ _ _ _ _ rfl (setRow_heap _ _ _ _ _ _ hres) Tryz.underlying36 rfl (by rw[hsz];exact Tryz.size36)) rfl ?_
   exact⟨rfl,below_setRow hbel (by omega) _⟩
end Sh
namespace Sh
open Go.RowKit Sha
theorem Tryz.info5:(Tryz.prog.info? 5).map (fun i=>(i.zero,i.size,i.bytes))=some (some (.int .u8 0),1,1):=by kernel_rfl
def V(l:List Nat):List Value:=l.map (fun z:Nat=>Value.int .u8 (z:Int))
theorem Xgt(l:List Nat)(z:Nat):V l++ [.int .u8 (z:Int)]=V (l++ [z]):=by simp[V]
def Xlv:Value->Nat
 | .slice _ n _=>n
 | _=>0
theorem Xfe{w:World}{B e n:Nat}{v:Value}{xs:List Value}(h:w.ownsRow B e 1 v n xs):Xlv v=n:=by
 rcases h.2 with ⟨rfl,rfl⟩ | ⟨g,cap,cur,rfl,_⟩
 ·rfl
 ·rfl
theorem Xb4(w:World)(z:Nat):(w.alloc (.cells #[.int .u8 (z:Int)] 5)).ownsRow w.heap.size 5 1 (.slice (some ⟨w.heap.size,0,none⟩) 1 1) 1 (V [z]):=
 ⟨rfl,Or.inr ⟨w.heap.size,1,#[.int .u8 (z:Int)],rfl,Nat.le_refl _,Qag w _,Nat.le_refl _,by unfold maxLen;omega,rfl,rfl⟩⟩
theorem Qlc(w:World)(v:Value):∀(j:Nat) (u:Value),[v][j]?=some u->(w.alloc (.cells #[v] 5)).cell? (Addr.add ⟨w.heap.size,0,none⟩ j)=some u:=by
 intro j u h
 match j,h with
 | 0,h=>simp at h;subst h;simp[Addr.add]
theorem one_cell(z:Int):∀u ∈ [Value.int .u8 z],u.oneCell'=true:=by
 intro u hu
 simp at hu
 subst hu
 rfl
def zeroes(n:Nat):Nat:=(119-n%64)%64
theorem Qta(n z:Nat)(hz:z<=zeroes n):(n%64+(z+1)+8)%64=0↔z=zeroes n:=by
 unfold zeroes at *;omega
def Qey(n i:Nat):List Nat:=(List.range i).map fun i=>(8*n)%2^64/256^(7-i)%256
theorem Qwp(n i:Nat):Qey n (i+1)=Qey n i++ [(8*n)%2^64/256^(7-i)%256]:=by
 rw[Qey,List.range_succ,List.map_append];rfl
theorem Qd5(n i:Nat):(Qey n i).length=i:=by simp[Qey]
def Qxu(n i:Nat):Nat:=(8*n)%2^64*256^i%2^64
theorem Qy9(n i:Nat):Qxu n i*256%2^64=Qxu n (i+1):=by
 unfold Qxu
 rw[Nat.mod_mul_mod,Nat.mul_assoc,<-Nat.pow_succ]
theorem Qzj(n i:Nat)(hi:i<8):Qxu n i/72057594037927936=(8*n)%2^64/256^(7-i)%256:=by
 unfold Qxu
 generalize (8*n)%2^64=x
 have hp:(2:Nat)^64=256^(8-i)*256^i:=by rw[<-Nat.pow_add,show 8-i+i=8 from by omega]
 have hq:(72057594037927936:Nat)=256^(7-i)*256^i:=by rw[<-Nat.pow_add,show 7-i+i=7 from by omega]
 have h8:(256:Nat)^(8-i)=256^(7-i)*256:=by rw[<-Nat.pow_succ,show(7-i).succ=8-i from by omega]
 have hpos:0<256^i:=Nat.pow_pos (by decide)
 rw[hp,Nat.mul_mod_mul_right,hq,Nat.mul_div_mul_right _ _ hpos,h8,Nat.mod_mul_right_div_self]
theorem Xi5(n i:Nat):Qxu n i<2^64:=Nat.mod_lt _ (by decide)
theorem Qxa(n:Nat):IntKind.u64.wrap ((n:Int)*8)=((Qxu n 0:Nat):Int):=by
 rw[IntKind.wrap_u64];unfold Qxu;rw[Nat.pow_zero,Nat.mul_one,Nat.mod_mod];omega
theorem Qiy(n:Nat):pad n=128::List.replicate (zeroes n) 0++Qey n 8:=rfl
theorem Xiy(n:Nat)(w:World)(hn:n<2^64):
 Calls Tryz.prog 61 #[.int .u64 (n:Int)] w fun e w'=>∃v,e= .returned v∧w'.ownsRow w.heap.size 5 1 v (pad n).length (V (pad n))∧Below w.heap.size w w':=by
 obtain⟨i0,hi,hz0,hz1,hz2⟩:=info_parts Tryz.info5
 have O1:=Xb4 w 128
 have B1:=Qab w (.cells #[.int .u8 ((128:Nat):Int)] 5)
 have hzl:zeroes n<64:=Nat.mod_lt _ (by decide)
 go_enter Tryz.func61,Tryz.ntmps61
 go_wp2_with fail
 rw[show(128:Int)=((128:Nat):Int) from rfl]
 generalize w.alloc (.cells #[.int .u8 ((128:Nat):Int)] 5)=w1 at *
 go_loopw [3] (fun v wr=>∃z:Nat,z<=zeroes n∧wr.ownsRow w.heap.size 5 1 v (z+1) (V (128::List.replicate z 0))∧Below w.heap.size w wr) (fun v _=>64-Xlv v)
 case atStart=>exact⟨0,by omega,O1,B1⟩
 case round=>
  obtain⟨z,hz,hown,hbel⟩:=hrel
  obtain⟨g,cap,rfl⟩:=Joins.ownsRow_form hown (by omega)
  have hmz:=Qta n z hz
  by_cases hze:z=zeroes n
  ·have hc:(((n:Int)%64+((z:Int)+1)+8)%64 != 0)=false:=by
    have:=hmz.2 hze
    simp
    omega
   have HX0:=hid (Qxa n)
   have hl0:(V (128::List.replicate z 0++Qey n 0))=V (128::List.replicate z 0):=by simp[Qey]
   rw[<-hl0] at hown
   have HOW:=hid hown
   have HZE:=hid hze
   clear hown hmz O1 hl0 hze
   go_wp2_with fail
   rw[HX0.out]
   go_loopw [3,4,5] (fun v x i wr=>∃j:Nat,j<=8∧i= .int .i64 j∧x= .int .u64 ((Qxu n j:Nat):Int)∧wr.ownsRow w.heap.size 5 1 v (z+1+j) (V (128::List.replicate z 0++Qey n j))∧Below w.heap.size w wr) (fun _ _ i _=>8-(intOf i).toNat)
   case atStart=>exact⟨0,by omega,rfl,rfl,HOW.out,hbel⟩
   case round=>
    obtain⟨j,hj,rfl,rfl,hown,hbel⟩:=hrel
    by_cases hlt:j<8
    ·have hj8:(j:Int)<8:=by omega
     have HBY:=hid (Qzj n j hlt)
     have HSU:=hid (Qy9 n j)
     have hol:=Xi5 n j
     have HTL:=hid (Qwp n j)
     have hby:Qxu n j/72057594037927936<256:=by omega
     have HI:Hid ((Qxu n j:Int)/72057594037927936=((Qxu n j/72057594037927936:Nat):Int)):=by
      show _=_
      omega
     generalize Qxu n j=x at *
     go_wp2_with (at_builtin;refine wpList_append_own _ rfl _ _ 22 rfl w.heap.size 5 i0 (.int .u8 0) 1 1 Tryz.underlying22 hi hz0 hz1 hz2 rfl (by decide) _ _ _ rfl (hown.alloc _) ⟨wr.heap.size,0,none⟩ 1 1 [.int .u8 ((x:Int)/72057594037927936)] rfl rfl (Qlc wr _) (one_cell _) (by unfold maxLen;omega) (by omega) (by have:=hbel.size;simp;omega) ?_)
     intro v' w2 hown' hgrow _
     have hb2:=(hbel.alloc hbel.size _).grown hgrow (by have:=hbel.size;simp;omega) (fun j hj=>(hown.lt j hj).1)
     have R:w2.ownsRow w.heap.size 5 1 v' (z+1+(j+1)) (V (128::List.replicate z 0++Qey n (j+1))):=by
      rw[HTL.out,<-List.append_assoc,<-Xgt,<-HBY.out,<-HI.out]
      exact hown'
     clear hown' hgrow hown
     go_wp2
     refine⟨⟨j+1,by omega,by go_num,?_,R,hb2⟩,by simp[intOf];omega⟩
     rw[IntKind.wrap_u64,<-HSU.out]
     congr 1
    ·obtain rfl:j=8:=by omega
     have R:wr.ownsRow w.heap.size 5 1 u3 (pad n).length (V (pad n)):=by
      rw[Qiy,<-HZE.out]
      have e:(128::List.replicate z 0++Qey n 8).length=z+1+8:=by simp[Qd5]
      rw[e]
      exact hown
     clear hown
     go_wp2
     go_ret
     exact⟨_,rfl,R,hbel⟩
  ·have hc:(((n:Int)%64+((z:Int)+1)+8)%64 != 0)=true:=by
    have h1:¬(n%64+(z+1)+8)%64=0:=fun h=>hze (hmz.1 h)
    simp
    omega
   have hzlt:z<zeroes n:=by omega
   clear hmz O1 hze
   go_wp2_with (at_builtin;refine wpList_append_own _ rfl _ _ 22 rfl w.heap.size 5 i0 (.int .u8 0) 1 1 Tryz.underlying22 hi hz0 hz1 hz2 rfl (by decide) _ _ _ rfl (hown.alloc _) ⟨wr.heap.size,0,none⟩ 1 1 [.int .u8 0] rfl rfl (Qlc wr _) (one_cell _) (by unfold maxLen;omega) (by omega) (by have:=hbel.size;simp;omega) ?_)
   intro v' w2 hown' hgrow _
   have hb2:=(hbel.alloc hbel.size _).grown hgrow (by have:=hbel.size;simp;omega) (fun j hj=>(hown.lt j hj).1)
   have R:w2.ownsRow w.heap.size 5 1 v' (z+1+1) (V (128::List.replicate (z+1) 0)):=by
    have e:V (128::List.replicate z 0)++ [.int .u8 0]=V (128::List.replicate (z+1) 0):=by
     rw[show(0:Int)=((0:Nat):Int) from rfl,Xgt,List.cons_append,<-List.replicate_succ']
    rw[<-e];exact hown'
   have hs1:=Xfe R
   clear hown' hgrow hown
   go_wp2
   refine⟨⟨z+1,by omega,R,hb2⟩,?_⟩
   rw[hs1]
   show 64-(z+1+1)<64-(z+1)
   omega
end Sh
namespace Sh
open Go.RowKit Sha
structure Rd (w:World) (v:Value) (a:Option Addr) (cap:Nat) (zs:List Nat):Prop where
 val:v= .slice a zs.length cap
 room:zs.length<=cap
 most:cap<=maxLen
 cells:0<zs.length->∃b off,a=some ⟨b,off,none⟩∧b<w.heap.size∧∀j,j<zs.length->w.cell? ⟨b,off+j,none⟩=some (.int .u8 ((zs.getD j 0:Nat):Int))
 hi:∀j,zs.getD j 0<256
 nil:a=none->cap=0
theorem Rd.later{w w':World}{v:Value}{a:Option Addr}{cap:Nat}{zs:List Nat}(h:Rd w v a cap zs)(hb:Below w.heap.size w w'):Rd w' v a cap zs:=by
 refine⟨h.val,h.room,h.most,fun h0=>?_,h.hi,h.nil⟩
 obtain⟨b,off,ha,hbw,hc⟩:=h.cells h0
 exact⟨b,off,ha,Nat.lt_of_lt_of_le hbw hb.size,fun j hj=>(hb.cell (p:=⟨b,off+j,none⟩) hbw).trans (hc j hj)⟩
structure Ps (w:World) (a:Option Addr) (cap:Nat) (l:List (List Nat)):Prop where
 room:l.length<=cap
 most:cap<=maxLen
 cells:0<l.length->∃b off,a=some ⟨b,off,none⟩∧b<w.heap.size∧∀j,j<l.length->∃v a' cap',w.cell? ⟨b,off+j,none⟩=some v∧Rd w v a' cap' (l.getD j [])
theorem Xls(l:List Nat):∀u∈V l,u.oneCell'=true:=by
 intro u hu
 simp only[V,List.mem_map] at hu
 obtain⟨z,_,rfl⟩:=hu
 rfl
theorem Qje(w:World)(r:Option Nat):w.grownBy w r:=⟨rfl,rfl,rfl,Nat.le_refl _,fun _ _ _=>rfl⟩
theorem Qch(w:World){ops:Array Oper}{rest:List Oper}{o:Oper}{ac:Act}{Q:Exit->Act->World->Prop}(hgd:o.guard=none)(s x:Operand)
 (ho:o.op= .call {callee:= .builtin .append,args:= #[s,x],argTypes:= #[22,22]}) (B:Nat) (v:Value) (l:List Nat) (hs:ac.eval s=v) (hown:w.ownsRow B 5 1 v l.length (V l))
 (a:Option Addr) (cap:Nat) (zs:List Nat) (hx:ac.eval x= .slice a zs.length cap) (hrd:Rd w (.slice a zs.length cap) a cap zs) (hbd:l.length+zs.length<=1000000) (hB:B<=w.heap.size)
 (h:∀v' w',w'.ownsRow B 5 1 v' (l++zs).length (V (l++zs))->w.grownBy w' v.ownBlock->wpList Tryz.prog ops Q rest (ac.put o.dst v') w'):wpList Tryz.prog ops Q (o::rest) ac w:=by
 obtain⟨i0,hi,hz0,hz1,hz2⟩:=info_parts Tryz.info5
 cases a with
 | none=>
   have hz:zs= []:=by
    apply List.length_eq_zero_iff.1
    rcases Nat.eq_zero_or_pos zs.length with h | h
    ·exact h
    ·obtain⟨_,_,h',_⟩:=hrd.cells h
     cases h'
   subst hz
   have hc:=hrd.nil rfl
   subst hc
   refine wpList_append_own_none hgd s x 22 ho B 5 i0 1 Tryz.underlying22 hi v l.length _ hs hown hx ?_
   have:=h v w (by simpa using hown) (Qje _ _)
   exact this
 | some ad=>
   refine wpList_append_own w hgd s x 22 ho B 5 i0 (.int .u8 0) 1 1 Tryz.underlying22 hi hz0 hz1 hz2 rfl (by decide) v l.length _ hs hown ad zs.length cap (V zs) hx (by simp[V]) ?_ (Xls _) (by unfold maxLen;omega) (by omega) hB ?_
   ·intro j u hj
    have hjl:j<zs.length:=by
     have:=(List.getElem?_eq_some_iff.1 hj).1
     simpa [V] using this
    obtain⟨b,off,hb,_,hc⟩:=hrd.cells (by omega)
    injection hb with hb
    subst hb
    rw[Go.WideShapes.add_plain,hc j hjl,<-hj]
    simp[V,List.getD,List.getElem?_eq_getElem hjl]
   ·intro v' w' h1 h2 _
    refine h v' w' ?_ h2
    rw[List.length_append,show V (l++zs)=V l++V zs from by simp[V]]
    exact h1
theorem Qrp{w:World}{B:Nat}{v:Value}{l:List Nat}(hown:w.ownsRow B 5 1 v l.length (V l))(h0:0<l.length)(hz:∀j,l.getD j 0<256):
 ∃g cap,v= .slice (some ⟨g,0,none⟩) l.length cap∧B<=g∧Rd w v (some ⟨g,0,none⟩) cap l:=by
 have h':=hown
 rcases hown.2 with ⟨_,h1⟩ | ⟨g,cp,cur,rfl,hg,hh,hn,hcap,_,_⟩
 ·omega
 ·refine⟨g,cp,rfl,hg,rfl,hn,hcap,fun _=>⟨g,0,rfl,(Array.getElem?_eq_some_iff.1 hh).1,fun j hj=>?_⟩,hz,fun h=>by cases h⟩
  rw[Nat.zero_add,h'.cellAt j (by omega)]
  simp[V,List.getD,List.getElem?_eq_getElem hj]
theorem Qj9(l m:List Nat)(hl:∀j,l.getD j 0<256)(hm:∀j,m.getD j 0<256)(j:Nat):(l++m).getD j 0<256:=by
 by_cases hj:j<l.length
 ·have:=hl j
  simpa [List.getD,List.getElem?_append_left hj] using this
 ·have:=hm (j-l.length)
  simpa [List.getD,List.getElem?_append_right (show l.length<=j by omega)] using this
end Sh
end Go.Proofs.YtibjlbcnapoblaaGreatDoor
