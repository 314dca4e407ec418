/- Contracts and facts. -/
import Derived.Test.YtibjlbcnapoblaaGreatDoorRows
import Derived.Laws.BytesArg
import Derived.WalkKit
import Derived.ProofKit
import Derived.OpenShut
import Derived.Deep.QuietTactic
import Derived.BigQuiet
import Derived.RegionTactic
import Derived.Test.YtibjlbcnapoblaaGreatDoorPart00
import Derived.Handy
import Derived.Lib.SmallJoins
import Derived.Great.BuildSlice
import Derived.Deep.WholeRow
import Derived.Laws.CopyOwn
import Derived.WalkLawsBesides
import Derived.OrdersHeld
import Derived.Deep.RegionHeld
namespace Go.Proofs.YtibjlbcnapoblaaGreatDoor
set_option maxRecDepth 100000
set_option maxHeartbeats 6400000
section
open Go.RowKit
theorem hid{p:Prop}(h:p):Go.RowKit.Hid p:=h
structure Ri (w:World) (kd:IntKind) (a:Option Addr) (cap:Nat) (zs:List Int):Prop where
 room:zs.length<=cap
 most:cap<=maxLen
 cells:0<zs.length->∃b off,a=some ⟨b,off,none⟩∧b<w.heap.size∧∀j,j<zs.length->w.cell? ⟨b,off+j,none⟩=some (.int kd (zs.getD j 0))
 fits:∀j,(Lit.int kd (zs.getD j 0)).wf=true
theorem Ri.later{w w':World}{kd:IntKind}{a:Option Addr}{cap:Nat}{zs:List Int}(h:Ri w kd a cap zs)(hb:Below w.heap.size w w'):Ri w' kd a cap zs:=by
 refine⟨h.room,h.most,fun h0=>?_,h.fits⟩
 obtain⟨b,off,ha,hbw,hc⟩:=h.cells h0
 exact⟨b,off,ha,Nat.lt_of_lt_of_le hbw hb.size,fun j hj=>(hb.cell (p:=⟨b,off+j,none⟩) hbw).trans (hc j hj)⟩
theorem getD_take(zs:List Int)(n j:Nat)(hj:j<n):(zs.take n).getD j 0=zs.getD j 0:=by
 simp[List.getD,List.getElem?_take_of_lt hj]
theorem Qed(zs:List Int)(n j:Nat)(hj:¬j<n):(zs.take n).getD j 0=0:=by
 have h:(zs.take n).length<=j:=by simp;omega
 simp[List.getD,List.getElem?_eq_none h]
theorem Qf2(zs:List Int)(j:Nat)(hj:zs.length<=j):zs.getD j 0=0:=by
 simp[List.getD,List.getElem?_eq_none hj]
theorem Qb8(kd:IntKind):(Lit.int kd 0).wf=true:=by cases kd<;>rfl
theorem Ri.take{w:World}{kd:IntKind}{a:Option Addr}{cap:Nat}{zs:List Int}(h:Ri w kd a cap zs)(n:Nat):Ri w kd a cap (zs.take n):=by
 have hroom:=h.room
 have hle:(zs.take n).length<=zs.length:=by simp;omega
 have hln:(zs.take n).length<=n:=List.length_take_le _ _
 refine⟨by omega,h.most,fun h0=>?_,fun j=>?_⟩
 ·obtain⟨b,off,ha,hbw,hc⟩:=h.cells (by omega)
  refine⟨b,off,ha,hbw,fun j hj=>?_⟩
  rw[getD_take zs n j (by omega)]
  exact hc j (by omega)
 ·by_cases hj:j<n
  ·rw[getD_take zs n j hj];exact h.fits j
  ·rw[Qed zs n j hj];exact Qb8 kd
theorem Bn{w a b:World}(h:Below w.heap.size w a)(h2:Below a.heap.size a b):Below w.heap.size w b:=h.trans (h2.mono h.size)
theorem Qap{B:Nat}{a w:World}(h:Below B a w)(n:Nat):Below B a (w.drewN n):=h.trans ⟨rfl,rfl,rfl,Nat.le_refl _,fun _ _=>rfl⟩
theorem Tryz.laidOut:laidOutB Tryz.prog=true:=by kernel_rfl
theorem Tryz.cells3:Tryz.prog.cellsOf 3=1:=by kernel_rfl
theorem Tryz.cells5:Tryz.prog.cellsOf 5=1:=by kernel_rfl
theorem wf_u8{x:Int}(h:(Lit.int .u8 x).wf=true):0<=x∧x<=255:=by
 have h1:IntKind.u8.min=0:=rfl
 have h2:IntKind.u8.max=255:=rfl
 simp only[Lit.wf,Bool.and_eq_true,decide_eq_true_eq] at h
 omega
theorem wf_u16{x:Int}(h:(Lit.int .u16 x).wf=true):0<=x∧x<=65535:=by
 have h1:IntKind.u16.min=0:=rfl
 have h2:IntKind.u16.max=65535:=rfl
 simp only[Lit.wf,Bool.and_eq_true,decide_eq_true_eq] at h
 omega
theorem Qby{x:Int}(h1: -9223372036854775808<=x)(h2:x<=9223372036854775807):(Lit.int .i64 x).wf=true:=by
 have e1:IntKind.i64.min= -9223372036854775808:=rfl
 have e2:IntKind.i64.max=9223372036854775807:=rfl
 simp only[Lit.wf,Bool.and_eq_true,decide_eq_true_eq]
 omega
theorem Qa8{x:Int}(h1:0<=x)(h2:x<=255):(Lit.int .u8 x).wf=true:=by
 have e1:IntKind.u8.min=0:=rfl
 have e2:IntKind.u8.max=255:=rfl
 simp only[Lit.wf,Bool.and_eq_true,decide_eq_true_eq]
 omega
theorem Qqk{x:Int}(h1:0<=x)(h2:x<=65535):(Lit.int .u16 x).wf=true:=by
 have e1:IntKind.u16.min=0:=rfl
 have e2:IntKind.u16.max=65535:=rfl
 simp only[Lit.wf,Bool.and_eq_true,decide_eq_true_eq]
 omega
open Go.ChangeShapes Go.WideShapes Go.ChangeAt in
theorem Xh3{H:Type}{enc:TypeId×Value->H}{W:World}{base:Nat}{t e:TypeId}{kd:IntKind}{v:Value}{d:DataW H}{p:List MemPlace}(ht:Tryz.prog.underlying t=some (.slice e))(he:Tryz.prog.underlying e=some (.int kd))(hc:Tryz.prog.cellsOf e=1)
 (hv:Value.okWide Tryz.prog W .any base t v) (h:DataW.Trod enc Tryz.prog W 0 (fun _=>true) true t v d p) (hlt:∀x∈p,x.block<W.heap.size) :
 ∃a cap zs,v= .slice a (zs:List Int).length cap∧Ri W kd a cap zs:=by
 obtain⟨a0,len,cap,rfl⟩:=okWide_slice ht hv
 obtain⟨fuel,hf⟩:=h
 rcases open_ints ht he hc hf with ⟨hcs,hx⟩ | ⟨a,len',cap',zs,hcs,_,hl,hm,hz,hx,hcell,hwz⟩
 ·simp[Value.cells] at hcs
  obtain⟨rfl,rfl,rfl⟩:=hcs
  exact⟨none,0,[],rfl,Nat.le_refl _,by unfold maxLen;omega,fun h=>absurd h (by simp),fun j=>by simp;exact Qb8 kd⟩
 ·simp[Value.cells] at hcs
  obtain⟨rfl,rfl,rfl⟩:=hcs
  simp only[Prod.mk.injEq] at hx
  obtain⟨_,rfl⟩:=hx
  simp only[if_true] at hz
  have hlen:(zs.take len).length=len:=by simp;omega
  refine⟨some a,cap,zs.take len,by rw[hlen],by omega,hm,fun h0=>?_,fun j=>?_⟩
  ·rw[hlen] at h0|-
   obtain⟨b,off,spot⟩:=a
   have hspot:spot=none:=by simpa [Addr.add] using World.cell?_spot (hcell 0 (by omega))
   subst hspot
   have hbW:b<W.heap.size:=hlt (.cell b off) (MemPlace.mem_row.2 ⟨0,by omega,by simp⟩)
   refine⟨b,off,rfl,hbW,fun j hj=>?_⟩
   rw[<-add_plain,getD_take zs len j hj]
   exact hcell j (by omega)
  ·by_cases hj:j<(zs.take len).length
   ·have hm:(zs.take len).getD j 0∈zs:=by
     simp only[List.getD,List.getElem?_eq_getElem hj,Option.getD_some]
     exact List.mem_of_mem_take (List.getElem_mem hj)
    exact hwz _ hm
   ·rw[Qf2 _ _ (by omega)];exact Qb8 kd
theorem Ri.own{w:World}{base:Nat}{e:TypeId}{kd:IntKind}{v:Value}{zs:List Int}(h:w.ownsRow base e 1 v zs.length (zs.map (Value.int kd)))(hf:∀j,(Lit.int kd (zs.getD j 0)).wf=true):
 ∃a cap,v= .slice a zs.length cap∧Ri w kd a cap zs:=by
 obtain⟨hl,hn | ⟨g,cap,cur,rfl,hb,hg,hnc,hcm,hcur,htk⟩⟩:=id h
 ·obtain⟨rfl,h0⟩:=hn
  refine⟨none,0,by rw[h0],by omega,by unfold maxLen;omega,fun h1=>by omega,hf⟩
 ·refine⟨some ⟨g,0,none⟩,cap,rfl,hnc,hcm,fun h0=>⟨g,0,rfl,?_,fun j hj=>?_⟩,hf⟩
  ·exact(Array.getElem?_eq_some_iff.1 hg).1
  ·rw[Nat.zero_add,h.cellAt j (by omega),List.getElem?_map]
   simp[List.getD,List.getElem?_eq_getElem hj]
theorem Tryz.info5W:(Tryz.prog.info? 5).map (fun i=>(i.zero,i.size,i.bytes))=some (some (.int .u8 0),1,1):=by kernel_rfl
def Qfd:Nat->Int->List Int
 | 0,x=> [x]
 | f+1,x=>if x<128 then [x] else (x%128+128)::Qfd f (x/128)
def Qe0(x:Int):List Int:=Qfd 9 x
theorem Xj5(x:Int):bits .or .u8 (x%256) 128=x%128+128:=by
 have h0:0<=x%256:=by omega
 have h1:x%256<256:=by omega
 have e:x%128=x%256%128:=by omega
 rw[e]
 generalize x%256=y at *
 obtain⟨n,rfl⟩:=Int.eq_ofNat_of_zero_le h0
 rw[show(128:Int)=((128:Nat):Int) from rfl,u8_or_nat _ _ (by omega) (by omega)]
 have hn:n<256:=by omega
 have key:∀m:Fin 256,(m.val|||128)=m.val%128+128:=by decide +kernel
 have:=key ⟨n,hn⟩
 simp only at this
 rw[this]
 omega
theorem Qk5(f:Nat)(y:Int)(h:¬y<128):Qfd (f+1) y=(y%128+128)::Qfd f (y/128):=by rw[Qfd,if_neg h]
theorem Qmk(f:Nat)(y:Int)(h:y<128):Qfd f y= [y]:=by cases f with
 | zero=>rfl
 | succ f=>rw[Qfd,if_pos h]
theorem Qd0{B:Nat}{w wr w1:World}{acc:List Int}{z:Int}{u v:Value}{o:Obj}(hB:B<=wr.heap.size)
 (hown:wr.ownsRow B 5 1 u acc.length (acc.map (Value.int .u8))) (hbel:Below B w wr)
 (hown':w1.ownsRow B 5 1 v (acc.length+1) (acc.map (Value.int .u8)++ [.int .u8 z])) (hgrow:(wr.alloc o).grownBy w1 u.ownBlock) :
 w1.ownsRow B 5 1 v (acc++ [z]).length ((acc++ [z]).map (Value.int .u8))∧Below B w w1:=
 ⟨by simpa using hown',(hbel.alloc hB o).grown hgrow (by simp;omega) (fun j hj=>(hown.lt j hj).1)⟩
theorem Xd2(x:Int)(w:World)(h0:0<=x)(h1:x<18446744073709551616):
 Calls Tryz.prog 105 #[.int .u64 x] w fun e w'=>∃v,e= .returned v∧w'.ownsRow w.heap.size 5 1 v (Qe0 x).length ((Qe0 x).map (Value.int .u8))∧Below w.heap.size w w':=by
 obtain⟨i0,hi,hz0,hz1,hz2⟩:=info_parts Tryz.info5W
 go_enter Tryz.func105,Tryz.ntmps105
 go_wp2
 go_loopw [0,3] (fun c v wr=>∃(f:Nat) (acc:List Int) (y:Int),c= .int .u64 y∧0<=y∧y<18446744073709551616∧y<128^(f+1)∧acc.length+f=9∧acc++Qfd f y=Qe0 x∧wr.ownsRow w.heap.size 5 1 v acc.length (acc.map (Value.int .u8))∧Below w.heap.size w wr)
  (fun c _ _=>(intOf c).toNat)
 case atStart=>exact⟨9,[],x,rfl,h0,h1,by omega,rfl,rfl,World.ownsRow_nil _ _ _ _,Below.refl _ _⟩
 case round=>
  obtain⟨f,acc,y,rfl,hy0,hy1,hyf,hlen,hcat,hown,hbel⟩:=hrel
  have hor:=Xj5 y
  by_cases hy:y<128
  ·go_wp2_with (at_builtin;refine wpList_append_own _ rfl _ _ 22 rfl w.heap.size 5 i0 (.int .u8 0) 1 1 Tryz.underlying22 hi hz0 hz1 hz2 rfl (by decide) _ _ _ rfl (hown.alloc _) ⟨wr.heap.size,0,none⟩ 1 1 [.int .u8 y] rfl rfl ?c1 ?c2 ?c3 ?c4 ?c5 ?_)
   case c1=>
    intro j u hj
    match j,hj with
    | 0,hj=>simp at hj;subst hj;simp[Addr.add]
   case c2=>intro u hu;simp at hu;subst hu;rfl
   case c3=>unfold maxLen;omega
   case c4=>omega
   case c5=>have:=hbel.size;simp;omega
   intro v' w1 hown' hgrow _
   have R:=Qd0 hbel.size hown hbel hown' hgrow
   have hv:acc++ [y]=Qe0 x:=by rw[<-hcat,Qmk f y hy]
   rw[hv] at R
   clear hown' hgrow hown hcat
   go_wp2
   go_ret
   exact⟨_,rfl,R.1,R.2⟩
  ·obtain⟨g,rfl⟩:∃g,f=g+1:=by
    cases f with
    | zero=>omega
    | succ g=>exact⟨g,rfl⟩
   have hcat':(acc++ [y%128+128])++Qfd g (y/128)=Qe0 x:=by rw[<-hcat,Qk5 g y hy];simp
   have hyg:y/128<128^(g+1):=by
    rw[Int.ediv_lt_iff_lt_mul (by decide),<-Int.pow_succ];exact hyf
   clear hcat hyf
   go_wp2_with (at_builtin;refine wpList_append_own _ rfl _ _ 22 rfl w.heap.size 5 i0 (.int .u8 0) 1 1 Tryz.underlying22 hi hz0 hz1 hz2 rfl (by decide) _ _ _ rfl (hown.alloc _) ⟨wr.heap.size,0,none⟩ 1 1 [.int .u8 (y%128+128)] rfl rfl ?d1 ?d2 ?d3 ?d4 ?d5 ?_)
   case d2=>rfl
   case d3=>unfold maxLen;omega
   case d4=>omega
   case d5=>have:=hbel.size;simp;omega
   intro v' w1 hown' hgrow _
   have R:=Qd0 hbel.size hown hbel hown' hgrow
   clear hown' hgrow hown
   go_wp2
   go_roundw
   case rel=>exact⟨g,acc++ [y%128+128],y/128,rfl,by omega,by omega,hyg,by simp;omega,hcat',R.1,R.2⟩
   case measure=>simp[intOf];omega
def Qmq(i:Nat)(c:Int):Bool:=decide ((i=9∧c≠1)∨(0<i∧c=0))
def Qcw(acc:Int)(i:Nat):List Int->Int×Int×Int
 | []=>(0,i,11)
 | c::cs=>if Qmq i c then (0,i,12) else if c<128 then (acc+c%128*128^i,i+1,0) else Qcw (acc+c%128*128^i) (i+1) cs
theorem Qhy(c:Int)(i:Nat)(w:World):
 Calls Tryz.prog 168 #[.int .u8 c,.int .i64 i] w fun e w'=>e= .returned (.bool (!Qmq i c))∧w'=w:=by
 by_cases h9:i=9
 ·subst h9
  have e:(!Qmq 9 c)=(c==1):=by
   by_cases hc:c=1
   ·subst hc;rfl
   ·simp[Qmq,hc]
  rw[e]
  go_enter Tryz.func168,Tryz.ntmps168
  go_wp2
  go_ret
  exact⟨rfl,rfl⟩
 ·have g9:((i:Int)==9)=false:=by rw[beq_eq_false_iff_ne];omega
  by_cases h0:i=0
  ·subst h0
   have e:(!Qmq 0 c)=true:=by simp[Qmq]
   rw[e]
   go_enter Tryz.func168,Tryz.ntmps168
   go_wp2
   go_ret
   exact⟨rfl,rfl⟩
  ·have g0:((i:Int)==0)=false:=by rw[beq_eq_false_iff_ne];omega
   have e:(!Qmq i c)=(c != 0):=by
    by_cases hc:c=0
    ·subst hc;simp[Qmq,h9];omega
    ·simp[Qmq,h9,hc]
   rw[e]
   go_enter Tryz.func168,Tryz.ntmps168
   go_wp2
   go_ret
   exact⟨rfl,rfl⟩
theorem Xb7(zs:List Int)(k:Nat)(hk:k<zs.length):zs.drop k=zs.getD k 0::zs.drop (k+1):=by
 rw[List.drop_eq_getElem_cons hk]
 simp[List.getD,List.getElem?_eq_getElem hk]
theorem Qll{k l m:IntKind}{a b c:Int}{t:Int×Int×Int}(h:t=(a,b,c)):Ending.returned (.tuple #[.int k a,.int l b,.int m c])= .returned (.tuple #[.int k t.1,.int l t.2.1,.int m t.2.2]):=by rw[h]
theorem Xhf(k:Nat):(128:Nat)^k=2^(7*k):=by rw[Nat.pow_mul]
theorem Xf2(k:Nat)(c:Int)(hk:k<=9)(h9:k=9->c=1):c%128*128^k<18446744073709551616:=by
 by_cases h:k=9
 ·rw[h9 h,h];decide
 ·have e:((128^k:Nat):Int)<=((128^8:Nat):Int):=by
   have:=Nat.pow_le_pow_right (n:=128) (by decide) (show k<=8 from by omega)
   omega
  have e2:(128:Int)^k<=72057594037927936:=by simpa using e
  have e3:(0:Int)<128^k:=Int.pow_pos (by decide)
  have e4:c%128*128^k<=127*128^k:=Int.mul_le_mul_of_nonneg_right (by omega) (by omega)
  omega
theorem Xix(acc c:Int)(k:Nat)(h0:0<=c)(h1:c<=255)(hk:k<=9)(h9:k=9->c=1)(ha0:0<=acc)(ha1:acc<128^k):
 bits .or .u64 acc (IntKind.u64.wrap (IntKind.u64.wrap (bits .andNot .u8 c 128)*2^(7*k)))=acc+c%128*128^k:=by
 have hd:=Xf2 k c hk h9
 obtain⟨n,rfl⟩:=Int.eq_ofNat_of_zero_le h0
 obtain⟨m,rfl⟩:=Int.eq_ofNat_of_zero_le ha0
 have e1:bits .andNot .u8 (n:Int) 128=((n%128:Nat):Int):=by
  rw[show(128:Int)=((128:Nat):Int) from rfl,u8_andNot_nat _ _ (by omega) (by omega)]
  congr 1
  exact nat_mask7 n
 have e2:((n:Int)%128*128^k)=((n%128*2^(7*k):Nat):Int):=by rw[<-Xhf];simp
 rw[e2] at hd|-
 have hp:(2:Nat)^(7*k)<=2^63:=Nat.pow_le_pow_right (n:=2) (by decide) (by omega)
 have hm:m<2^(7*k):=by
  have:(m:Int)<((128^k:Nat):Int):=by simpa using ha1
  rw[Xhf] at this;omega
 have e3:IntKind.u64.wrap (IntKind.u64.wrap (((n%128:Nat):Int))*2^(7*k))=((n%128*2^(7*k):Nat):Int):=by
  rw[IntKind.wrap_u64,IntKind.wrap_u64,show(((n%128:Nat):Int)%18446744073709551616)=((n%128:Nat):Int) from by omega]
  rw[show((n%128:Nat):Int)*2^(7*k)=((n%128*2^(7*k):Nat):Int) from by simp]
  exact Int.emod_eq_of_lt (by omega) hd
 rw[e1,e3,u64_or_nat _ _ (by omega) (by omega),Nat.or_comm,nat_join (7*k) _ _ (Nat.mul_mod_left _ _) hm]
 omega
theorem Qg8(acc c:Int)(k:Nat)(ha0:0<=acc)(ha1:acc<128^k):0<=acc+c%128*128^k∧acc+c%128*128^k<128^(k+1):=by
 have e3:(0:Int)<128^k:=Int.pow_pos (by decide)
 have e4:c%128*128^k<=127*128^k:=Int.mul_le_mul_of_nonneg_right (by omega) (by omega)
 have e5:0<=c%128*128^k:=Int.mul_nonneg (by omega) (by omega)
 rw[Int.pow_succ]
 omega
theorem Qze(acc c:Int)(k:Nat)(hk:k<=9)(h9:k=9->c=1)(ha0:0<=acc)(ha1:acc<128^k):acc+c%128*128^k<18446744073709551616:=by
 by_cases h:k=9
 ·rw[h9 h,h];rw[h] at ha1;omega
 ·have h2:=(Qg8 acc c k ha0 ha1).2
  have e:((128^(k+1):Nat):Int)<=((128^9:Nat):Int):=by
   have:=Nat.pow_le_pow_right (n:=128) (by decide) (show k+1<=9 from by omega)
   omega
  have e2:(128:Int)^(k+1)<=9223372036854775808:=by simpa using e
  omega
theorem Qow{k:Nat}{c:Int}(h:Qmq k c=false):k=9->c=1:=by
 simp only[Qmq,decide_eq_false_iff_not] at h
 omega
theorem Qwb{acc c:Int}{k:Nat}{cs:List Int}(h:Qmq k c=true):Qcw acc k (c::cs)=(0,(k:Int),12):=by
 rw[Qcw,if_pos h]
theorem Qlb{acc c:Int}{k:Nat}{cs:List Int}(h:Qmq k c=false)(hc:c<128):Qcw acc k (c::cs)=(acc+c%128*128^k,(k:Int)+1,0):=by
 rw[Qcw,if_neg (by rw[h];decide),if_pos hc]
theorem Qlz{acc c:Int}{k:Nat}{cs:List Int}(h:Qmq k c=false)(hc:¬c<128):Qcw acc k (c::cs)=Qcw (acc+c%128*128^k) (k+1) cs:=by
 rw[Qcw,if_neg (by rw[h];decide),if_neg hc]
theorem Qy0{acc:Int}{k:Nat}{zs:List Int}(h:¬k<zs.length):Qcw acc k (zs.drop k)=(0,(k:Int),11):=by
 rw[List.drop_eq_nil_of_le (by omega)];rfl
theorem Qrj(a:Option Addr)(cap:Nat)(zs:List Int)(w:World)(hr:Ri w .u8 a cap zs):
 Calls Tryz.prog 155 #[.slice a zs.length cap] w fun e w'=>e= .returned (.tuple #[.int .u64 (Qcw 0 0 zs).1,.int .i64 (Qcw 0 0 zs).2.1,.int .i64 (Qcw 0 0 zs).2.2])∧w'=w:=by
 have hcap:=hr.room
 have hmax:=hr.most
 unfold maxLen at hmax
 obtain⟨len,hlen⟩:∃n,n=zs.length:=⟨_,rfl⟩
 have hcells:=hr.cells
 have hlo:∀j,0<=zs.getD j 0:=fun j=>(wf_u8 (hr.fits j)).1
 have hhi:∀j,zs.getD j 0<=255:=fun j=>(wf_u8 (hr.fits j)).2
 clear hr
 rw[<-hlen] at hcells hcap|-
 have HL:Hid (len=zs.length):=hlen
 clear hlen
 go_enter Tryz.func155,Tryz.ntmps155
 go_wp2
 go_loop [5,9] (fun x i=>∃(k:Nat) (acc:Int),k<=len∧k<=9∧i= .int .i64 k∧x= .int .u64 acc∧0<=acc∧acc<128^k∧Qcw 0 0 zs=Qcw acc k (zs.drop k)) (fun _ i=>len-(intOf i).toNat)
 case atStart=>exact⟨0,0,by omega,by omega,rfl,rfl,by omega,by simp,rfl⟩
 case round=>
  obtain⟨k,acc,hk,hk9,rfl,rfl,hacc0,hacc1,hd⟩:=hrel
  by_cases hlt:k<len
  ·obtain⟨b,off,rfl,hbw,hc⟩:=hcells (by omega)
   have hck:=hc k hlt
   have hl0:=hlo k
   have hl1:=hhi k
   rw[Xb7 zs k (by rw[<-HL.out];exact hlt)] at hd
   generalize zs.getD k 0=c at *
   have HD:Hid (Qcw 0 0 zs=Qcw acc k (c::zs.drop (k+1))):=hd
   clear hd hc hlo hhi hcells
   cases hbad:Qmq k c with
   | true=>
     have hnb:(!Qmq k c)=false:=by rw[hbad];rfl
     go_wp2_with (go_at_call 168;refine(Qhy _ _ _).mono ?_;rintro e w' ⟨rfl,rfl⟩)
     go_ret3
     exact⟨Qll (HD.out.trans (Qwb hbad)),rfl⟩
   | false=>
     have hnb:(!Qmq k c)=true:=by rw[hbad];rfl
     have hx:=Xix acc c k hl0 hl1 hk9 (Qow hbad) hacc0 hacc1
     by_cases hc128:c<128
     ·go_wp2_with (go_at_call 168;refine(Qhy _ _ _).mono ?_;rintro e w' ⟨rfl,rfl⟩)
      go_ret3
      exact⟨Qll (HD.out.trans (Qlb hbad hc128)),rfl⟩
     ·have hnx:=Qg8 acc c k hacc0 hacc1
      have hk8:k≠9:=fun h=>by have:=Qow hbad h;omega
      obtain⟨acc',hacc'⟩:∃x,x=acc+c%128*128^k:=⟨_,rfl⟩
      rw[<-hacc'] at hx hnx
      have HA:Hid (acc'=acc+c%128*128^k):=hacc'
      clear hacc'
      go_wp2_with (go_at_call 168;refine(Qhy _ _ _).mono ?_;rintro e w' ⟨rfl,rfl⟩)
      go_round
      case rel=>exact⟨k+1,acc',by omega,by omega,by go_num,rfl,hnx.1,hnx.2,by rw[HD.out,Qlz hbad (by omega),HA.out]⟩
      case measure=>simp[intOf];omega
  ·have hkl:k=len:=by omega
   have HD:Hid (Qcw 0 0 zs=(0,(k:Int),11)):=hd.trans (Qy0 (by rw[<-HL.out];exact hlt))
   clear hd
   go_wp2
   go_ret3
   exact⟨Qll (by rw[HD.out,hkl]),rfl⟩
end
section
open Go.RowKit Hf
theorem Qab(w:World)(o:Obj):Below w.heap.size w (w.alloc o):=(Below.refl _ _).alloc (Nat.le_refl _) o
theorem Qag(w:World)(o:Obj):(w.alloc o).heap[w.heap.size]?=some o:=by
 show(w.heap.push o)[w.heap.size]?=_
 simp
def arr(k:IntKind)(l:List Nat):Array Value:=(l.map fun z:Nat=>Value.int k (z:Int)).toArray
theorem Qav(k:IntKind)(l:List Nat):(arr k l).size=l.length:=by simp[arr]
theorem Qas(k:IntKind)(l:List Nat)(i:Nat)(h:i<l.length):(arr k l)[i]?=some (.int k ((l.getD i 0:Nat):Int)):=by
 simp[arr,List.getD,List.getElem?_eq_getElem h]
theorem Qdf(k:IntKind)(l:List Nat)(i v:Nat):(arr k l).setIfInBounds i (.int k (v:Int))=arr k (l.set i v):=by
 simp[arr,List.map_set]
theorem Qbe(k:IntKind)(l:List Nat):(arr k l).all (·.oneCell')=true:=by
 simp[arr,Value.oneCell']
theorem Tryz.zero216:∀w,(zeroValue 216).run Tryz.prog w= .ok (.agg (arr .i64 z16)) w:=(zero_of_info (t:=216) (n:=16) (by kernel_rfl)).1
theorem Tryz.size216:(Tryz.prog.info? 216).map (·.size)=some 16:=by kernel_rfl
theorem Qac{w:World}{g k i:Nat}{cs:Array Value}{t:TypeId}{fr:Nat×Nat}(h:w.heap[g]?=some (.cells cs t fr))(hk:k≠g)(v:Value):(w.setCell ⟨g,i,none⟩ v).heap[k]?=w.heap[k]?:=by
 rw[setCell_eq_setRow w g i cs t fr v h]
 exact setRow_other w g k _ hk
theorem Qbo{P:Program}{ops:Array Oper}{rest:List Oper}{o:Oper}{a:Act}{w:World}{Q:Exit->Act->World->Prop}(hgd:o.guard=none)(ty:TypeId)(ho:o.op= .alloc ty)(d:Option Tmp)(hd:o.dst=d)(cs:Array Value)
 (hz:∀w,(zeroValue ty).run P w= .ok (.agg cs) w) (h:wpList P ops Q rest (a.put d (.pointer (some ⟨w.heap.size,0,none⟩))) (w.alloc (.cells cs ty))):wpList P ops Q (o::rest) a w:=by
 subst hd
 refine wpList_plain hgd fun _ hK=>?_
 unfold Oper.wp execOp
 simp only[ho,Instr.alloc,Sem.run_bind,hz,Result.andThen_ok,newVar]
 exact hK _ _ h
theorem Qad{P:Program}{ops:Array Oper}{rest:List Oper}{o:Oper}{a:Act}{w:World}{Q:Exit->Act->World->Prop}(hgd:o.guard=none)(ty:TypeId)(ho:o.op= .alloc ty)(d:Option Tmp)(hd:o.dst=d)(cs:Array Value)
 (hz:∀w,(zeroValue ty).run P w= .ok (.agg cs) w) (N:Nat) (hN:N=w.heap.size) (h:wpList P ops Q rest (a.put d (.pointer (some ⟨N,0,none⟩))) (w.alloc (.cells cs ty))):wpList P ops Q (o::rest) a w:=by
 subst hN;exact Qbo hgd ty ho d hd cs hz h
theorem Qaz{P:Program}{fn:Func}{p u:Tmp}{ty:TypeId}(h:fn.results= #[.cell p ty,.tmp u])(tmps:Array Value)(w:World)(g:Nat)(v:Value)(hp:tmps.getD p undef= .pointer (some ⟨g,0,none⟩))(hl:(loadVar ty ⟨g,0,none⟩).run P w= .ok v w):
 (results fn tmps).run P w= .ok (.tuple #[v,tmps.getD u undef]) w:=by
 rw[results_cell_tmp h,hp]
 simp[asAddr,hl]
theorem Qzn(l:List Nat)(i:Nat)(hl:l.length=16)(hi:i<16)(w:World):(Instr.index 216 (.agg (arr .i64 l)) (.int .i64 (i:Int))).run Tryz.prog w= .ok (.int .i64 ((l.getD i 0:Nat):Int)) w:=by
 have ha:(isAgg 3).run Tryz.prog w= .ok false w:=by
  unfold isAgg
  rw[Sem.run_bind,run_underlying Tryz.underlying3 w]
  rfl
 have hz:(Go.sizeOf 3).run Tryz.prog w= .ok 1 w:=Tryz.sizeOf3 w
 have hp:(part 3 (arr .i64 l) (i*1)).run Tryz.prog w= .ok (.int .i64 ((l.getD i 0:Nat):Int)) w:=by
  unfold part
  simp[Sem.run_bind,ha,Qas .i64 l i (by omega)]
 have h0:(0:Int)<=(i:Int)∧(i:Int)<((16:Nat):Int):=by omega
 unfold Instr.index
 simp only[asIntOf,Sem.run_bind,Sem.run_pure,Result.andThen_ok,run_underlying Tryz.underlying216 w]
 rw[if_pos h0]
 simp only[Sem.run_bind,hz,Result.andThen_ok,Int.toNat_natCast,hp]
theorem Qit{x:Int}(h1: -9223372036854775808<=x)(h2:x<9223372036854775808):wrap64 x=x:=by
 unfold wrap64;omega
theorem Qxg(zs:List Int)(k:Nat)(hk:k<=16)(hl:zs.length<=520):Qgj zs k<=272629760:=by
 have h:=Xi2 zs k
 have h2:k*(zs.length*32768)<=16*(520*32768):=Nat.mul_le_mul hk (Nat.mul_le_mul_right _ hl)
 omega
theorem Xd6(c k:Nat)(h:k<16):(c:Int)*2^(15-(k:Int)).toNat=((c*2^(15-k):Nat):Int):=by
 rw[show(15-(k:Int)).toNat=15-k from by omega];simp
theorem Qxd(c k:Nat)(h:c<=520):c*2^(15-k)<=17039360:=by
 have h2:2^(15-k)<=2^15:=Nat.pow_le_pow_right (by decide) (by omega)
 have h3:c*2^(15-k)<=520*2^15:=Nat.mul_le_mul h h2
 omega
theorem Qya(zs:List Int)(w:World)(hl:zs.length<=520):
 Calls Tryz.prog 167 #[.agg (arr .i64 (tal zs))] w fun e w'=>e= .returned (.bool (Qgj zs 16==32768))∧Below w.heap.size w w':=by
 have b1:=Qab w (.cells (arr .i64 (tal zs)) 216)
 have e1:=Qag w (.cells (arr .i64 (tal zs)) 216)
 have zt:(Tryz.prog.info? 216).map (·.size)=some (arr .i64 (tal zs)).size:=by rw[Qav,Qba];exact Tryz.size216
 have HI:Hid (∀k:Nat,k<16->∀w,(Instr.index 216 (.agg (arr .i64 (tal zs))) (.int .i64 (k:Int))).run Tryz.prog w= .ok (.int .i64 ((cnt zs k:Nat):Int)) w):=by
  intro k hk w
  have h:=Qzn (tal zs) k (Qba zs) hk w
  rwa[Qcv zs k hk] at h
 generalize tal zs=tz at *
 go_enter Tryz.func167,Tryz.ntmps167
 go_wp2_with (first
  | (refine wpList_load_row rfl 216 _ rfl w.heap.size rfl 216 (arr .i64 tz) (0,0) _ e1 Tryz.underlying216 rfl zt ?_))
 go_loop [3,7] (fun s i=>∃k:Nat,k<=16∧i= .int .i64 k∧s= .int .i64 ((Qgj zs k:Nat):Int)) (fun _ i=>16-(intOf i).toNat)
 case atStart=>exact⟨0,by omega,rfl,rfl⟩
 case round=>
  obtain⟨k,hk,rfl,rfl⟩:=hrel
  by_cases hlt:k<16
  ·have hk16:(k:Int)<16:=by omega
   have hx:=HI.out k hlt
   have hc:=Qle zs k
   have hw:=Qxg zs k (by omega) hl
   have ht:=Xd6 (cnt zs k) k hlt
   have hs:=Qxd (cnt zs k) k (by omega)
   have HE:=hid (show Qgj zs (k+1)=Qgj zs k+cnt zs k*2^(15-k) from rfl)
   generalize cnt zs k*2^(15-k)=t at *
   generalize Qgj zs k=sm at *
   generalize cnt zs k=c at *
   have hp:(c:Int)*2^(15-k)=(t:Int):=by rw[<-ht,show(15-(k:Int)).toNat=15-k from by omega]
   go_wp2
   exact⟨⟨k+1,by omega,by go_num,by rw[HE.out];simp⟩,by simp[intOf];omega⟩
  ·obtain rfl:k=16:=by omega
   go_wp2
   go_ret
   refine⟨?_,b1⟩
   have hb:(((Qgj zs 16:Nat):Int)==32768)=(Qgj zs 16==32768):=by
    rw[Bool.eq_iff_iff,beq_iff_eq,beq_iff_eq];omega
   rw[<-hb];rfl
structure Xd9 (w wr:World) (tz fz:List Nat):Prop where
 many:wr.heap[w.heap.size]?=some (.cells (arr .i64 tz) 216 (0,0))
 res:wr.heap[w.heap.size+1]?=some (.cells (arr .i64 z16) 216 (0,0))
 fst:wr.heap[w.heap.size+1+1]?=some (.cells (arr .i64 fz) 216 (0,0))
 bel:Below w.heap.size w wr
theorem Xd9.put{w wr:World}{tz fz:List Nat}(h:Xd9 w wr tz fz)(i v:Nat):Xd9 w (wr.setCell ⟨w.heap.size+1+1,i,none⟩ (.int .i64 (v:Int))) tz (fz.set i v):=by
 refine⟨?_,?_,?_,h.bel.setCell (by simp;omega) _⟩
 ·rw[Qac h.fst (by omega)];exact h.many
 ·rw[Qac h.fst (by omega)];exact h.res
 ·rw[Joins.block_setCell h.fst,Qdf]
theorem Xd9.drew{w wr:World}{tz fz:List Nat}(h:Xd9 w wr tz fz):Xd9 w wr.drew tz fz:=⟨h.many,h.res,h.fst,h.bel.drew⟩
theorem Qsn(zs:List Int)(w:World)(hl:zs.length<=520):
 Calls Tryz.prog 154 #[.agg (arr .i64 (tal zs))] w fun e w'=>e= .returned (.agg (arr .i64 (Qdm zs 16)))∧Below w.heap.size w w':=by
 have HG:=hid (Qcv zs)
 have HTL:=hid (Qba zs)
 have b1:=Qab w (.cells (arr .i64 (tal zs)) 216)
 have s1:(w.alloc (.cells (arr .i64 (tal zs)) 216)).heap.size=w.heap.size+1:=by simp
 have e1:=Qag w (.cells (arr .i64 (tal zs)) 216)
 have b2:=Qab (w.alloc (.cells (arr .i64 (tal zs)) 216)) (.cells (arr .i64 z16) 216)
 have s2:((w.alloc (.cells (arr .i64 (tal zs)) 216)).alloc (.cells (arr .i64 z16) 216)).heap.size=w.heap.size+1+1:=by simp
 have e2:=Qag (w.alloc (.cells (arr .i64 (tal zs)) 216)) (.cells (arr .i64 z16) 216)
 have b3:=Qab ((w.alloc (.cells (arr .i64 (tal zs)) 216)).alloc (.cells (arr .i64 z16) 216)) (.cells (arr .i64 z16) 216)
 have e3:=Qag ((w.alloc (.cells (arr .i64 (tal zs)) 216)).alloc (.cells (arr .i64 z16) 216)) (.cells (arr .i64 z16) 216)
 rw[s1] at e2
 rw[s2] at e3
 have e1':(((w.alloc (.cells (arr .i64 (tal zs)) 216)).alloc (.cells (arr .i64 z16) 216)).alloc (.cells (arr .i64 z16) 216)).heap[w.heap.size]?=some (.cells (arr .i64 (tal zs)) 216 (0,0)):=by rw[b3.block _ (by omega),b2.block _ (by omega)];exact e1
 have e2':(((w.alloc (.cells (arr .i64 (tal zs)) 216)).alloc (.cells (arr .i64 z16) 216)).alloc (.cells (arr .i64 z16) 216)).heap[w.heap.size+1]?=some (.cells (arr .i64 z16) 216 (0,0)):=by rw[b3.block _ (by omega)];exact e2
 have hM:Xd9 w (((w.alloc (.cells (arr .i64 (tal zs)) 216)).alloc (.cells (arr .i64 z16) 216)).alloc (.cells (arr .i64 z16) 216)) (tal zs) (Qdm zs 1):=⟨e1',e2',by rw[Xal];exact e3,Bn (Bn b1 b2) b3⟩
 have HM:=hid hM
 clear b1 s1 e1 b2 s2 e2 b3 e3 e1' e2' hM
 generalize tal zs=tz at *
 go_enter Tryz.func154,Tryz.ntmps154
 go_wp2_with (first
  | (refine Qad rfl 216 rfl (some 2) rfl (arr .i64 z16) Tryz.zero216 (w.heap.size+1) (by simp) ?_)
  | (refine Qad rfl 216 rfl (some 3) rfl (arr .i64 z16) Tryz.zero216 (w.heap.size+1+1) (by simp) ?_))
 generalize ((w.alloc (.cells (arr .i64 tz) 216)).alloc (.cells (arr .i64 z16) 216)).alloc (.cells (arr .i64 z16) 216)=w3 at *
 go_loopw [4] (fun i wr=>∃j:Nat,j<=15∧i= .int .i64 ((j:Int)+1)∧Xd9 w wr tz (Qdm zs (j+1))) (fun i _=>16-(intOf i).toNat)
 case atStart=>exact⟨0,by omega,rfl,HM.out⟩
 case round=>
  obtain⟨j,hj,rfl,hM⟩:=hrel
  by_cases hlt:j<15
  ·have hj16:(j:Int)+1<16:=by omega
   have hfl:=Qdb zs (j+1)
   have c1:=(Joins.cell_of_block hM.fst j).trans (Qas .i64 _ j (by omega))
   have c2:=(Joins.cell_of_block hM.many j).trans (Qas .i64 _ j (by rw[HTL.out];omega))
   have cw:=(Joins.cell_of_block hM.fst (j+1)).trans (Qas .i64 _ (j+1) (by omega))
   have fw:=Joins.unfrozen_of_block hM.fst (j+1)
   rw[Qfp _ _ _ (by omega),if_pos (by omega)] at c1
   rw[HG.out j (by omega)] at c2
   have hc:=Qle zs j
   have hs:=Qhz zs j (by omega) hl
   have hput:=fun W (h:Xd9 w W tz (Qdm zs (j+1)))=>(h.put (j+1) ((first zs j+cnt zs j)*2)).drew
   have e:=Qy3 zs (j+1) (by omega) (by omega)
   rw[show j+1-1=j from rfl] at e
   rw[e] at hput
   have HP:=hid hput
   have HMM:=hid hM
   clear hput hM hfl e
   generalize (Qdm zs (j+1)).getD (j+1) 0=old at *
   generalize first zs j=f at *
   generalize cnt zs j=c at *
   have HV:Hid (((f:Int)+(c:Int))*2=(((f+c)*2:Nat):Int)):=by show _=_;omega
   go_wp2_with fail
   go_region
   rw[HV.out]
   have HP1:=hid (HP.out _ HMM.out)
   generalize hW2:(wr.setCell ⟨w.heap.size+1+1,j+1,none⟩ (.int .i64 (((f+c)*2:Nat):Int))).drew=W2 at *
   clear hW2 c1 c2 cw fw
   go_wp2
   go_roundw
   case rel=>exact⟨j+1,by omega,by go_num,HP1.out⟩
   case measure=>simp[intOf];omega
  ·obtain rfl:j=15:=by omega
   have hres:=hM.res
   have hfst:=hM.fst
   have hbel:=hM.bel
   have hsz:(arr .i64 (Qdm zs 16)).size=16:=by rw[Qav,Qdb]
   clear hM HM
   go_wp2_with (first
    | (refine wpList_load_row rfl 216 _ rfl (w.heap.size+1+1) rfl 216 (arr .i64 (Qdm zs 16)) (0,0) _ hfst Tryz.underlying216 rfl (by rw[hsz];exact Tryz.size216) ?_)
    | (refine wpList_store_rowTo rfl 216 _ _ rfl rfl (w.heap.size+1) (arr .i64 (Qdm zs 16)) rfl rfl 216 _ hres (by rw[hsz];exact Tryz.size216) (by rw[hsz];rfl) (Qbe _ _) ?_))
   refine bodyPost_ret (results_cell_row (ty:=216) rfl _ _ _ _ _ _ _ rfl (setRow_heap _ _ _ _ _ _ hres) Tryz.underlying216 rfl (by rw[hsz];exact Tryz.size216)) rfl ?_
   exact⟨rfl,below_setRow hbel (by omega) _⟩
end
section
open Go.RowKit
abbrev Qd4:List PanicEntry:= [{v:= .iface 169 (.agg #[]),recovered:=false}]
theorem Qct(w:World):Calls Tryz.prog 116 #[.bool true] w fun e w'=>e= .returned (.tuple #[])∧w'=w:=by
 go_enter Tryz.func116,Tryz.ntmps116
 go_wp2
 go_end0
 exact⟨rfl,rfl⟩
theorem Qd8(w:World):Calls Tryz.prog 116 #[.bool false] w fun e w'=>e= .panicked Qd4∧w'=w:=by
 go_enter Tryz.func116,Tryz.ntmps116
 go_wp2
 exact⟨rfl,rfl,rfl⟩
structure Rr (w0 w:World) (g:Nat) (t:TypeId) (tl:List Value) (a:Option Addr) (cap:Nat) (zs:List Int):Prop where
 blk:w.heap[g]?=some (.cells (Value.slice a zs.length cap::tl).toArray t (0,0))
 row:Ri w0 .u8 a cap zs
 bel:Below w0.heap.size w0 w
 ge:w0.heap.size<=g
theorem Rr.put{w0 w:World}{g:Nat}{t:TypeId}{tl:List Value}{a a':Option Addr}{cap cap':Nat}{zs zs':List Int}(h:Rr w0 w g t tl a cap zs)(hr:Ri w0 .u8 a' cap' zs'):Rr w0 (w.setCell ⟨g,0,none⟩ (.slice a' zs'.length cap')) g t tl a' cap' zs':=by
 refine⟨?_,hr,h.bel.setCell (show w0.heap.size<=(Addr.mk g 0 none).block from h.ge) _,h.ge⟩
 rw[Joins.block_setCell h.blk];simp
theorem Ri.tail{w:World}{kd:IntKind}{a:Option Addr}{cap:Nat}{zs:List Int}(h:Ri w kd a cap zs)(n:Nat)(hn:n<=zs.length)(b off:Nat)(ha:a=some ⟨b,off,none⟩):Ri w kd (some ⟨b,off+n,none⟩) (cap-n) (zs.drop n):=by
 have hroom:=h.room
 have hmost:=h.most
 have e:∀j,(zs.drop n).getD j 0=zs.getD (n+j) 0:=fun j=>by simp[List.getD]
 refine⟨by rw[List.length_drop];omega,by omega,fun h0=>?_,fun j=>by rw[e];exact h.fits _⟩
 rw[List.length_drop] at h0
 obtain⟨b',off',ha',hb,hc⟩:=h.cells (by omega)
 rw[ha] at ha'
 injection ha' with ha'
 injection ha' with h1 h2
 subst h1 h2
 exact⟨b,off+n,rfl,hb,fun j hj=>by rw[List.length_drop] at hj;rw[e,Nat.add_assoc];exact hc _ (by omega)⟩
theorem Qpo(w:World)(kd:IntKind)(a:Option Addr)(c:Nat)(h:c<=maxLen):Ri w kd a c []:=⟨Nat.zero_le _,h,fun h=>absurd h (by simp),fun j=>by simp;exact Qb8 kd⟩
theorem Ql8(w0 w:World)(g:Nat)(t:TypeId)(tl:List Value)(a:Option Addr)(cap:Nat)(z:Int)(zs:List Int)(h:Rr w0 w g t tl a cap (z::zs)):
 Calls Tryz.prog 137 #[.pointer (some ⟨g,0,none⟩)] w fun e w'=>e= .returned (.int .u8 z)∧∃a' c',w'=w.setCell ⟨g,0,none⟩ (.slice a' zs.length c')∧Ri w0 .u8 a' c' zs:=by
 have c0:=Joins.cell_of_block h.blk 0
 have u0:=Joins.unfrozen_of_block h.blk 0
 simp only[List.getElem?_toArray,List.getElem?_cons_zero,List.length_cons] at c0
 obtain⟨b,off,ha,hb,hc⟩:=h.row.cells (by simp)
 subst ha
 have cz:=(h.bel.cell (p:=⟨b,off,none⟩) hb).trans (by have:=hc 0 (by simp);simpa using this)
 have hroom:=h.row.room
 simp only[List.length_cons] at hroom
 have hmost:=h.row.most
 have HRT:Hid (Ri w0 .u8 (some ⟨b,off+1,none⟩) (cap-1) zs):=by
  show Ri _ _ _ _ _
  have:=h.row.tail 1 (by simp) b off rfl
  simpa using this
 unfold maxLen at hmost
 clear h hc hb
 by_cases hcap:cap=1
 ·have hz:zs= []:=List.length_eq_zero_iff.1 (by omega)
  subst hz hcap
  simp only[List.length_nil] at *
  clear hroom hmost
  go_enter Tryz.func137,Tryz.ntmps137
  go_wp2_with fail
  go_at_call 116
  refine(Qct _).mono ?_
  rintro _ w1 ⟨rfl,hw⟩
  obtain rfl:=hw.symm
  clear hw
  go_wp2
  go_ret
  exact⟨rfl,_,_,rfl,Qpo _ _ _ _ (by unfold maxLen;omega)⟩
 ·have HZL:Hid (zs.length=zs.length):=rfl
  obtain⟨n,hn⟩:∃n,n=zs.length:=⟨_,rfl⟩
  have HN:=hid hn
  rw[<-hn] at c0 hroom
  rw[<-hn]
  clear hn HZL
  have h1:(0:Int)<((n+1:Nat):Int):=by omega
  have hc1:¬(cap-1=0):=by omega
  have hc2:1<cap:=by omega
  have hc3:1<=cap:=by omega
  have hc4:¬cap<=1:=by omega
  go_enter Tryz.func137,Tryz.ntmps137
  go_wp2_with fail
  go_at_call 116
  refine(Qct _).mono ?_
  rintro _ w1 ⟨rfl,hw⟩
  obtain rfl:=hw.symm
  clear hw
  go_wp2
  go_ret
  exact⟨rfl,_,_,rfl,HRT.out⟩
theorem Qkw(w0 w:World)(g:Nat)(t:TypeId)(tl:List Value)(a:Option Addr)(cap:Nat)(h:Rr w0 w g t tl a cap []):
 Calls Tryz.prog 137 #[.pointer (some ⟨g,0,none⟩)] w fun e w'=>e= .panicked Qd4∧w'=w:=by
 have c0:=Joins.cell_of_block h.blk 0
 simp only[List.getElem?_toArray,List.getElem?_cons_zero,List.length_nil] at c0
 go_enter Tryz.func137,Tryz.ntmps137
 go_wp2_with fail
 go_at_call 116
 refine(Qd8 _).mono ?_
 rintro _ w1 ⟨rfl,hw⟩
 obtain rfl:=hw.symm
 exact⟨rfl,rfl,rfl⟩
theorem Qlu:∀(zs:List Int) (acc:Int) (i:Nat),0<=acc->acc<128^i->i<=9->0<=(Qcw acc i zs).1∧(Qcw acc i zs).1<18446744073709551616∧(i:Int)<=(Qcw acc i zs).2.1∧(Qcw acc i zs).2.1<=(i:Int)+(zs.length:Int)∧((Qcw acc i zs).2.2=0∨(Qcw acc i zs).2.2=11∨(Qcw acc i zs).2.2=12)
 | [],acc,i,h0,h1,hi=>by simp[Qcw]
 | c::cs,acc,i,h0,h1,hi=>by
   cases hb:Qmq i c with
   | true=>rw[Qwb hb];simp;omega
   | false=>
     by_cases hc:c<128
     ·rw[Qlb hb hc]
      have h2:=Qg8 acc c i h0 h1
      have h3:=Qze acc c i hi (Qow hb) h0 h1
      simp only[List.length_cons]
      refine⟨h2.1,h3,by omega,by omega,by simp⟩
     ·rw[Qlz hb hc]
      have h2:=Qg8 acc c i h0 h1
      have hi9:i≠9:=fun e=>by have:=Qow hb e;omega
      have h4:=Qlu cs (acc+c%128*128^i) (i+1) h2.1 h2.2 (by omega)
      simp only[List.length_cons]
      refine⟨h4.1,h4.2.1,by omega,by omega,h4.2.2.2.2⟩
def Qnz(most:Nat)(zs:List Int):Option (Nat×List Int):=
 if (Qcw 0 0 zs).2.2=0∧(Qcw 0 0 zs).1<=(most:Int) then some ((Qcw 0 0 zs).1.toNat,zs.drop (Qcw 0 0 zs).2.1.toNat) else none
theorem Qhx(w0 w:World)(g:Nat)(t:TypeId)(tl:List Value)(a:Option Addr)(cap most:Nat)(zs:List Int)(h:Rr w0 w g t tl a cap zs)(hm:most<=100000)(hn:Qnz most zs=none):
 Calls Tryz.prog 138 #[.pointer (some ⟨g,0,none⟩),.int .i64 (most:Int)] w fun e w'=>e= .panicked Qd4∧w'=w:=by
 have c0:=Joins.cell_of_block h.blk 0
 simp only[List.getElem?_toArray,List.getElem?_cons_zero] at c0
 have HRD:=hid (Qrj a cap zs w (h.row.later h.bel))
 have hr:=Qlu zs 0 0 (by omega) (by simp) (by omega)
 unfold Qnz at hn
 generalize Qcw 0 0 zs=r at *
 obtain⟨x,n,e⟩:=r
 dsimp only at *
 have hcond:¬(e=0∧x<=(most:Int)):=fun hc=>by rw[if_pos hc] at hn;cases hn
 have hx0:=hr.1
 have hx1:=hr.2.1
 clear hr hn h
 generalize zs.length=len at *
 have hmi:(most:Int)<=100000:=by omega
 by_cases he:e=0
 ·subst he
  have hxm:¬x<=(most:Int):=fun hq=>hcond ⟨rfl,hq⟩
  have hxd:decide (x<=(most:Int))=false:=decide_eq_false hxm
  clear hcond
  go_enter Tryz.func138,Tryz.ntmps138
  go_wp2_with fail
  go_at_call 155
  refine HRD.out.mono ?_
  rintro _ w1 ⟨rfl,hw⟩
  obtain rfl:=hw.symm
  clear hw
  go_wp2_with fail
  go_at_call 116
  refine(Qd8 _).mono ?_
  rintro _ w1 ⟨rfl,hw⟩
  obtain rfl:=hw.symm
  exact⟨rfl,rfl,rfl⟩
 ·have heb:(e==0)=false:=by rw[beq_eq_false_iff_ne];exact he
  clear hcond
  go_enter Tryz.func138,Tryz.ntmps138
  go_wp2_with fail
  go_at_call 155
  refine HRD.out.mono ?_
  rintro _ w1 ⟨rfl,hw⟩
  obtain rfl:=hw.symm
  clear hw
  go_wp2_with fail
  go_at_call 116
  refine(Qd8 _).mono ?_
  rintro _ w1 ⟨rfl,hw⟩
  obtain rfl:=hw.symm
  exact⟨rfl,rfl,rfl⟩
theorem Qht(w0 w:World)(g:Nat)(t:TypeId)(tl:List Value)(a:Option Addr)(cap most:Nat)(zs:List Int)(h:Rr w0 w g t tl a cap zs)(hm:most<=100000)(x:Nat)(rs:List Int)(hn:Qnz most zs=some (x,rs)):
 Calls Tryz.prog 138 #[.pointer (some ⟨g,0,none⟩),.int .i64 (most:Int)] w fun e w'=>e= .returned (.int .i64 (x:Int))∧∃a' c',w'=w.setCell ⟨g,0,none⟩ (.slice a' rs.length c')∧Ri w0 .u8 a' c' rs:=by
 have c0:=Joins.cell_of_block h.blk 0
 have u0:=Joins.unfrozen_of_block h.blk 0
 simp only[List.getElem?_toArray,List.getElem?_cons_zero] at c0
 have HRD:=hid (Qrj a cap zs w (h.row.later h.bel))
 have hr:=Qlu zs 0 0 (by omega) (by simp) (by omega)
 have hroom:=h.row.room
 have hmost:=h.row.most
 have hrow:=h.row
 unfold Qnz at hn
 have hpos:0<zs.length:=by
  cases zs with
  | nil=>simp[Qcw] at hn
  | cons z l=>simp
 obtain⟨b,off,ha,hb,hc⟩:=h.row.cells hpos
 subst ha
 generalize Qcw 0 0 zs=r at *
 obtain⟨y,n,e⟩:=r
 dsimp only at *
 have hcond:e=0∧y<=(most:Int):=by
  by_cases hc:e=0∧y<=(most:Int)
  ·exact hc
  ·rw[if_neg hc] at hn;cases hn
 rw[if_pos hcond] at hn
 injection hn with hn
 injection hn with h1 h2
 obtain⟨rfl,hy⟩:=hcond
 obtain⟨k,hk⟩:=Int.eq_ofNat_of_zero_le (show 0<=n by omega)
 subst hk
 rw[Int.toNat_natCast] at h2
 have hyx:y=(x:Int):=by omega
 subst hyx
 have hkl:k<=zs.length:=by omega
 have HRS:Hid (rs=zs.drop k):=h2.symm
 have HRT:Hid (Ri w0 .u8 (some ⟨b,off+k,none⟩) (cap-k) rs):=by have:=hrow.tail k hkl b off rfl;rw[<-h2];exact this
 have hrl:rs.length=zs.length-k:=by rw[<-h2,List.length_drop]
 have hx1:(x:Int)<=100000:=by omega
 unfold maxLen at hmost
 clear hr h1 h2 h hrow hc hb hpos
 by_cases hcap:cap=k
 ·have hz:rs= []:=List.length_eq_zero_iff.1 (by omega)
  subst hz
  have hlk:zs.length=k:=by omega
  rw[hlk] at c0 HRD hroom
  subst hcap
  clear hrl hlk hkl hroom hmost HRS
  have hk0:(0:Int)<=(cap:Int):=by omega
  go_enter Tryz.func138,Tryz.ntmps138
  go_wp2_with fail
  go_at_call 155
  refine HRD.out.mono ?_
  rintro _ w1 ⟨rfl,hw⟩
  obtain rfl:=hw.symm
  clear hw
  go_wp2_with fail
  go_at_call 116
  refine(Qct _).mono ?_
  rintro _ w1 ⟨rfl,hw⟩
  obtain rfl:=hw.symm
  clear hw
  go_wp2
  go_ret
  exact⟨rfl,some ⟨b,off,none⟩,0,by first | rfl | simp,Qpo _ _ _ _ (by unfold maxLen;omega)⟩
 ·have HRL:=hid hrl
  clear hrl
  generalize zs.length=len at *
  generalize rs.length=rl at *
  have hkl2:(k:Int)<=(len:Int):=by omega
  have hc1:¬(cap-k=0):=by omega
  have hc4:¬cap<=k:=by omega
  have hc5:k<cap:=by omega
  have hc6:¬k=cap:=by omega
  go_enter Tryz.func138,Tryz.ntmps138
  go_wp2_with fail
  go_at_call 155
  refine HRD.out.mono ?_
  rintro _ w1 ⟨rfl,hw⟩
  obtain rfl:=hw.symm
  clear hw
  go_wp2_with fail
  go_at_call 116
  refine(Qct _).mono ?_
  rintro _ w1 ⟨rfl,hw⟩
  obtain rfl:=hw.symm
  clear hw
  go_wp2
  go_ret
  exact⟨rfl,_,_,by rw[HRL.out],HRT.out⟩
end
namespace Ord
section
variable {P : Program} {md : Region.Mode} {ops : Array Oper} {Q : Exit → Act → World → Prop} {S : World → Prop}
theorem take{i d:Nat}{oi:Oper}{v:Value}{fuel:Nat}{listed:Array Bool}{ts:Array Value}{df:List Deferred}{w:World}(hi:ops[i]?=some oi)(hd:oi.dst=some d)
 (hs:Region.noSelect ops=true) (hf:Region.free md ops listed i=true) (hr:(Region.ready md ops listed).contains i=true)
 (hQ:∀c a w,Q (.panic c) (a.put oi.dst v) w->Q (.panic c) a w) (hw:Region.wanted oi (yielded ops ts)=true)
 (hy:∀w,S w->(execOp (Act.eval ⟨ts,df⟩) oi).run P w= .ok (.value v) w) (hS:S w)
 (h:wpAnyH P md ops Q S fuel (listed.setIfInBounds i true) ⟨ts.setIfInBounds d v,df⟩ w):wpAnyH P md ops Q S (fuel+1) listed ⟨ts,df⟩ w:=
 wpAnyH_take hi hs hf hr hQ (Or.inl ⟨hw,hy⟩) hS (by rw[hd];exact h)
theorem tk{i d:Nat}{oi:Oper}{v:Value}{fuel:Nat}{listed:Array Bool}{ts:Array Value}{df:List Deferred}{w:World}(hi:ops[i]?=some oi)(hd:oi.dst=some d)
 (hy:∀w,S w->(execOp (Act.eval ⟨ts,df⟩) oi).run P w= .ok (.value v) w) (hS:S w)
 (h:wpAnyH P md ops Q S fuel (listed.setIfInBounds i true) ⟨ts.setIfInBounds d v,df⟩ w) (hs:Region.noSelect ops=true:=by as_aux_lemma=>kernel_rfl) (hf:Region.free md ops listed i=true:=by as_aux_lemma=>kernel_rfl) (hr:(Region.ready md ops listed).contains i=true:=by as_aux_lemma=>kernel_rfl)
 (hQ:∀c a w,Q (.panic c) (a.put oi.dst v) w->Q (.panic c) a w:=by exact fun _ _ _ h=>h) (hw:Region.wanted oi (yielded ops ts)=true:=by rfl):wpAnyH P md ops Q S (fuel+1) listed ⟨ts,df⟩ w:=
 take hi hd hs hf hr hQ hw hy hS h
theorem s1{α:Type}(l:List α)(i:Nat)(a:α):l.toArray.setIfInBounds i a=(l.set i a).toArray:=List.setIfInBounds_toArray ..
theorem s2{α:Type}(l:List α)(a b:α):(a::l).set 0 b=b::l:=rfl
theorem s3{α:Type}(l:List α)(a b:α)(n:Nat):(a::l).set (n+1) b=a::l.set n b:=rfl
theorem put{d:Nat}{o:Oper}(hd:o.dst=some d){fuel:Nat}{listed:Array Bool}{ts:Array Value}{df:List Deferred}{v:Value}{w:World}
 (h:wpAnyH P md ops Q S fuel listed ⟨ts.setIfInBounds d v,df⟩ w):wpAnyH P md ops Q S fuel listed (Act.put ⟨ts,df⟩ o.dst v) w:=by
 rw[hd];exact h
theorem skip{i d:Nat}{oi:Oper}{fuel:Nat}{listed:Array Bool}{ts:Array Value}{df:List Deferred}{w:World}(hi:ops[i]?=some oi)(hd:oi.dst=some d)
 (hs:Region.noSelect ops=true) (hf:Region.free md ops listed i=true) (hr:(Region.ready md ops listed).contains i=true)
 (hQ:∀c a w,Q (.panic c) (a.put oi.dst undef) w->Q (.panic c) a w) (hw:Region.wanted oi (yielded ops ts)=false) (hS:S w)
 (h:wpAnyH P md ops Q S fuel (listed.setIfInBounds i true) ⟨ts.setIfInBounds d undef,df⟩ w):wpAnyH P md ops Q S (fuel+1) listed ⟨ts,df⟩ w:=
 wpAnyH_take hi hs hf hr hQ (Or.inr ⟨hw,rfl⟩) hS (by rw[hd];exact h)
theorem more{S':World->Prop}(hS:∀w,S' w->S w):∀(fuel:Nat) (listed:Array Bool) (a:Act) (w:World),wpAnyH P md ops Q S' fuel listed a w->wpAnyH P md ops Q S fuel listed a w
 | 0,_,_,_,h=>h
 | fuel+1,_,_,_,h=>⟨h.1,fun i hi=>wpOp_mono (fun a' w' h'=>⟨hS _ h'.1,more hS fuel _ a' w' h'.2⟩) (h.2 i hi)⟩
end
end Ord
namespace OrdE
open Go.RowKit
section
variable {P : Program} {md : Region.Mode} {ops : Array Oper} {Q : Exit → Act → World → Prop} {S : World → Prop} {f : Nat}
def Goes(P:Program)(md:Region.Mode)(ops:Array Oper)(Q:Exit->Act->World->Prop)(S:World->Prop)(f:Nat):Nat->Array Bool->Act->World->Prop
 | 0,l,a,w=>Region.ready md ops l= []∧Q .normal a w
 | n+1,l,a,w=>(Region.ready md ops l= []->Q .normal a w)∧∀i∈Region.ready md ops l,wpOp P ops Q i (fun a' w'=>(i≠f->S w')∧Goes P md ops Q S f n (l.setIfInBounds i true) a' w') a w
theorem Goes.any:∀(n:Nat) (l:Array Bool) (a:Act) (w:World),Goes P md ops Q S f n l a w->wpAny P md ops Q n l a w
 | 0,_,_,_,h=>h
 | n+1,_,_,_,h=>⟨h.1,fun i hi=>wpOp_mono (fun a' w' h'=>Goes.any n _ a' w' h'.2) (h.2 i hi)⟩
theorem first{i:Nat}{oi of':Oper}{v:Value}(hi:ops[i]?=some oi)(hf:ops[f]?=some of')(hdep:(of'.after.any fun e=>Region.binds md e&&e.on==i)=true)(hsel:∀(j:Nat) (o:Oper) cs b,ops[j]?=some o->o.op≠ .select cs b)
 (hQ:∀c a w,Q (.panic c) (a.put oi.dst v) w->Q (.panic c) a w) :
 ∀(n:Nat) (l:Array Bool) (a:Act) (w:World),
  (∀j oj,ops[j]?=some oj->j≠i->l.getD j true=false->(∀e∈oj.after,Region.binds md e=true->e.on≠i)->oi.apart ops oj=true) ->
  i∈Region.ready md ops l->YieldsIf P ops S oi v a->S w ->
  Goes P md ops Q S f n (l.setIfInBounds i true) (a.put oi.dst v) w->Goes P md ops Q S f (n+1) l a w:=by
 intro n
 induction n with
 | zero=>
   intro l a w _ hr hy hS H
   refine⟨fun h=>absurd hr (by rw[h];simp),fun j hj=>?_⟩
   by_cases e:j=i
   ·subst e;exact hy.wpOp hi hS ⟨fun _=>hS,H⟩
   ·exact absurd (ready_mono hj e) (by rw[H.1];simp)
 | succ n ih=>
   intro l a w hfree hr hy hS H
   refine⟨fun h=>absurd hr (by rw[h];simp),fun j hj=>?_⟩
   by_cases e:j=i
   ·subst e;exact hy.wpOp hi hS ⟨fun _=>hS,H⟩
   ·obtain⟨hun,oj,hoj,hall⟩:=mem_ready.1 hj
    have hnot:∀x∈oj.after,Region.binds md x=true->x.on≠i:=fun x hx hb hq=>by
     have h1:=hall x hx hb
     have h0:=(mem_ready.1 hr).1
     rw[hq] at h1
     rcases Nat.lt_or_ge i l.size with h' | h'
     ·simp[h'] at h0 h1;rw[h0] at h1;cases h1
     ·simp[Array.getElem?_eq_none h'] at h1
    have hjf:j≠f:=fun hq=>by
     subst hq
     rw[hf] at hoj
     injection hoj with hoj
     subst hoj
     obtain⟨x,hx,hxx⟩:=Array.any_eq_true'.1 hdep
     rw[Bool.and_eq_true,beq_iff_eq] at hxx
     exact hnot x hx hxx.1 hxx.2
    have h2:=wpOp_putIf hoj (hfree j oj hoj e hun hnot) (fun cs b=>hsel i oi cs b hi) (fun cs b=>hsel j oj cs b hoj) hQ hy (H.2 j (ready_mono hj e))
    refine wpOp_mono (fun a' w' h3=>⟨fun _=>h3.2.1 hjf,ih (l.setIfInBounds j true) a' w' (fun k ok hk hki hu hno=>hfree k ok hk hki ?_ hno) (ready_mono hr (Ne.symm e)) h3.1 (h3.2.1 hjf) ?_⟩) h2
    ·by_cases hjk:j=k
     ·subst hjk;exact hun
     ·rw[getD_set_ne true hjk] at hu;exact hu
    ·rw[Array.setIfInBounds_comm _ _ e]
     exact h3.2.2
theorem take{i d:Nat}{oi of':Oper}{v:Value}{n:Nat}{l:Array Bool}{ts:Array Value}{df:List Deferred}{w:World}(hi:ops[i]?=some oi)(hd:oi.dst=some d)(hf':ops[f]?=some of')(hdep:(of'.after.any fun e=>Region.binds md e&&e.on==i)=true)
 (hs:Region.noSelect ops=true) (hf:Region.free md ops l i=true) (hr:(Region.ready md ops l).contains i=true)
 (hQ:∀c a w,Q (.panic c) (a.put oi.dst v) w->Q (.panic c) a w) (hw:Region.wanted oi (yielded ops ts)=true)
 (hy:∀w,S w->(execOp (Act.eval ⟨ts,df⟩) oi).run P w= .ok (.value v) w) (hS:S w)
 (h:Goes P md ops Q S f n (l.setIfInBounds i true) ⟨ts.setIfInBounds d v,df⟩ w):Goes P md ops Q S f (n+1) l ⟨ts,df⟩ w:=
 first hi hf' hdep (Region.noSelect_spec hs) hQ n l _ w (Region.free_spec hi hf) (by simpa using hr) (Or.inl ⟨hw,hy⟩) hS (by rw[hd];exact h)
theorem one{i:Nat}{o:Oper}{n:Nat}{l:Array Bool}{a:Act}{w:World}(hr:Region.ready md ops l= [i])(ho:ops[i]?=some o)
 (h:∀K':Act->World->Prop,Shut (∀a w,(i≠f->S w)->Goes P md ops Q S f n (l.setIfInBounds i true) a w->K' a w)->if Region.wanted o (yielded ops a.tmps)=true then Oper.wp P o a w K' Q else K' (a.put o.dst undef) w) :
 Goes P md ops Q S f (n+1) l a w:=by
 refine⟨fun h0=>absurd h0 (by rw[hr];simp),fun j hj=>?_⟩
 rw[hr,List.mem_singleton] at hj
 subst hj
 exact wpOp_step ho (fun K' hK=>h K' (fun a w h1 h2=>hK a w ⟨h1,h2⟩))
theorem done{l:Array Bool}{a:Act}{w:World}(hr:Region.ready md ops l= [])(h:Q .normal a w):∀n,Goes P md ops Q S f n l a w
 | 0=>⟨hr,h⟩
 | _+1=>⟨fun _=>h,by rw[hr];simp⟩
theorem put{d:Nat}{o:Oper}(hd:o.dst=some d){n:Nat}{l:Array Bool}{ts:Array Value}{df:List Deferred}{v:Value}{w:World}
 (h:Goes P md ops Q S f n l ⟨ts.setIfInBounds d v,df⟩ w):Goes P md ops Q S f n l (Act.put ⟨ts,df⟩ o.dst v) w:=by
 rw[hd];exact h
end
theorem region{P:Program}{ops:Array Oper}{Q:Exit->Act->World->Prop}{id:Nat}{a:Act}{w:World}(S:World->Prop)(f:Nat)(hm:P.follows .mixedOrders=true)(hS:S w.drew)
 (h:S w.drew->Goes P .any ops Q S f ops.size (Array.replicate ops.size false) a w.drew):(Code.region id ops true).wp P Q a w:=
 wp_region_any hm (Goes.any _ _ _ _ (h hS))
end OrdE
end Go.Proofs.YtibjlbcnapoblaaGreatDoor
