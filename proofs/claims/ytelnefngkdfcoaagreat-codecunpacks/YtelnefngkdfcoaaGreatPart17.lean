/-
 Bits behind bytes: the contract of the writer's put.
-/
import Derived.Test.YtelnefngkdfcoaaGreatPart16
import Derived.StillTailTactics
import Derived.Test.YtelnefngkdfcoaaGreatPart00
import Derived.Test.YtelnefngkdfcoaaGreatPart08
import Derived.Test.YtelnefngkdfcoaaGreatPart13
import Derived.Test.YtelnefngkdfcoaaGreatPart15
import Derived.Laws.DeepNot64
import Derived.RegionTactic
namespace Go.Proofs.YtelnefngkdfcoaaGreat
open Go.RowKit
def bitP(L:List Int)(f b:Nat):List Int×Nat:=
 if f=0 then (L++ [((b*128:Nat):Int)],7) else (L.set (L.length-1) (((L.getD (L.length-1) 0).toNat|||b*2^(f-1):Nat):Int),f-1)
def putP(x:Nat):Nat->List Int×Nat->List Int×Nat
 | 0,s=>s
 | n+1,s=>putP x n (bitP s.1 s.2 (x/2^n%2))
structure Wt (B g:Nat) (w:World) (L:List Int) (f:Nat) (v:Value):Prop where
 blk:w.heap[g]?=some (.cells #[v,.int .i64 (f:Int)] 61 (0,0))
 row:w.ownsRow B 5 1 v L.length (L.map (Value.int .u8))
 u8:∀j,0<=L.getD j 0∧L.getD j 0<=255
 fl:f<=8
 any:0<f->0<L.length
theorem Wt.ne{B g:Nat}{w:World}{L:List Int}{f:Nat}{v:Value}(h:Wt B g w L f v):v.ownBlock≠some g:=by
 rcases h.row.2 with ⟨rfl,_⟩ | ⟨k,cap,cur,rfl,_,hh,_⟩
 ·simp[Value.ownBlock]
 ·intro e
  have e':k=g:=by simpa [Value.ownBlock] using e
  have:=h.blk
  rw[<-e',hh] at this
  injection this with this
  injection this with _ h2
  cases h2
theorem Wt.free{B g:Nat}{w:World}{L:List Int}{f:Nat}{v:Value}(h:Wt B g w L f v)(f':Nat)(h1:f'<=8)(h2:0<f'->0<L.length):Wt B g (w.setCell ⟨g,1,none⟩ (.int .i64 (f':Int))) L f' v:=by
 refine⟨?_,ownsRow_setCell_other h.row h.ne _,h.u8,h1,h2⟩
 rw[Joins.block_setCell h.blk];rfl
theorem Wt.drew{B g:Nat}{w:World}{L:List Int}{f:Nat}{v:Value}(h:Wt B g w L f v):Wt B g w.drew L f v:=⟨h.blk,h.row.drew,h.u8,h.fl,h.any⟩
theorem Wt.alloc{B g:Nat}{w:World}{L:List Int}{f:Nat}{v:Value}(h:Wt B g w L f v)(o:Obj):Wt B g (w.alloc o) L f v:=
 ⟨((bel_allocZ w o).block g (Array.getElem?_eq_some_iff.1 h.blk).1).trans h.blk,h.row.alloc o,h.u8,h.fl,h.any⟩
theorem Wt.lt{B g:Nat}{w:World}{L:List Int}{f:Nat}{v:Value}(h:Wt B g w L f v):g<w.heap.size:=(Array.getElem?_eq_some_iff.1 h.blk).1
theorem Wt.more{B g:Nat}{w w':World}{L:List Int}{f:Nat}{v v':Value}(h:Wt B g w L f v)(hg:w.grownBy w' v.ownBlock)(ho:w'.ownsRow B 5 1 v' (L++ [0]).length ((L++ [0]).map (Value.int .u8))):Wt B g (w'.setCell ⟨g,0,none⟩ v') (L++ [0]) f v':=by
 have hb:w'.heap[g]?=some (.cells #[v,.int .i64 (f:Int)] 61 (0,0)):=(hg.block g h.lt h.ne.symm).trans h.blk
 have hne:v'.ownBlock≠some g:=by
  rcases ho.2 with ⟨rfl,_⟩ | ⟨k,cap,cur,rfl,_,hh,_⟩
  ·simp[Value.ownBlock]
  ·intro e
   have e':k=g:=by simpa [Value.ownBlock] using e
   rw[<-e',hh] at hb
   injection hb with hb
   injection hb with _ h2
   cases h2
 refine⟨?_,ownsRow_setCell_other ho hne _,fun j=>?_,h.fl,fun _=>by simp⟩
 ·rw[Joins.block_setCell hb];rfl
 ·by_cases c:j<L.length
  ·have:=h.u8 j
   simpa [List.getD,List.getElem?_append_left c] using this
  ·by_cases c2:j=L.length
   ·subst c2;simp[List.getD]
   ·simp[List.getD,List.getElem?_eq_none (show(L++ [0]).length<=j by simp;omega)]
theorem Wt.last{B g:Nat}{w:World}{L:List Int}{f k n cap:Nat}(h:Wt B g w L f (.slice (some ⟨k,0,none⟩) n cap))(i:Nat)(x:Int)(hx:0<=x∧x<=255):Wt B g (w.setCell ⟨k,i,none⟩ (.int .u8 x)) (L.set i x) f (.slice (some ⟨k,0,none⟩) n cap):=by
 have hn:n=L.length:=by
  rcases h.row.2 with ⟨h1,_⟩ | ⟨_,_,_,h1,_⟩
  ·cases h1
  ·injection h1
 subst hn
 have hs:=(h.row.stored i (.int .u8 x))
 have hkg:k≠g:=fun e=>h.ne (by rw[e];rfl)
 refine⟨?_,?_,fun j=>?_,h.fl,fun hf=>by rw[List.length_set];exact h.any hf⟩
 ·have:=hs.2.block g h.lt (by simp;exact fun e=>hkg e.symm)
  rw[this];exact h.blk
 ·rw[List.length_set,List.map_set];exact hs.1
 ·have h1:=h.u8 j
  simp only[List.getD,List.getElem?_set] at h1|-
  split
  ·split
   ·simpa using hx
   ·simp
  ·exact h1
structure Fr (g:Nat) (w w':World):Prop where
 size:w.heap.size<=w'.heap.size
 same:∀i,i<w.heap.size->i≠g->(∀cs fr,w.heap[i]?≠some (.cells cs 5 fr))->w'.heap[i]?=w.heap[i]?
theorem Fr.refl(g:Nat)(w:World):Fr g w w:=⟨Nat.le_refl _,fun _ _ _ _=>rfl⟩
theorem Fr.trans{g:Nat}{a b c:World}(h:Fr g a b)(k:Fr g b c):Fr g a c:=
 ⟨Nat.le_trans h.size k.size,fun i h1 h2 h3=>by
  have e:=h.same i h1 h2 h3
  exact(k.same i (Nat.lt_of_lt_of_le h1 h.size) h2 (by rw[e];exact h3)).trans e⟩
theorem Fr.of_below{g:Nat}{w w':World}(h:Below w.heap.size w w'):Fr g w w':=⟨h.size,fun i hi _ _=>h.block i hi⟩
theorem Fr.drew{g:Nat}{w w':World}(h:Fr g w w'):Fr g w w'.drew:=⟨h.size,h.same⟩
theorem Fr.atG{g i:Nat}{w wr:World}(h:Fr g w wr)(x:Value):Fr g w (wr.setCell ⟨g,i,none⟩ x):=
 ⟨by have:=h.size;simpa using this,fun j h1 h2 h3=>(Below.heap_setCell wr ⟨g,i,none⟩ x j h2).trans (h.same j h1 h2 h3)⟩
theorem Fr.atB{g k i:Nat}{w wr:World}{cs:Array Value}{fr:Nat×Nat}(h:Fr g w wr)(hk:wr.heap[k]?=some (.cells cs 5 fr))(x:Value):Fr g w (wr.setCell ⟨k,i,none⟩ x):=
 ⟨by have:=h.size;simpa using this,fun j h1 h2 h3=>by
  have e:=h.same j h1 h2 h3
  have hne:j≠k:=fun q=>h3 cs fr (by rw[<-e,q];exact hk)
  exact(Below.heap_setCell wr ⟨k,i,none⟩ x j hne).trans e⟩
theorem Fr.grown{g B n:Nat}{w wr w':World}{v:Value}{xs:List Value}(h:Fr g w wr)(ho:wr.ownsRow B 5 1 v n xs)(hg:wr.grownBy w' v.ownBlock):Fr g w w':=
 ⟨Nat.le_trans h.size hg.size,fun j h1 h2 h3=>by
  have e:=h.same j h1 h2 h3
  refine(hg.block j (Nat.lt_of_lt_of_le h1 h.size) (fun q=>?_)).trans e
  rcases ho.2 with ⟨rfl,_⟩ | ⟨k,cap,cur,rfl,_,hh,_⟩
  ·simp[Value.ownBlock] at q
  ·have e':j=k:=by simpa [Value.ownBlock] using q
   exact h3 cur (0,0) (by rw[<-e,e'];exact hh)⟩
theorem Wt.blkB{B g:Nat}{w:World}{L:List Int}{f k n cap:Nat}(h:Wt B g w L f (.slice (some ⟨k,0,none⟩) n cap)):∃cur,w.heap[k]?=some (.cells cur 5 (0,0)):=by
 rcases h.row.2 with ⟨e,_⟩ | ⟨k',cap',cur,e,_,hh,_⟩
 ·cases e
 ·injection e with e1 _ _
  injection e1 with e1
  injection e1 with e1
  subst e1
  exact⟨cur,hh⟩
theorem Wt.cells{B g:Nat}{w:World}{L:List Int}{f:Nat}{v:Value}(h:Wt B g w L f v)(h0:0<L.length):∃k cap,v= .slice (some ⟨k,0,none⟩) L.length cap∧B<=k∧L.length<=cap∧cap<=maxLen∧(∀i,i<L.length->w.cell? ⟨k,i,none⟩=some (.int .u8 (L.getD i 0)))∧∀i,w.frozen? ⟨k,i,none⟩=false:=by
 have hr:=h.row
 rcases hr.2 with ⟨_,h2⟩ | ⟨k,cap,cur,rfl,hB,hh,hn,hm,_⟩
 ·omega
 ·refine⟨k,cap,rfl,hB,hn,hm,fun i hi=>?_,fun i=>hr.frozenAt i⟩
  rw[hr.cellAt i (by simpa using hi)]
  simp[List.getD,List.getElem?_eq_getElem hi]
theorem i64_and_nat(a b:Nat)(ha:a<2^62)(hb:b<2^62):bits .and .i64 (a:Int) (b:Int)=((a&&&b:Nat):Int):=by
 have hx:a&&&b<2^62:=Nat.and_lt_two_pow _ hb
 show IntKind.i64.wrap ((BitVec.ofInt 64 (a:Int)&&&BitVec.ofInt 64 (b:Int)).toNat:Int)=_
 rw[BitVec.toNat_and,ofInt_u64 a (by omega),ofInt_u64 b (by omega),IntKind.wrap_i64]
 omega
theorem i64_or_nat(a b:Nat)(ha:a<2^62)(hb:b<2^62):bits .or .i64 (a:Int) (b:Int)=((a|||b:Nat):Int):=by
 have hx:a|||b<2^62:=Nat.or_lt_two_pow ha hb
 show IntKind.i64.wrap ((BitVec.ofInt 64 (a:Int)|||BitVec.ofInt 64 (b:Int)).toNat:Int)=_
 rw[BitVec.toNat_or,ofInt_u64 a (by omega),ofInt_u64 b (by omega),IntKind.wrap_i64]
 omega
theorem and_bit(y:Nat)(h:y<65536):bits .and .i64 (y:Int) 1=((y%2:Nat):Int):=by
 rw[show(1:Int)=((1:Nat):Int) from rfl,i64_and_nat y 1 (by omega) (by omega),Nat.and_one_is_mod]
theorem or_u8(a c:Nat)(h1:a<256)(h2:c<256):bits .or .u8 (a:Int) (c:Int)=((a|||c:Nat):Int):=u8_or_nat a c h1 h2
set_option maxHeartbeats 3200000 in
set_option maxRecDepth 100000 in
theorem put_word(B g x n:Nat)(L:List Int)(f:Nat)(w0 w:World)(v:Value)(hW:Wt B g w L f v)(hb:Below B w0 w)(hB:B<=g)(hx:x<65536)(hn:n<=15)(hL:L.length<=4000000):
 Calls Tryz.prog 62 #[.pointer (some ⟨g,0,none⟩),.int .i64 (x:Int),.int .i64 (n:Int)] w fun e w'=>e= .returned (.tuple #[])∧(∃v',Wt B g w' (putP x n (L,f)).1 (putP x n (L,f)).2 v')∧Below B w0 w'∧Fr g w w':=by
 obtain⟨i0,hi,hz0,hz1,hz2⟩:=info_parts Tryz.info5Z
 have HW0:=hid hW
 have HB0:=hid hb
 have HBG:=hid hB
 have HLL:=hid hL
 clear hW hb hB hL
 obtain⟨N,hN⟩:∃k,k=n:=⟨_,rfl⟩
 have HN:=hid hN
 rw[<-hN] at hn|-
 clear hN
 go_enter Tryz.func62,Tryz.ntmps62
 go_wp2_with fail
 go_loopw [2] (fun y wr=>∃(k f':Nat) (L':List Int) (v':Value),y= .int .i64 (k:Int)∧k<=N∧Hid (putP x k (L',f')=putP x n (L,f))∧Hid (Wt B g wr L' f' v')∧Hid (Below B w0 wr)∧Hid (L'.length+k<=4000000+N)∧Hid (Fr g w wr)) (fun y _=>(intOf y).toNat)
 case atStart=>exact⟨N,f,L,v,rfl,by omega,by rw[HN.out];rfl,HW0.out,HB0.out,by have:=HLL.out;show L.length+N<=4000000+N;omega,Fr.refl _ _⟩
 case round=>
  obtain⟨k,f',L',v',rfl,hk,HP,HW,HB,HLN,HFR⟩:=hrel
  clear HW0 HB0 HLL
  rcases Nat.eq_zero_or_pos k with h0 | h0
  ·subst h0
   go_wp2
   go_end0
   exact⟨rfl,⟨v',by rw[HN.out,<-HP.out];exact HW.out⟩,HB.out,HFR.out⟩
  ·have hk0:(0:Int)<(k:Int):=by omega
   have c0:=Joins.cell_of_block HW.out.blk 0
   have c1:=Joins.cell_of_block HW.out.blk 1
   have u0:=Joins.unfrozen_of_block HW.out.blk 0
   have u1:=Joins.unfrozen_of_block HW.out.blk 1
   simp only[List.getElem?_toArray,List.getElem?_cons_zero,List.getElem?_cons_succ] at c0 c1
   by_cases hf:f'=0
   ·subst hf
    have HF0:=hid HW.out.row
    have hz:=HB.out.size
    have hLn:=HLN.out
    have HZERO:Hid (((0:Nat):Int)=0):=rfl
    simp only[Int.natCast_zero] at c1
    go_wp2_with (at_builtin;refine wpList_append_own _ rfl _ _ 24 rfl B 5 i0 (.int .u8 0) 1 1 Tryz.underlying24 hi hz0 hz1 hz2 rfl (by decide) _ _ _ rfl (HF0.out.alloc _) ⟨wr.heap.size,0,none⟩ 1 1 [.int .u8 0] rfl rfl ?c1 ?c2 ?c3 ?c4 ?c5 ?_)
    case c1=>
     intro j u hj
     match j,hj with
     | 0,hj=>simp at hj;subst hj;simp[Addr.add]
    case c2=>intro u hu;simp at hu;subst hu;rfl
    case c3=>unfold maxLen;omega
    case c4=>omega
    case c5=>have h1:=HBG.out;have h2:=HW.out.lt;simp;omega
    intro v1 w1 hown' hgrow hnn
    obtain⟨kb1,cp1,hvs⟩:∃kb1 cp1,v1= .slice (some ⟨kb1,0,none⟩) (L'.length+1) cp1:=by
     rcases hown'.2 with ⟨h,_⟩ | ⟨k1,c1,_,h,_⟩
     ·exact absurd h hnn
     ·exact⟨k1,c1,h⟩
    subst hvs
    clear hnn
    obtain⟨L1,hL1⟩:∃l,l=L'++ [0]:=⟨_,rfl⟩
    have HL1:=hid hL1
    have HM0:Hid (Wt B g (w1.setCell ⟨g,0,none⟩ (.slice (some ⟨kb1,0,none⟩) (L'.length+1) cp1)) L1 0 (.slice (some ⟨kb1,0,none⟩) (L'.length+1) cp1)):=by
     rw[hL1]
     exact(HW.out.alloc _).more hgrow (by rw[List.length_append,List.map_append];exact hown')
    have hbk:w1.heap[g]?=some (.cells #[v',.int .i64 ((0:Nat):Int)] 61 (0,0)):=(hgrow.block g (by have:=HW.out.lt;simp;omega) HW.out.ne.symm).trans (HW.out.alloc _).blk
    have HAN:Hid (0<L1.length):=by show 0<L1.length;rw[hL1];simp
    have HG2:Hid (Wt B g (((w1.setCell ⟨g,0,none⟩ (.slice (some ⟨kb1,0,none⟩) (L'.length+1) cp1)).setCell ⟨g,1,none⟩ (.int .i64 8)).setCell ⟨g,1,none⟩ (.int .i64 7)) L1 7 (.slice (some ⟨kb1,0,none⟩) (L'.length+1) cp1)):=(HM0.out.free 8 (by omega) (fun _=>HAN.out)).free 7 (by omega) (fun _=>HAN.out)
    have HBL0:=hid ((HB.out.alloc (show B<=wr.heap.size by have h1:=HBG.out;have h2:=HW.out.lt;omega) (.cells #[.int .u8 0] 5)).grown hgrow (by have h1:=HBG.out;have h2:=HW.out.lt;simp;omega) (fun j hj=>(HF0.out.lt j hj).1))
    have HB2:=hid (((HBL0.out.setCell (show B<=(Addr.mk g 0 none).block from HBG.out) (.slice (some ⟨kb1,0,none⟩) (L'.length+1) cp1)).setCell (show B<=(Addr.mk g 1 none).block from HBG.out) (.int .i64 8)).setCell (show B<=(Addr.mk g 1 none).block from HBG.out) (.int .i64 7))
    have HFR2:=hid ((((((HFR.out.trans (Fr.of_below (bel_allocZ wr (.cells #[.int .u8 0] 5)))).grown (HW.out.alloc _).row hgrow).atG (i:=0) (.slice (some ⟨kb1,0,none⟩) (L'.length+1) cp1)).atG (i:=1) (.int .i64 8)).atG (i:=1) (.int .i64 7)))
    have HLN1:Hid (L1.length+(k-1)<=4000000+N):=by show _<=_;rw[hL1];have:=HLN.out;simp;omega
    clear hL1 hown' hgrow c0 c1 u0 u1 hz hLn HZERO HF0 HBL0
    have c0:=Joins.cell_of_block hbk 0
    have c1:=Joins.cell_of_block hbk 1
    have u0:=Joins.unfrozen_of_block hbk 0
    have u1:=Joins.unfrozen_of_block hbk 1
    simp only[List.getElem?_toArray,List.getElem?_cons_zero,List.getElem?_cons_succ] at c0 c1
    have hmo:Tryz.prog.follows .mixedOrders=true:=by kernel_rfl
    clear hbk
    go_wp2_with fail
    generalize ((w1.setCell ⟨g,0,none⟩ (.slice (some ⟨kb1,0,none⟩) (L'.length+1) cp1)).setCell ⟨g,1,none⟩ (.int .i64 8)).setCell ⟨g,1,none⟩ (.int .i64 7)=W2 at *
    obtain⟨q,hq⟩:∃q:Nat,q=7:=⟨_,rfl⟩
    obtain⟨kk,hkk⟩:∃q:Nat,q=k-1:=⟨_,rfl⟩
    have hki:(k:Int)-1=(kk:Int):=by omega
    rw[hki]
    rw[<-hq] at HG2
    have HQ:=hid hq
    have HKK:=hid hkk
    clear hq hkk hki c0 c1 u0 u1
    have h0L:0<L1.length:=HAN.out
    obtain⟨kb,cp,hv1,hkb,hcp,hcm,hcl,hfz⟩:=HG2.out.cells h0L
    injection hv1 with e1 e2 e3
    injection e1 with e1
    injection e1 with e1
    subst e1 e3
    rw[e2] at HG2
    clear e2
    have HKB:=hid hkb
    clear hkb
    have c0:=Joins.cell_of_block HG2.out.blk 0
    have c1:=Joins.cell_of_block HG2.out.blk 1
    simp only[List.getElem?_toArray,List.getElem?_cons_zero,List.getElem?_cons_succ] at c0 c1
    obtain⟨m,hm⟩:∃m,m=L1.length-1:=⟨_,rfl⟩
    have cl:=hcl m (by omega)
    have fz:=hfz m
    obtain⟨ln,hln⟩:∃m,m=L1.length:=⟨_,rfl⟩
    have HLN2:=hid hln
    have HMM:Hid (m=L1.length-1):=hm
    have hmi:(ln:Int)-1=(m:Int):=by omega
    have hml:m<ln:=by omega
    have hmb:(ln:Int)<=5000000:=by have:=HLN1.out;omega
    rw[<-hln] at c0 hcp
    have hu8:=HG2.out.u8 m
    obtain⟨la,hla⟩:=Int.eq_ofNat_of_zero_le hu8.1
    have hla2:la<256:=by omega
    have HLA:Hid (L1.getD m 0=(la:Int)):=hla
    rw[hla] at cl
    obtain⟨y,hy⟩:∃y,y=x/2^kk:=⟨_,rfl⟩
    have HY:Hid (y=x/2^kk):=hy
    have hyx:y<65536:=by rw[hy];exact Nat.lt_of_le_of_lt (Nat.div_le_self _ _) hx
    have hsh:(x:Int)/2^kk=(y:Int):=by rw[hy];simp
    have hand:=and_bit y hyx
    obtain⟨b,hb⟩:∃b,b=y%2:=⟨_,rfl⟩
    have HBB:Hid (b=y%2):=hb
    rw[<-hb] at hand
    have hb2:b<2:=by omega
    have hkb:(kk:Int)<64:=by have:=HKK.out;omega
    have hwm:IntKind.i64.wrap (m:Int)=(m:Int):=by rw[IntKind.wrap_i64];omega
    have hwy:IntKind.i64.wrap (y:Int)=(y:Int):=by rw[IntKind.wrap_i64];omega
    have hwb:IntKind.u8.wrap (b:Int)=(b:Int):=by rw[IntKind.wrap_u8];omega
    have hq7:q<=7:=by have:=HQ.out;omega
    obtain⟨c,hc⟩:∃c,c=b*2^q:=⟨_,rfl⟩
    have hc256:c<256:=by
     have h1:2^q<=2^7:=Nat.pow_le_pow_right (by decide) hq7
     have h2:b*2^q<=1*2^7:=Nat.mul_le_mul (by omega) h1
     omega
    have hci:(b:Int)*2^q=(c:Int):=by rw[hc];simp
    have hwc:IntKind.u8.wrap (c:Int)=(c:Int):=by rw[IntKind.wrap_u8];omega
    have hor:=or_u8 la c hla2 hc256
    obtain⟨r,hr⟩:∃r,r=la|||c:=⟨_,rfl⟩
    rw[<-hr] at hor
    have HRR:Hid (r=la|||b*2^q):=by show _=_;rw[hr,hc]
    have hr256:r<256:=by rw[hr];exact Nat.or_lt_two_pow (n:=8) hla2 hc256
    clear hcl hfz hm hln hu8 hla hy hb h0L hc hr
    go_still_tail 24,hmo
    change wpList _ _ _ _ _ W2.drew
    have HWL:=hid ((HG2.out.last m (r:Int) (by omega)))
    obtain⟨cur,hcur⟩:=HG2.out.blkB
    have HFR3:=hid (HFR2.out.atB (i:=m) hcur (.int .u8 (r:Int))).drew
    clear hcur
    have HBL:=hid ((HB2.out.setCell (show B<=(Addr.mk kb1 m none).block from HKB.out) (.int .u8 (r:Int))).drew)
    have HPP:Hid (putP x kk (L1.set m (r:Int),q)=putP x n (L,f)):=by
     show _=_
     rw[<-HP.out,show k=kk+1 from by have:=HKK.out;omega,putP]
     unfold bitP
     rw[if_pos rfl,<-HY.out,<-HBB.out]
     have e1:L1.set m (r:Int)=L'++ [((b*128:Nat):Int)]:=by
      have hla0:la=0:=by
       have h:=HLA.out
       rw[HMM.out,HL1.out] at h
       simp[List.getD] at h
       omega
      rw[HRR.out,hla0,HQ.out,HMM.out,HL1.out]
      simp
     rw[e1,HQ.out]
    have HLL:Hid ((L1.set m (r:Int)).length+kk<=4000000+N):=by show _<=_;rw[List.length_set];have:=HLN1.out;have:=HKK.out;omega
    have hkk2:kk<k:=by have:=HKK.out;omega
    go_wp2
    exact⟨⟨kk,q,L1.set m (r:Int),_,rfl,by omega,HPP.out,HWL.out.drew,HBL.out,HLL.out,HFR3.out⟩,by simp[intOf];omega⟩
   ·have hfb:((f':Int)==0)=false:=by rw[beq_eq_false_iff_ne];omega
    have hfl:=HW.out.fl
    have HF2:=hid (HW.out.free (f'-1) (by omega) (fun _=>HW.out.any (by omega)))
    have hfe:((f'-1:Nat):Int)=(f':Int)-1:=by omega
    rw[hfe] at HF2
    have hmo:Tryz.prog.follows .mixedOrders=true:=by kernel_rfl
    have HAN:Hid (0<L'.length):=HW.out.any (by omega)
    go_wp2_with fail
    obtain⟨q,hq⟩:∃q:Nat,q=f'-1:=⟨_,rfl⟩
    obtain⟨kk,hkk⟩:∃q:Nat,q=k-1:=⟨_,rfl⟩
    have hqi:(f':Int)-1=(q:Int):=by omega
    have hki:(k:Int)-1=(kk:Int):=by omega
    rw[hqi,hki]
    rw[hqi,<-hq] at HF2
    have HQ:=hid hq
    have HKK:=hid hkk
    clear c0 c1 u0 u1 HW hq hkk hqi hki
    have HFR2:=hid (HFR.out.atG (i:=1) (.int .i64 (q:Int)))
    have hb2:=HB.out.setCell (show B<=(Addr.mk g 1 none).block from HBG.out) (.int .i64 (q:Int))
    have HB2:=hid hb2
    clear hb2
    generalize wr.setCell ⟨g,1,none⟩ (.int .i64 (q:Int))=W2 at *
    have h0L:0<L'.length:=HAN.out
    obtain⟨kb,cp,hv',hkb,hcp,hcm,hcl,hfz⟩:=HF2.out.cells h0L
    subst hv'
    have HKB:=hid hkb
    clear hkb
    have c0:=Joins.cell_of_block HF2.out.blk 0
    have c1:=Joins.cell_of_block HF2.out.blk 1
    simp only[List.getElem?_toArray,List.getElem?_cons_zero,List.getElem?_cons_succ] at c0 c1
    obtain⟨m,hm⟩:∃m,m=L'.length-1:=⟨_,rfl⟩
    have cl:=hcl m (by omega)
    have fz:=hfz m
    obtain⟨ln,hln⟩:∃m,m=L'.length:=⟨_,rfl⟩
    have HLN2:=hid hln
    have HMM:Hid (m=L'.length-1):=hm
    have hmi:(ln:Int)-1=(m:Int):=by omega
    have hml:m<ln:=by omega
    have hmb:(ln:Int)<=5000000:=by have:=HLN.out;omega
    rw[<-hln] at c0 hcp
    have hu8:=HF2.out.u8 m
    obtain⟨la,hla⟩:=Int.eq_ofNat_of_zero_le hu8.1
    have hla2:la<256:=by omega
    have HLA:Hid (L'.getD m 0=(la:Int)):=hla
    rw[hla] at cl
    obtain⟨y,hy⟩:∃y,y=x/2^kk:=⟨_,rfl⟩
    have HY:Hid (y=x/2^kk):=hy
    have hyx:y<65536:=by rw[hy];exact Nat.lt_of_le_of_lt (Nat.div_le_self _ _) hx
    have hsh:(x:Int)/2^kk=(y:Int):=by rw[hy];simp
    have hand:=and_bit y hyx
    obtain⟨b,hb⟩:∃b,b=y%2:=⟨_,rfl⟩
    have HBB:Hid (b=y%2):=hb
    rw[<-hb] at hand
    have hb2:b<2:=by omega
    have hkb:(kk:Int)<64:=by have:=HKK.out;omega
    have hwm:IntKind.i64.wrap (m:Int)=(m:Int):=by rw[IntKind.wrap_i64];omega
    have hwy:IntKind.i64.wrap (y:Int)=(y:Int):=by rw[IntKind.wrap_i64];omega
    have hwb:IntKind.u8.wrap (b:Int)=(b:Int):=by rw[IntKind.wrap_u8];omega
    have hq7:q<=7:=by have:=HQ.out;omega
    obtain⟨c,hc⟩:∃c,c=b*2^q:=⟨_,rfl⟩
    have hc256:c<256:=by
     have h1:2^q<=2^7:=Nat.pow_le_pow_right (by decide) hq7
     have h2:b*2^q<=1*2^7:=Nat.mul_le_mul (by omega) h1
     omega
    have hci:(b:Int)*2^q=(c:Int):=by rw[hc];simp
    have hwc:IntKind.u8.wrap (c:Int)=(c:Int):=by rw[IntKind.wrap_u8];omega
    have hor:=or_u8 la c hla2 hc256
    obtain⟨r,hr⟩:∃r,r=la|||c:=⟨_,rfl⟩
    rw[<-hr] at hor
    have HRR:Hid (r=la|||b*2^q):=by show _=_;rw[hr,hc]
    have hr256:r<256:=by rw[hr];exact Nat.or_lt_two_pow (n:=8) hla2 hc256
    clear hcl hfz hm hln hu8 hla hy hb h0L hc hr
    go_still_tail 24,hmo
    change wpList _ _ _ _ _ W2.drew
    have HWL:=hid ((HF2.out.last m (r:Int) (by omega)))
    obtain⟨cur,hcur⟩:=HF2.out.blkB
    have HFR3:=hid (HFR2.out.atB (i:=m) hcur (.int .u8 (r:Int))).drew
    clear hcur
    have HBL:=hid ((HB2.out.setCell (show B<=(Addr.mk kb m none).block from HKB.out) (.int .u8 (r:Int))).drew)
    have HPP:Hid (putP x kk (L'.set m (r:Int),q)=putP x n (L,f)):=by
     show _=_
     rw[<-HP.out,show k=kk+1 from by have:=HKK.out;omega,putP]
     unfold bitP
     rw[if_neg hf,<-HMM.out,HLA.out,Int.toNat_natCast,<-HY.out,<-HBB.out,<-HQ.out,<-HRR.out]
    have HLL:Hid ((L'.set m (r:Int)).length+kk<=4000000+N):=by show _<=_;rw[List.length_set];have:=HLN.out;have:=HKK.out;omega
    have hkk2:kk<k:=by have:=HKK.out;omega
    go_wp2
    exact⟨⟨kk,q,L'.set m (r:Int),_,rfl,by omega,HPP.out,HWL.out.drew,HBL.out,HLL.out,HFR3.out⟩,by simp[intOf];omega⟩
end Go.Proofs.YtelnefngkdfcoaaGreat
/-
 A code's tree: the contract of codec's grown.
-/
namespace Go.Proofs.YtelnefngkdfcoaaGreat
open Go.RowKit Hf
theorem flat_ent(T:Tr)(i b:Nat)(hb:b<2):(flatN T).getD (i*2+b) 0=ent T i b:=by
 unfold ent
 by_cases e:b=0
 ·subst e;rw[if_pos rfl,Nat.add_zero,Nat.mul_comm];exact flatN_wt T i
 ·obtain rfl:b=1:=by omega
  rw[if_neg (by omega),Nat.mul_comm];exact flatN_inn T i
theorem flat_setE(T:Tr)(i b:Nat)(x:Int)(hi:i<T.length)(hb:b<2):(flatN T).set (i*2+b) x=flatN (setE T i b x):=by
 unfold setE
 induction T generalizing i with
 | nil=>simp at hi
 | cons y T ih=>
   cases i with
   | zero=>
     by_cases e:b=0
     ·subst e;simp[flatN_cons]
     ·obtain rfl:b=1:=by omega
      simp[flatN_cons]
   | succ i=>
     have:=ih i (by simpa using hi)
     rw[show(i+1)*2+b=i*2+b+1+1 from by omega]
     simp only[flatN_cons,List.set_cons_succ,List.getD_cons_succ]
     rw[this]
theorem Tryz.info155:(Tryz.prog.info? 155).map (fun i=>(i.zero,i.size,i.bytes))=some (some (.agg #[.int .i64 0,.int .i64 0]),2,16):=by kernel_rfl
def Tm(B:Nat)(w:World)(v:Value)(T:Tr):Prop:=w.ownsRow B 155 2 v T.length ((flatN T).map (Value.int .i64))
theorem Tm.cells{B:Nat}{w:World}{v:Value}{T:Tr}(h:Tm B w v T)(h0:0<T.length):∃g cap,v= .slice (some ⟨g,0,none⟩) T.length cap∧B<=g∧T.length<=cap∧cap<=maxLen∧(∀i b,i<T.length->b<2->w.cell? ⟨g,i*2+b,none⟩=some (.int .i64 (ent T i b)))∧∀k,w.frozen? ⟨g,k,none⟩=false:=by
 have hr:=h
 unfold Tm at hr
 rcases hr.2 with ⟨_,h2⟩ | ⟨g,cap,cur,rfl,hB,hh,hn,hm,_⟩
 ·omega
 ·refine⟨g,cap,rfl,hB,hn,hm,fun i b hi hb=>?_,fun k=>hr.frozenAt k⟩
  have hlt:i*2+b<((flatN T).map (Value.int .i64)).length:=by rw[List.length_map,flatN_length];omega
  rw[hr.cellAt _ (by omega),<-flat_ent T i b hb]
  simp only[List.length_map] at hlt
  simp[List.getD,List.getElem?_eq_getElem hlt]
theorem Tm.put{B g cap:Nat}{w:World}{T:Tr}(h:Tm B w (.slice (some ⟨g,0,none⟩) T.length cap) T)(i b:Nat)(x:Int)(hi:i<T.length)(hb:b<2):Tm B (w.setCell ⟨g,i*2+b,none⟩ (.int .i64 x)) (.slice (some ⟨g,0,none⟩) T.length cap) (setE T i b x):=by
 unfold Tm at h|-
 have hs:=(h.stored (i*2+b) (.int .i64 x)).1
 rw[<-List.map_set,flat_setE T i b x hi hb] at hs
 rw[setE_length];exact hs
theorem two_new(w:World)(x y:Value)(t:TypeId):∀j u,[x,y][j]?=some u->(w.alloc (.cells #[x,y] t)).cell? (Addr.add ⟨w.heap.size,0,none⟩ j)=some u:=by
 intro j u hj
 have h:=heap_new w (.cells #[x,y] t)
 have h2:(w.alloc (.cells #[x,y] t)).cell? (Addr.add ⟨w.heap.size,0,none⟩ j)= #[x,y][j]?:=by
  rw[Go.WideShapes.add_plain]
  simp only[World.cell?,h,Nat.zero_add];rfl
 rw[h2,<-hj]
 simp
theorem and_u16(y:Nat)(h:y<65536):bits .and .u16 (y:Int) 1=((y%2:Nat):Int):=by
 rw[show(1:Int)=((1:Nat):Int) from rfl,u16_and_nat y 1 h (by omega),Nat.and_one_is_mod]
set_option maxHeartbeats 6400000 in
set_option maxRecDepth 100000 in
theorem tgrown_word(W w:World)(v:Value)(T:Tr)(P:List (Nat×Nat))(S:Nat×Nat->Prop)(s c n:Nat)(hown:Tm W.heap.size w v T)(hbel:Below W.heap.size W w)(hT:Tv T P S)(hn:1<=n)(hn2:n<=15)(hc:c<2^n)(hs:s<=1000)(hlen:T.length<=100000)
 (hap:∀l p,S (l,p)->l<n->c/2^(n-l)≠p) :
 Calls Tryz.prog 97 #[v,.int .i64 (s:Int),.int .u16 (c:Int),.int .i64 (n:Int)] w fun e w'=>∃v',e= .returned v'∧Tm W.heap.size w' v' (growF s c (n-1) 0 T)∧Below W.heap.size W w':=by
 obtain⟨i0,hi,hz0,hz1,hz2⟩:=info_parts Tryz.info155
 have hc16:c<65536:=Nat.lt_of_lt_of_le hc (by have:=Nat.pow_le_pow_right (show 0<2 by decide) (show n<=16 by omega);simpa using this)
 have HAP:=hid hap
 have HST:Hid (∃(T':Tr) (P':List (Nat×Nat)),Tm W.heap.size w v T'∧Tv T' P' S∧0<T'.length∧P'.getD 0 (0,0)=(n-1-(n-1),c/2^(n-1+1))∧growF s c (n-1) 0 T'=growF s c (n-1) 0 T∧T'.length+(n-1)<=100100):=
  ⟨T,P,hown,hT,hT.pos,by rw[hT.root,show n-1+1=n from by omega,Nat.div_eq_of_lt hc,Nat.sub_self],rfl,by omega⟩
 have HB:=hid hbel
 clear hown hbel hT hap
 obtain⟨m0,hm0⟩:∃m,m=n-1:=⟨_,rfl⟩
 have HM0:=hid hm0
 rw[<-hm0] at HST|-
 have HNI:Hid ((n:Int)-1=(m0:Int)):=by show _=_;omega
 have hm14:m0<=14:=by omega
 clear hm0
 go_enter Tryz.func97,Tryz.ntmps97
 go_wp2_with fail
 rw[HNI.out]
 clear HNI
 go_loopw [0,3,9,10] (fun x y z _ wr=>∃(m at_:Nat),y= .int .i64 (m:Int)∧z= .int .i64 (at_:Int)∧m<=m0∧Hid (Below W.heap.size W wr)∧Hid (∃(T':Tr) (P':List (Nat×Nat)),Tm W.heap.size wr x T'∧Tv T' P' S∧at_<T'.length∧P'.getD at_ (0,0)=(m0-m,c/2^(m+1))∧growF s c m at_ T'=growF s c m0 0 T∧T'.length+m<=100100)) (fun _ y _ _ _=>(intOf y).toNat)
 case atStart=>exact⟨m0,0,rfl,rfl,by omega,HB.out,HST.out⟩
 case round=>
  obtain⟨m,at_,rfl,rfl,hm,HB1,HX⟩:=hrel
  clear HST HB
  obtain⟨T',P',hTm,hTv,hat,hP,hg,hln⟩:=HX.out
  clear HX
  obtain⟨g,cap,hv,hgB,hcap,hcm,hcl,hfz⟩:=hTm.cells hTv.pos
  subst hv
  rcases Nat.eq_zero_or_pos m with h0 | h0
  ·subst h0
   obtain⟨b,hb⟩:∃b,b=c%2:=⟨_,rfl⟩
   have hand:=and_u16 c hc16
   rw[<-hb] at hand
   have hb2:b<2:=by omega
   have hbi:(b:Int)<2:=by omega
   have ce:=hcl at_ b hat hb2
   have fe:=hfz (at_*2+b)
   have hati:(at_:Int)<(T'.length:Int):=by omega
   have HG0:Hid (growF s c m0 0 T=setE T' at_ b (-(s:Int)-1)):=by show _=_;rw[<-hg,growF,<-hb]
   have HTM:=hid (hTm.put at_ b (-(s:Int)-1) hat hb2)
   have HB3:=hid (HB1.out.setCell (p:=⟨g,at_*2+b,none⟩) hgB (.int .i64 (-(s:Int)-1)))
   obtain⟨tl,htl⟩:∃x,x=T'.length:=⟨_,rfl⟩
   rw[<-htl] at hat hcap hati HTM
   rw[<-htl]
   clear hb hcl hfz hTm hTv hP hg hln htl
   have hnot:bits .xor .i64 (-1) (s:Int)= -(s:Int)-1:=by rw[i64_not s (by omega)];omega
   go_wp2_with fail
   go_ret
   refine⟨_,rfl,?_,HB3.out⟩
   rw[HG0.out]
   exact HTM.out
  ·obtain⟨q,rfl⟩:∃q,m=q+1:=⟨m-1,by omega⟩
   have hq0:(0:Int)<((q:Int)+1):=by omega
   obtain⟨y,hy⟩:∃y,y=c/2^(q+1):=⟨_,rfl⟩
   have hyl:y<65536:=by rw[hy];exact Nat.lt_of_le_of_lt (Nat.div_le_self _ _) hc16
   have hsh:(c:Int)/2^(q+1)=(y:Int):=by rw[hy];simp
   have hand:=and_u16 y hyl
   obtain⟨b,hb⟩:∃b,b=y%2:=⟨_,rfl⟩
   rw[<-hb] at hand
   have hb2:b<2:=by omega
   have hbi:(b:Int)<2:=by omega
   have ce:=hcl at_ b hat hb2
   have fe:=hfz (at_*2+b)
   have hati:(at_:Int)<(T'.length:Int):=by omega
   have HG0:Hid (growF s c (q+1) at_ T'=if ent T' at_ b=0 then growF s c q T'.length (setE T' at_ b (T'.length:Int)++ [(0,0)]) else growF s c q (ent T' at_ b).toNat T'):=by show _=_;rw[growF,<-hy,<-hb]
   have HY:=hid hy
   have HBB:=hid hb
   have HTM:=hid hTm
   have HTV:=hid hTv
   have HPP:=hid hP
   have HGG:=hid hg
   have HLN:=hid hln
   obtain⟨tl,htl⟩:∃x,x=T'.length:=⟨_,rfl⟩
   have HTL:=hid htl
   rw[<-htl] at hat hcap hati HG0 HTM
   rw[<-htl]
   clear hy hb hcl hfz hTm hTv hP hg hln htl
   have hmi:((q+1:Nat):Int)=(q:Int)+1:=by omega
   rw[hmi]
   by_cases he:ent T' at_ b=0
   ·rw[he] at ce
    rw[if_pos he] at HG0
    have hB1s:=HB1.out.size
    have HO2:Hid ((wr.setCell ⟨g,at_*2+b,none⟩ (.int .i64 (tl:Int))).ownsRow W.heap.size 155 2 (.slice (some ⟨g,0,none⟩) tl cap) tl ((flatN (setE T' at_ b (tl:Int))).map (Value.int .i64))):=by
     have h1:=HTM.out
     rw[HTL.out] at h1|-
     have h2:=h1.put at_ b (T'.length:Int) (by rw[<-HTL.out];exact hat) hb2
     unfold Tm at h2
     rw[setE_length] at h2
     exact h2
    have HNW:Hid (∀j u,[Value.int .i64 0,Value.int .i64 0][j]?=some u->((wr.setCell ⟨g,at_*2+b,none⟩ (.int .i64 (tl:Int))).alloc (.cells #[.int .i64 0,.int .i64 0] 155)).cell? (Addr.add ⟨wr.heap.size,0,none⟩ j)=some u):=by
     have h1:=two_new (wr.setCell ⟨g,at_*2+b,none⟩ (.int .i64 (tl:Int))) (.int .i64 0) (.int .i64 0) 155
     rw[World.size_setCell] at h1
     exact h1
    have htl9:tl<=100100:=by have:=HLN.out;have:=HTL.out;omega
    go_wp2_with (at_builtin;refine wpList_append_own _ rfl _ _ 119 rfl W.heap.size 155 i0 (.agg #[.int .i64 0,.int .i64 0]) 2 16 Tryz.underlying119 hi hz0 hz1 hz2 rfl (by decide) _ _ _ rfl (HO2.out.alloc _) ⟨wr.heap.size,0,none⟩ 1 1 [.int .i64 0,.int .i64 0] rfl rfl HNW.out (by simp[Value.oneCell']) (by unfold maxLen;omega) (by omega) (by simp;omega) ?_)
    intro v' w3 hown3 hgrow3 _
    have HB3:Hid (Below W.heap.size W w3):=by
     refine((HB1.out.setCell (p:=⟨g,at_*2+b,none⟩) hgB _).alloc (by simp;omega) _).grown hgrow3 (by simp;omega) (fun k hk=>?_)
     simp only[Value.ownBlock,Option.some.injEq] at hk
     omega
    obtain⟨T2,hT2⟩:∃x,x=setE T' at_ b (tl:Int)++ [(0,0)]:=⟨_,rfl⟩
    have hl2:T2.length=tl+1:=by rw[hT2,List.length_append,setE_length,<-HTL.out];rfl
    have hTm2:Tm W.heap.size w3 v' T2:=by
     unfold Tm
     rw[hl2,hT2,flatN_app,List.map_append]
     exact hown3
    have HTV2:Hid (Tv T2 (P'++ [((P'.getD at_ (0,0)).1+1,2*(P'.getD at_ (0,0)).2+b)]) S):=by
     have:=HTV.out.node at_ b (by rw[<-HTL.out];exact hat) hb2
     rw[<-HTL.out,<-hT2] at this
     exact this
    have HP2:Hid ((P'++ [((P'.getD at_ (0,0)).1+1,2*(P'.getD at_ (0,0)).2+b)]).getD tl (0,0)=(m0-q,c/2^(q+1))):=by
     have h1:=HTV.out.len
     have h2:=HTL.out
     have h3:=half c (q+1)
     have h4:=HBB.out
     rw[HY.out] at h4
     show _=_
     rw[h2,<-h1,HPP.out]
     simp only[List.getD,List.getElem?_concat_length,Option.getD_some,Prod.mk.injEq]
     exact⟨by omega,by omega⟩
    obtain⟨g3,cap3,hv3,hgB3,hcap3,hcm3,hcl3,hfz3⟩:=hTm2.cells HTV2.out.pos
    subst hv3
    have HTM2:=hid hTm2
    have ce3:=hcl3 at_ b (by omega) hb2
    rw[hT2,ent_app,ent_setE T' at_ b _ (by rw[<-HTL.out];exact hat) at_ b hb2 hb2,if_pos ⟨rfl,rfl⟩] at ce3
    rw[<-hT2] at HG0
    rw[hl2] at hcap3 HTM2
    rw[hl2]
    have HL2:=hid hl2
    clear hown3 hgrow3 hT2 hl2 hTm2 hcl3 hfz3 ce fe
    have hati3:(at_:Int)<((tl+1:Nat):Int):=by omega
    go_wp2_with fail
    refine⟨⟨q,tl,rfl,rfl,by omega,HB3,T2,_,HTM2.out,HTV2.out,by rw[HL2.out];omega,HP2.out,by rw[<-HG0.out];exact HGG.out,by have:=HLN.out;have:=HTL.out;rw[HL2.out];omega⟩,?_⟩
    simp only[intOf]
    omega
   ·have hpos:0<ent T' at_ b:=by
     rcases Int.lt_trichotomy (ent T' at_ b) 0 with h | h | h
     ·exfalso
      have h1:=HTV.out.leaf at_ b (by rw[<-HTL.out];exact hat) hb2 h
      have h3:=half c (q+1)
      have h4:=HBB.out
      have h5:=HM0.out
      rw[HY.out] at h4
      rw[HPP.out] at h1
      refine HAP.out _ _ h1 (by dsimp only;omega) ?_
      dsimp only
      rw[show n-(m0-(q+1)+1)=q+1 from by omega]
      omega
     ·exact absurd h he
     ·exact h
    have hup:=HTV.out.up at_ b (by rw[<-HTL.out];exact hat) hb2 hpos
    rw[if_neg he] at HG0
    obtain⟨e,hee⟩:∃e:Nat,ent T' at_ b=(e:Int):=⟨_,(Int.toNat_of_nonneg (by omega)).symm⟩
    rw[hee] at HG0 hup ce hpos
    rw[Int.toNat_natCast] at HG0 hup
    have HUP:=hid hup
    have he0:¬(e:Int)=0:=by omega
    clear hup hee he
    go_wp2_with fail
    refine⟨⟨q,e,rfl,rfl,by omega,HB1,T',P',HTM.out,HTV.out,HUP.out.1,?_,by rw[<-HG0.out];exact HGG.out,by have:=HLN.out;omega⟩,?_⟩
    ·have h3:=half c (q+1)
     have h4:=HBB.out
     rw[HY.out] at h4
     rw[HUP.out.2,HPP.out]
     simp only[Prod.mk.injEq]
     exact⟨by omega,by omega⟩
    ·simp only[intOf]
     omega
theorem treeOf_no(a:Option Addr)(cap:Nat)(zs:List Int)(w:World)(hr:Ri w .i64 a cap zs)(hc:checkB zs=false):
 Calls Tryz.prog 69 #[.slice a zs.length cap] w fun e w'=>e= .panicked faultC∧Below w.heap.size w w':=by
 have HC:=hid (codes_no a cap zs w hr hc)
 generalize zs.length=len at *
 clear hr hc
 go_enter Tryz.func69,Tryz.ntmps69
 go_wp2_with fail
 refine HC.out.mono ?_
 rintro _ w1 ⟨rfl,hb1⟩
 go_wp2_with fail
 refine(need_no w1).mono ?_
 rintro _ w2 ⟨rfl,rfl⟩
 exact⟨rfl,rfl,hb1⟩
set_option maxHeartbeats 6400000 in
set_option maxRecDepth 100000 in
theorem treeOf_word(a:Option Addr)(cap:Nat)(zs:List Int)(w:World)(hr:Ri w .i64 a cap zs)(hc:checkB zs=true):
 Calls Tryz.prog 69 #[.slice a zs.length cap] w fun e w'=>∃v,e= .returned v∧Tm w.heap.size w' v (treeG zs zs.length)∧Below w.heap.size w w':=by
 have HC:=hid (codes_word a cap zs w hr hc)
 have HCB:=hid hc
 have hok:lenOk zs=true:=by unfold checkB at hc;rw[Bool.and_eq_true] at hc;exact hc.1
 have hlen:=(lenOk_all hok).1
 have HA:=hid (lenOk_all hok).2
 have HR:=hid hr
 obtain⟨len,hl⟩:∃n,n=zs.length:=⟨_,rfl⟩
 have HL:=hid hl
 rw[<-hl] at hlen HC|-
 clear hr hc hok hl
 go_enter Tryz.func69,Tryz.ntmps69
 go_wp2_with fail
 refine HC.out.mono ?_
 rintro _ w0 ⟨cv,rfl,hown1,hb1⟩
 go_wp2_with fail
 refine(need_yes w0).mono ?_
 rintro _ w1 ⟨rfl,rfl⟩
 have HO1:=hid hown1
 have HB1:=hid hb1
 have hw1:=hb1.size
 clear HC hown1 hb1
 go_wp2_with fail
 have HT0:Hid (Tm w1.heap.size (w1.alloc (.cells #[.int .i64 0,.int .i64 0] 155)) (.slice (some ⟨w1.heap.size,0,none⟩) 1 1) (treeG zs 0)):=by
  unfold Tm
  exact⟨rfl,.inr ⟨w1.heap.size,1,_,rfl,Nat.le_refl _,heap_new _ _,Nat.le_refl _,by unfold maxLen;omega,rfl,rfl⟩⟩
 have HB0:=hid (bel_alloc w1 (.cells #[.int .i64 0,.int .i64 0] 155))
 go_loopw [5,6,7,20] (fun t _ _ i wr=>∃k:Nat,k<=len∧i= .int .i64 k∧Hid (Below w1.heap.size w1 wr)∧Hid (Tm w1.heap.size wr t (treeG zs k))) (fun _ _ _ i _=>len-(intOf i).toNat)
 case atStart=>exact⟨0,by omega,rfl,HB0,HT0⟩
 case round=>
  obtain⟨k,hk,rfl,HB,HTM⟩:=hrel
  clear HT0 HB0
  by_cases hlt:k<len
  ·have hkl:(k:Int)<(len:Int):=by omega
   have HZ:Hid (k<zs.length):=by show _<_;rw[<-HL.out];exact hlt
   obtain⟨b,off,rfl,hbw,hc⟩:=(HR.out).cells (by rw[<-HL.out];omega)
   have ck:wr.cell? ⟨b,off+k,none⟩=some (.int .i64 (zs.getD k 0)):=((Bn HB1.out HB.out).cell (p:=⟨b,off+k,none⟩) hbw).trans (hc k HZ.out)
   have hrng:=HA.out _ (getD_mem zs k HZ.out)
   clear hc
   by_cases hz:0<zs.getD k 0
   ·have hcl:=codesL_length zs
    have how:=own_later HO1.out HB.out
    rcases how.2 with ⟨_,h2⟩ | ⟨gc,capc,curc,hv,hgB,hgc,hnc,hcm,_,_⟩
    ·rw[hcl,<-HL.out] at h2;omega
    ·subst hv
     have hlc:k<((codesL zs).map (Value.int .u16)).length:=by rw[List.length_map,hcl];exact HZ.out
     obtain⟨n,hn⟩:∃n:Nat,zs.getD k 0=(n:Int):=⟨(zs.getD k 0).toNat,by omega⟩
     rw[hn] at hrng hz ck
     have hcd:codeN zs k<2^n:=codeN_lt HCB.out k n HZ.out hn (by omega) (by omega)
     have h15:2^n<=2^15:=Nat.pow_le_pow_right (by decide) (by omega)
     have hcF:(codesL zs).getD k 0=(codeN zs k:Int):=by
      rw[codesL_getD zs k HZ.out]
      unfold codeF
      rw[hn,if_pos hz,Nat.mod_eq_of_lt (by simp at h15;omega)]
     have cc:wr.cell? ⟨gc,k,none⟩=some (.int .u16 (codeN zs k:Int)):=by
      rw[how.cellAt k (by simpa using hlc),<-hcF]
      rw[List.length_map] at hlc
      simp[List.getD,List.getElem?_eq_getElem hlc]
     rw[hcl,<-HL.out]
     have hcl2:(codesL zs).length=len:=by rw[hcl,HL.out]
     obtain⟨P,hTv,hTl⟩:=treeG_tv HCB.out k (by rw[<-HL.out];exact hk)
     have hap:=coS_apart (zs:=zs) k n HZ.out hn
     have HG:=hid (tgrown_word w1 wr u5 (treeG zs k) P (coS zs (k+1)) k (codeN zs k) n HTM.out HB.out (hTv.mono (fun x ⟨s,hs,hx⟩=>⟨s,by omega,hx⟩)) (by omega) (by omega) hcd (by omega) (by omega) hap)
     have HE:Hid (treeG zs (k+1)=growF k (codeN zs k) (n-1) 0 (treeG zs k)):=by
      show _=_
      rw[treeG,hn,if_pos hz,Int.toNat_natCast]
     clear how hlc hcd h15 hcF hcl hcl2 hTv hTl hap hn HTM HB
     go_wp2_with fail
     refine HG.out.mono ?_
     rintro _ w4 ⟨v4,rfl,hT4,hb4⟩
     have HT4:Hid (Tm w1.heap.size w4 v4 (treeG zs (k+1))):=by show Tm _ _ _ _;rw[HE.out];exact hT4
     have HB4:=hid hb4
     clear hT4 hb4 HG HE
     go_wp2_with fail
     exact⟨⟨k+1,by omega,rfl,HB4,HT4⟩,by simp only[intOf];omega⟩
   ·have HE:Hid (treeG zs (k+1)=treeG zs k):=by
     show _=_
     rw[treeG,if_neg hz]
    rw[<-HE.out] at HTM
    generalize zs.getD k 0=z at *
    go_wp2_with fail
    exact⟨⟨k+1,by omega,rfl,HB,HTM⟩,by simp only[intOf];omega⟩
  ·have:k=len:=by omega
   subst this
   go_wp2_with fail
   go_ret
   refine⟨_,rfl,?_,Bn HB1.out HB.out⟩
   have:=HTM.out
   unfold Tm at this|-
   rcases this.2 with h | ⟨g,cp,cur,h1,h2,h3⟩
   ·exact⟨this.1,.inl h⟩
   ·exact⟨this.1,.inr ⟨g,cp,cur,h1,Nat.le_trans hw1 h2,h3⟩⟩
end Go.Proofs.YtelnefngkdfcoaaGreat
/-
 Bits out of bytes: the contract of the reader's bit.
-/
namespace Go.Proofs.YtelnefngkdfcoaaGreat
open Go.RowKit
abbrev Bst:=List Int×Nat×Nat
def bitR:Bst->Option (Nat×Bst)
 | ([],_,0)=>none
 | (z::zs,_,0)=>some (z.toNat/2^7%2,(zs,z.toNat,7))
 | (zs,l,n+1)=>some (l/2^n%2,(zs,l,n))
structure Fg (g:Nat) (w w':World):Prop where
 size:w'.heap.size=w.heap.size
 same:∀i,i≠g->w'.heap[i]?=w.heap[i]?
theorem Fg.refl(g:Nat)(w:World):Fg g w w:=⟨rfl,fun _ _=>rfl⟩
theorem Fg.trans{g:Nat}{a b c:World}(h:Fg g a b)(k:Fg g b c):Fg g a c:=⟨k.size.trans h.size,fun i hi=>(k.same i hi).trans (h.same i hi)⟩
theorem Fg.put{g i:Nat}{w w':World}(h:Fg g w w')(x:Value):Fg g w (w'.setCell ⟨g,i,none⟩ x):=⟨by simpa using h.size,fun j hj=>(Below.heap_setCell w' ⟨g,i,none⟩ x j hj).trans (h.same j hj)⟩
theorem Fg.drew{g:Nat}{w w':World}(h:Fg g w w'):Fg g w w'.drew:=⟨h.size,h.same⟩
def Rk(w0 w:World)(g:Nat)(s:Bst):Prop:=s.2.1<256∧s.2.2<=8∧∃a cap,Rr w0 w g 82 [.int .u8 (s.2.1:Int),.int .i64 (s.2.2:Int)] a cap s.1
theorem Rr.one{w0 w:World}{g:Nat}{t:TypeId}{x y:Value}{a:Option Addr}{cap:Nat}{zs:List Int}(h:Rr w0 w g t [x,y] a cap zs)(u:Value):Rr w0 (w.setCell ⟨g,1,none⟩ u) g t [u,y] a cap zs:=by
 refine⟨?_,h.row,h.bel.setCell (show w0.heap.size<=(Addr.mk g 1 none).block from h.ge) _,h.ge⟩
 rw[Joins.block_setCell h.blk];simp
theorem Rr.two{w0 w:World}{g:Nat}{t:TypeId}{x y:Value}{a:Option Addr}{cap:Nat}{zs:List Int}(h:Rr w0 w g t [x,y] a cap zs)(u:Value):Rr w0 (w.setCell ⟨g,2,none⟩ u) g t [x,u] a cap zs:=by
 refine⟨?_,h.row,h.bel.setCell (show w0.heap.size<=(Addr.mk g 2 none).block from h.ge) _,h.ge⟩
 rw[Joins.block_setCell h.blk];simp
theorem Rr.drew{w0 w:World}{g:Nat}{t:TypeId}{tl:List Value}{a:Option Addr}{cap:Nat}{zs:List Int}(h:Rr w0 w g t tl a cap zs):Rr w0 w.drew g t tl a cap zs:=⟨h.blk,h.row,h.bel.drew,h.ge⟩
def BitPost(w0 w:World)(g:Nat)(s:Bst)(e:Ending)(w':World):Prop:=
 match bitR s with
 | none=>e= .panicked faultC∧w'=w
 | some (b,s')=>e= .returned (.int .i64 (b:Int))∧Rk w0 w' g s'∧Fg g w w'
set_option maxHeartbeats 1600000 in
set_option maxRecDepth 100000 in
theorem bit_word(w0 w:World)(g:Nat)(s:Bst)(h:Rk w0 w g s):Calls Tryz.prog 101 #[.pointer (some ⟨g,0,none⟩)] w (BitPost w0 w g s):=by
 obtain⟨zs,la,n⟩:=s
 obtain⟨hla,hn8,a,cap,hR⟩:=h
 dsimp only at *
 have c1:=Joins.cell_of_block hR.blk 1
 have c2:=Joins.cell_of_block hR.blk 2
 have u1:=Joins.unfrozen_of_block hR.blk 1
 have u2:=Joins.unfrozen_of_block hR.blk 2
 simp only[List.getElem?_toArray,List.getElem?_cons_zero,List.getElem?_cons_succ] at c1 c2
 cases n with
 | zero=>
   simp only[Int.natCast_zero] at c2
   cases zs with
   | nil=>
     have HN:=hid (next_none w0 w g 82 _ a cap hR)
     unfold BitPost
     simp only[bitR]
     go_enter Tryz.func101,Tryz.ntmps101
     go_wp2_with fail
     go_at_call 85
     refine HN.out.mono ?_
     rintro _ w1 ⟨rfl,hw⟩
     obtain rfl:=hw.symm
     exact⟨rfl,rfl,rfl⟩
   | cons z zs=>
     have HN:=hid (next_some w0 w g 82 _ a cap z zs hR)
     have hz8:=wf_u8 (by have:=hR.row.fits 0;simpa using this:(Lit.int .u8 z).wf=true)
     obtain⟨zn,hzn⟩:=Int.eq_ofNat_of_zero_le hz8.1
     subst hzn
     have hzl:zn<256:=by omega
     unfold BitPost
     simp only[bitR,Int.toNat_natCast]
     obtain⟨y,hy⟩:∃y,y=zn/2^7:=⟨_,rfl⟩
     have hyl:y<256:=by rw[hy];exact Nat.lt_of_le_of_lt (Nat.div_le_self _ _) hzl
     have hsh:(zn:Int)/2^7=(y:Int):=by rw[hy];simp
     have hsh2:(zn:Int)/128=(y:Int):=by rw[<-hsh];rfl
     have hand:=and_bit y (by omega)
     rw[<-hy]
     have HRR:=hid hR
     clear hy hR u1 u2 hz8
     go_enter Tryz.func101,Tryz.ntmps101
     go_wp2_with fail
     go_at_call 85
     refine HN.out.mono ?_
     rintro _ w1 ⟨rfl,a',c',rfl,hr'⟩
     have hR1:=HRR.out.put hr'
     have f1:=Joins.cell_of_block hR1.blk 1
     have f2:=Joins.cell_of_block hR1.blk 2
     have v1:=Joins.unfrozen_of_block hR1.blk 1
     have v2:=Joins.unfrozen_of_block hR1.blk 2
     simp only[List.getElem?_toArray,List.getElem?_cons_zero,List.getElem?_cons_succ] at f1 f2
     have HF0:=hid ((Fg.refl g w).put (i:=0) (.slice a' zs.length c'))
     have HR1:=hid hR1
     clear hR1 hr' HN HRR c1 c2
     generalize w.setCell ⟨g,0,none⟩ (.slice a' zs.length c')=W1 at *
     have HR2:Hid (Rr w0 (((W1.setCell ⟨g,1,none⟩ (.int .u8 (zn:Int))).setCell ⟨g,2,none⟩ (.int .i64 8)).setCell ⟨g,2,none⟩ (.int .i64 7)) g 82 [.int .u8 (zn:Int),.int .i64 7] a' c' zs):=(((HR1.out.one (.int .u8 (zn:Int))).two (.int .i64 8)).two (.int .i64 7))
     have HF:=hid (((HF0.out.put (i:=1) (.int .u8 (zn:Int))).put (i:=2) (.int .i64 8)).put (i:=2) (.int .i64 7))
     clear HF0 HR1
     go_wp2_with fail
     clear f1 f2 v1 v2
     generalize ((W1.setCell ⟨g,1,none⟩ (.int .u8 (zn:Int))).setCell ⟨g,2,none⟩ (.int .i64 8)).setCell ⟨g,2,none⟩ (.int .i64 7)=W2 at *
     have e1:=Joins.cell_of_block HR2.out.blk 1
     have e2:=Joins.cell_of_block HR2.out.blk 2
     simp only[List.getElem?_toArray,List.getElem?_cons_zero,List.getElem?_cons_succ] at e1 e2
     have HRD:=hid HR2.out.drew
     have HFD:=hid HF.out.drew
     clear HR2 HF
     go_region
     clear e1 e2
     generalize W2.drew=W3 at *
     go_wp2
     go_ret
     exact⟨rfl,⟨hzl,by show 7<=8;omega,_,_,HRD.out⟩,HFD.out⟩
 | succ n=>
   have HR2:=hid (hR.two (.int .i64 (n:Int)))
   have hni:((n+1:Nat):Int)=(n:Int)+1:=by omega
   rw[hni] at c2
   have hnb:(((n:Int)+1)==0)=false:=by rw[beq_eq_false_iff_ne];omega
   have HF:=hid ((Fg.refl g w).put (i:=2) (.int .i64 (n:Int)))
   have hn7:n<=7:=by omega
   unfold BitPost
   simp only[bitR]
   obtain⟨y,hy⟩:∃y,y=la/2^n:=⟨_,rfl⟩
   have hyl:y<256:=by rw[hy];exact Nat.lt_of_le_of_lt (Nat.div_le_self _ _) hla
   have hsh:(la:Int)/2^n=(y:Int):=by rw[hy];simp
   have hand:=and_bit y (by omega)
   rw[<-hy]
   clear hy hR hni u1
   go_enter Tryz.func101,Tryz.ntmps101
   go_wp2_with fail
   clear c1 c2 u2
   generalize w.setCell ⟨g,2,none⟩ (.int .i64 (n:Int))=W2 at *
   have e1:=Joins.cell_of_block HR2.out.blk 1
   have e2:=Joins.cell_of_block HR2.out.blk 2
   simp only[List.getElem?_toArray,List.getElem?_cons_zero,List.getElem?_cons_succ] at e1 e2
   have HRD:=hid HR2.out.drew
   have HFD:=hid HF.out.drew
   clear HR2 HF
   go_region
   clear e1 e2
   generalize W2.drew=W3 at *
   go_wp2
   go_ret
   exact⟨rfl,⟨hla,by show n<=8;omega,_,_,HRD.out⟩,HFD.out⟩
end Go.Proofs.YtelnefngkdfcoaaGreat
