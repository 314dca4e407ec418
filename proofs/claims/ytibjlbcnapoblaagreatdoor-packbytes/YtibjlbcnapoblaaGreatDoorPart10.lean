/- Contracts and facts. -/
import Derived.Test.YtibjlbcnapoblaaGreatDoorPart09
namespace Go.Proofs.YtibjlbcnapoblaaGreatDoor
set_option maxRecDepth 100000
set_option maxHeartbeats 6400000
namespace Sh.Wd
open Go.RowKit
def Qtu(b:Int):Int:=if b=8 then 1 else if b=16 then 2 else if b=32 then 4 else if b=64 then 8 else 0
theorem Qf8(b:Int)(w:World):Calls Tryz.prog 91 #[.int .i64 b] w fun e w'=>e= .returned (.int .i64 (Qtu b))∧w'=w:=by
 by_cases h8:b=8
 ·subst h8
  go_enter Tryz.func91,Tryz.ntmps91
  go_wp2
  go_ret
  exact⟨rfl,rfl⟩
 by_cases h16:b=16
 ·subst h16
  go_enter Tryz.func91,Tryz.ntmps91
  go_wp2
  go_ret
  exact⟨rfl,rfl⟩
 by_cases h32:b=32
 ·subst h32
  go_enter Tryz.func91,Tryz.ntmps91
  go_wp2
  go_ret
  exact⟨rfl,rfl⟩
 by_cases h64:b=64
 ·subst h64
  go_enter Tryz.func91,Tryz.ntmps91
  go_wp2
  go_ret
  exact⟨rfl,rfl⟩
 have g8:(b==8)=false:=by simpa using h8
 have g16:(b==16)=false:=by simpa using h16
 have g32:(b==32)=false:=by simpa using h32
 have g64:(b==64)=false:=by simpa using h64
 go_enter Tryz.func91,Tryz.ntmps91
 go_wp2
 go_ret
 exact⟨Qea (by simp[Qtu,h8,h16,h32,h64]),rfl⟩
def wdB(b:Int):Bool:=b==8||b==16||b==32||b==64
theorem Xim(b:Int):(Qtu b==0)= !wdB b:=by
 unfold Qtu wdB
 by_cases h8:b=8
 ·subst h8;rfl
 by_cases h16:b=16
 ·subst h16;rfl
 by_cases h32:b=32
 ·subst h32;rfl
 by_cases h64:b=64
 ·subst h64;rfl
 simp[h8,h16,h32,h64]
theorem Tryz.info5:(Tryz.prog.info? 5).map (fun i=>(i.zero,i.size,i.bytes))=some (some (.int .u8 0),1,1):=by kernel_rfl
theorem Qap{B:Nat}{a w:World}(h:Below B a w)(n:Nat):Below B a (w.drewN n):=h.trans ⟨rfl,rfl,rfl,Nat.le_refl _,fun _ _=>rfl⟩
structure Rd (w:World) (v:Value) (a:Option Addr) (cap:Nat) (zs:List Int):Prop where
 val:v= .slice a zs.length cap
 room:zs.length<=cap
 most:cap<=maxLen
 cells:0<zs.length->∃b off,a=some ⟨b,off,none⟩∧b<w.heap.size∧∀j,j<zs.length->w.cell? ⟨b,off+j,none⟩=some (.int .u8 (zs.getD j 0))
 lo:∀j,0<=zs.getD j 0
 hi:∀j,zs.getD j 0<=255
theorem Rd.later{w w':World}{v:Value}{a:Option Addr}{cap:Nat}{zs:List Int}(h:Rd w v a cap zs)(hb:Below w.heap.size w w'):Rd w' v a cap zs:=by
 refine⟨h.val,h.room,h.most,fun h0=>?_,h.lo,h.hi⟩
 obtain⟨b,off,ha,hbw,hc⟩:=h.cells h0
 exact⟨b,off,ha,Nat.lt_of_lt_of_le hbw hb.size,fun j hj=>(hb.cell (p:=⟨b,off+j,none⟩) hbw).trans (hc j hj)⟩
theorem getD_take(zs:List Int)(n j:Nat)(hj:j<n):(zs.take n).getD j 0=zs.getD j 0:=by
 simp[List.getD,List.getElem?_take_of_lt hj]
theorem Qed(zs:List Int)(n j:Nat)(hj:¬j<n):(zs.take n).getD j 0=0:=by
 have h:(zs.take n).length<=j:=by simp;omega
 simp[List.getD,List.getElem?_eq_none h]
theorem Rd.take{w:World}{a:Option Addr}{cap:Nat}{zs:List Int}(h:Rd w (.slice a zs.length cap) a cap zs)(n:Nat):Rd w (.slice a (zs.take n).length cap) a cap (zs.take n):=by
 have hroom:=h.room
 have hle:(zs.take n).length<=zs.length:=by simp;omega
 have hln:(zs.take n).length<=n:=List.length_take_le _ _
 refine⟨rfl,by omega,h.most,fun h0=>?_,fun j=>?_,fun j=>?_⟩
 ·obtain⟨b,off,ha,hbw,hc⟩:=h.cells (by omega)
  refine⟨b,off,ha,hbw,fun j hj=>?_⟩
  rw[getD_take zs n j (by omega)]
  exact hc j (by omega)
 ·by_cases hj:j<n
  ·rw[getD_take zs n j hj];exact h.lo j
  ·rw[Qed zs n j hj];omega
 ·by_cases hj:j<n
  ·rw[getD_take zs n j hj];exact h.hi j
  ·rw[Qed zs n j hj];omega
def leL:Nat->Int->List Int
 | 0,_=> []
 | n+1,x=>(x%256)::leL n (x/256)
def Qes(l:List Int):Int:=l.foldl (fun x c=>x*256+c) 0
def Qep(n:Nat)(o x:Int):List Int:=if o=1 then (leL n x).reverse else leL n x
def Xjx(o:Int)(l:List Int):Int:=if o=1 then Qes l else Qes l.reverse
theorem Qbb(n:Nat):∀x:Int,(leL n x).length=n:=by
 induction n with
 | zero=>intro x;rfl
 | succ n ih=>intro x;simp[leL,ih]
theorem Qf7(n:Nat)(o x:Int):(Qep n o x).length=n:=by
 unfold Qep;split<;>simp[Qbb]
theorem Qi0(x:Int)(n:Nat):x/256/256^n=x/256^(n+1):=by
 rw[Int.ediv_ediv_of_nonneg (by decide),<-Int.pow_succ']
theorem Qwn(n:Nat):∀x:Int,leL (n+1) x=leL n x++ [x/256^n%256]:=by
 induction n with
 | zero=>intro x;simp[leL]
 | succ n ih=>
   intro x
   rw[leL,ih (x/256),leL,Qi0]
   rfl
theorem Qvu(n:Nat):∀(x:Int) (j:Nat),j<n->(leL n x).getD j 0=x/256^j%256:=by
 induction n with
 | zero=>intro x j h;omega
 | succ n ih=>
   intro x j h
   match j with
   | 0=>simp[leL]
   | j+1=>
     have:=ih (x/256) j (by omega)
     rw[leL,List.getD_cons_succ,this,Qi0]
def shF(n:Nat)(o:Int)(i:Nat):Nat:=if o=1 then 8*(n-1-i) else 8*i
theorem Qho(k:Nat):(256:Int)^k=2^(8*k):=by rw[Int.pow_mul];rfl
theorem Qri(l:List Int)(j:Nat)(h:j<l.length):l.reverse.getD j 0=l.getD (l.length-1-j) 0:=by
 have h1:j<l.reverse.length:=by simpa using h
 have h2:l.length-1-j<l.length:=by omega
 simp only[List.getD,List.getElem?_eq_getElem h1,List.getElem?_eq_getElem h2,Option.getD_some]
 rw[List.getElem_reverse]
theorem Qhv(n:Nat)(o x:Int)(j:Nat)(h:j<n):(Qep n o x).getD j 0=x/2^(shF n o j)%256:=by
 unfold Qep shF
 by_cases ho:o=1
 ·rw[if_pos ho,if_pos ho,Qri _ _ (by rw[Qbb];exact h),Qbb,Qvu _ _ _ (by omega),Qho]
 ·rw[if_neg ho,if_neg ho,Qvu _ _ _ h,Qho]
theorem Qjn(n:Nat)(o x:Int)(j:Nat):0<=(Qep n o x).getD j 0∧(Qep n o x).getD j 0<=255:=by
 by_cases h:j<n
 ·rw[Qhv n o x j h];omega
 ·have:(Qep n o x).length<=j:=by rw[Qf7];omega
  simp[List.getD,List.getElem?_eq_none this]
theorem Qwt(l:List Int):∀a:Int,l.foldl (fun x c=>x*256+c) a=a*256^l.length+Qes l:=by
 induction l with
 | nil=>intro a;simp[Qes]
 | cons c l ih=>
   intro a
   rw[Qes,List.foldl_cons,List.foldl_cons,ih,ih (0*256+c),List.length_cons,Int.pow_succ',Int.zero_mul,Int.zero_add,Int.add_mul,Int.mul_assoc]
   omega
theorem Qm5(c:Int)(l:List Int):Qes (c::l)=c*256^l.length+Qes l:=by
 rw[Qes,List.foldl_cons,Qwt,Int.zero_mul,Int.zero_add]
theorem Qnu(l:List Int)(c:Int):Qes (l++ [c])=Qes l*256+c:=by
 rw[Qes,List.foldl_append];rfl
theorem Qem(l:List Int)(h:∀c∈l,0<=c∧c<=255):0<=Qes l∧Qes l<256^l.length:=by
 induction l with
 | nil=>simp[Qes]
 | cons c l ih=>
   have hc:=h c (by simp)
   have hl:=ih (fun x hx=>h x (by simp[hx]))
   rw[Qm5,List.length_cons,Int.pow_succ]
   have hp:(0:Int)<256^l.length:=Int.pow_pos (by decide)
   have h1:c*256^l.length<=255*256^l.length:=Int.mul_le_mul_of_nonneg_right hc.2 (by omega)
   have h2:0<=c*256^l.length:=Int.mul_nonneg hc.1 (by omega)
   omega
theorem Xb3(n:Nat):∀x:Int,Qes (leL n x).reverse=x%256^n:=by
 induction n with
 | zero=>intro x;simp[leL,Qes]
 | succ n ih=>
   intro x
   rw[leL,List.reverse_cons,Qnu,ih,Int.pow_succ]
   have hp:(0:Int)<256^n:=Int.pow_pos (by decide)
   have h1:=Int.mul_ediv_add_emod (x/256) (256^n)
   have h2:x%(256^n*256)=x-256^n*256*(x/(256^n*256)):=by rw[Int.emod_def]
   have h3:x/(256^n*256)=x/256/256^n:=by rw[Int.mul_comm,Int.ediv_ediv_of_nonneg (by decide)]
   rw[h2,h3]
   have h4:(256:Int)^n*256*(x/256/256^n)=256*(256^n*(x/256/256^n)):=by
    rw[Int.mul_comm (256^n) 256,Int.mul_assoc]
   rw[h4]
   omega
def Qgf(b o:Int):Int:=if wdB b=false then 10 else if o≠1∧o≠2 then 1 else 0
theorem Qli(b o:Int)(w:World):Calls Tryz.prog 90 #[.int .i64 b,.int .i64 o] w fun e w'=>e= .returned (.int .i64 (Qgf b o))∧w'=w:=by
 have hs:=Xim b
 cases hw:wdB b with
 | false=>
   rw[hw] at hs
   have hf:Qgf b o=10:=by simp[Qgf,hw]
   rw[hf]
   clear hf
   go_enter Tryz.func90,Tryz.ntmps90
   go_wp2_with (go_at_call 91;refine(Qf8 _ _).mono ?_;rintro e w' ⟨rfl,rfl⟩)
   go_ret
   exact⟨rfl,rfl⟩
 | true=>
   rw[hw] at hs
   by_cases h1:o=1
   ·subst h1
    have hf:Qgf b 1=0:=by simp[Qgf,hw]
    rw[hf]
    clear hf
    go_enter Tryz.func90,Tryz.ntmps90
    go_wp2_with (go_at_call 91;refine(Qf8 _ _).mono ?_;rintro e w' ⟨rfl,rfl⟩)
    go_ret
    exact⟨rfl,rfl⟩
   ·have g1:(o != 1)=true:=by rw[bne_iff_ne];exact h1
    by_cases h2:o=2
    ·subst h2
     have hf:Qgf b 2=0:=by simp[Qgf,hw]
     rw[hf]
     clear hf
     go_enter Tryz.func90,Tryz.ntmps90
     go_wp2_with (go_at_call 91;refine(Qf8 _ _).mono ?_;rintro e w' ⟨rfl,rfl⟩)
     go_ret
     exact⟨rfl,rfl⟩
    ·have g2:(o != 2)=true:=by rw[bne_iff_ne];exact h2
     have hf:Qgf b o=1:=by simp[Qgf,hw,h1,h2]
     rw[hf]
     clear hf h1 h2
     go_enter Tryz.func90,Tryz.ntmps90
     go_wp2_with (go_at_call 91;refine(Qf8 _ _).mono ?_;rintro e w' ⟨rfl,rfl⟩)
     go_ret
     exact⟨rfl,rfl⟩
theorem Qp0(i n:Nat)(o:Int)(w:World)(hi:i<n)(hn:n<=8):
 Calls Tryz.prog 92 #[.int .i64 i,.int .i64 n,.int .i64 o] w fun e w'=>e= .returned (.int .i64 (shF n o i:Nat))∧w'=w:=by
 by_cases h1:o=1
 ·subst h1
  go_enter Tryz.func92,Tryz.ntmps92
  go_wp2
  go_ret
  exact⟨Qea (by simp only[shF,if_true];omega),rfl⟩
 ·have g1:(o==1)=false:=by rw[beq_eq_false_iff_ne];exact h1
  have hf:shF n o i=8*i:=by simp[shF,h1]
  have HF:=hid hf
  clear hf h1
  go_enter Tryz.func92,Tryz.ntmps92
  go_wp2
  go_ret
  exact⟨Qea (by rw[HF.out];omega),rfl⟩
def Qc1(n k:Nat)(l:List Int):List Int:=l.take k++List.replicate (n-k) 0
theorem Qe7(n k:Nat)(l:List Int)(hl:l.length=n)(hk:k<=n):(Qc1 n k l).length=n:=by
 simp[Qc1];omega
theorem Qhc(n:Nat)(l:List Int):Qc1 n 0 l=List.replicate n 0:=by simp[Qc1]
theorem Qg7(n:Nat)(l:List Int)(hl:l.length=n):Qc1 n n l=l:=by
 simp[Qc1,<-hl]
theorem Qqm(n k:Nat)(l:List Int)(hl:l.length=n)(hk:k<n)(kd:IntKind):
 ((Qc1 n k l).map (Value.int kd)).set k (.int kd (l.getD k 0))=(Qc1 n (k+1) l).map (Value.int kd):=by
 rw[<-List.map_set]
 congr 1
 unfold Qc1
 rw[List.set_append_right _ _ (by simp;omega),show k-(l.take k).length=0 from by simp;omega,show n-k=(n-(k+1))+1 from by omega,List.replicate_succ,List.set_cons_zero]
 have e:l.getD k 0=l[k]'(by omega):=by simp[List.getD,List.getElem?_eq_getElem (show k<l.length from by omega)]
 rw[e,List.take_succ_eq_append_getElem (show k<l.length from by omega),List.append_assoc]
 rfl
theorem Xgq(n:Nat)(o:Int)(i:Nat)(hn:n<=8)(hi:i<n):shF n o i<=56:=by
 unfold shF;split<;>omega
theorem Qg2(x b o:Int)(n:Nat)(w:World)(_h0:0<=x)(_h1:x<18446744073709551616)(hf:(Qgf b o != 0)=false)(hs:Qtu b=n)(hn8:n<=8):
 Calls Tryz.prog 60 #[.int .u64 x,.int .i64 b,.int .i64 o] w fun e w'=>∃v,e= .returned (.tuple #[v,.int .i64 0])∧w'.ownsRow w.heap.size 5 1 v (Qep n o x).length ((Qep n o x).map (Value.int .u8))∧Below w.heap.size w w':=by
 obtain⟨i0,hi,hz0,hz1,hz2⟩:=info_parts Tryz.info5
 have hlen:=Qf7 n o x
 have hget:=Qhv n o x
 generalize hl:Qep n o x=l at *
 have HL:Hid (l.length=n):=hlen
 have HG:Hid (∀j,j<n->l.getD j 0=x/2^(shF n o j)%256):=hget
 clear hlen hget hl
 go_enter Tryz.func60,Tryz.ntmps60
 go_wp2_with (first
  | (go_at_call 90;refine(Qli _ _ _).mono ?_;rintro e w' ⟨rfl,hw⟩;obtain rfl:=hw.symm;clear hw)
  | (go_at_call 91;refine(Qf8 _ _).mono ?_;rintro e w' ⟨rfl,hw⟩;obtain rfl:=hw.symm;clear hw)
  | (at_make;refine wpList_make_full _ rfl _ _ 22 rfl w.heap.size 5 i0 (.int .u8 0) 1 Tryz.underlying22 hi hz0 hz1 .i64 .i64 _ _ n rfl rfl (by first | rfl | omega) (by first | rfl | omega) ?b2 ?b3 ?b4 ?_))
 case b2=>rw[hz2];omega
 case b3=>unfold maxLen;omega
 case b4=>exact Nat.le_refl _
 intro w1 hown0 hgrow
 have hb1:Below w.heap.size w w1:=(Below.refl _ _).grown hgrow (Nat.le_refl _) (fun k hk=>by cases hk)
 rw[toList_madeCells_one,show List.replicate n (Value.int .u8 0)=(Qc1 n 0 l).map (Value.int .u8) from by rw[Qhc];simp] at hown0
 clear hgrow
 go_wp2
 go_loopw [22] (fun i wr=>∃k:Nat,k<=n∧i= .int .i64 k∧wr.ownsRow w.heap.size 5 1 (.slice (some ⟨w.heap.size,0,none⟩) n n) n ((Qc1 n k l).map (Value.int .u8))∧Below w.heap.size w wr) (fun i _=>n-(intOf i).toNat)
 case atStart=>exact⟨0,by omega,rfl,hown0,hb1⟩
 case round=>
  obtain⟨k,hk,rfl,hown,hbel⟩:=hrel
  by_cases hlt:k<n
  ·have hsh:=Xgq n o k hn8 hlt
   have hcell:∃u,wr.cell? ⟨w.heap.size,k,none⟩=some u:=by
    rw[hown.cellAt k (by omega)]
    exact⟨_,List.getElem?_eq_getElem (by rw[List.length_map,Qe7 n k l HL.out hk];exact hlt)⟩
   obtain⟨u,hu⟩:=hcell
   have hfz:=hown.frozenAt k
   have hst:=hown.stored k (.int .u8 (l.getD k 0))
   rw[Qqm n k l HL.out hlt] at hst
   have hnb:=hbel.grown hst.2 hbel.size (fun j hj=>by injection hj with hj;omega)
   rw[HG.out k hlt] at hst hnb
   have HS:=hid hst.1
   have HB:=hid hnb
   clear hst hnb hown
   go_wp2_with (go_at_call 92;refine(Qp0 k n o _ hlt hn8).mono ?_;rintro e w' ⟨rfl,hw⟩;obtain rfl:=hw.symm;clear hw)
   go_roundw
   case rel=>exact⟨k+1,by omega,by go_num,HS.out,HB.out⟩
   case measure=>simp[intOf];omega
  ·have hkn:k=n:=by omega
   subst hkn
   rw[Qg7 _ _ HL.out] at hown
   go_wp2
   go_ret2
   exact⟨_,rfl,by rw[HL.out];exact hown,hbel⟩
def Qul(o:Int)(n:Nat)(zs:List Int)(k:Nat):Int:=if o=1 then Qes (zs.take k)*256^(n-k) else Qes (zs.take k).reverse
theorem Qbq(zs:List Int)(k:Nat)(hk:k<zs.length):zs.take (k+1)=zs.take k++ [zs.getD k 0]:=by
 rw[List.take_succ_eq_append_getElem hk]
 simp[List.getD,List.getElem?_eq_getElem hk]
theorem Qhf{zs:List Int}(h:∀j,0<=zs.getD j 0∧zs.getD j 0<=255)(k:Nat):∀c∈zs.take k,0<=c∧c<=255:=by
 intro c hc
 obtain⟨j,hj,rfl⟩:=List.getElem_of_mem (List.mem_of_mem_take hc)
 have:=h j
 simpa [List.getD,List.getElem?_eq_getElem hj] using this
theorem Xg7(i:Nat)(a b:Int)(ha0:0<=a)(ha:a<18446744073709551616)(hm:a%2^i=0)(hb0:0<=b)(hb:b<2^i)(hb64:b<18446744073709551616):bits .or .u64 a b=a+b:=by
 obtain⟨m,rfl⟩:=Int.eq_ofNat_of_zero_le ha0
 obtain⟨n,rfl⟩:=Int.eq_ofNat_of_zero_le hb0
 have e1:m%2^i=0:=by
  have:((m%2^i:Nat):Int)=0:=by simpa using hm
  omega
 have e2:n<2^i:=by
  have:(n:Int)<((2^i:Nat):Int):=by simpa using hb
  omega
 rw[u64_or_nat _ _ (by omega) (by omega),nat_join i m n e1 e2]
 omega
theorem Xio(i:Nat)(a b:Int)(ha0:0<=a)(ha:a<2^i)(ha64:a<18446744073709551616)(hb0:0<=b)(hb:b<18446744073709551616)(hm:b%2^i=0):bits .or .u64 a b=a+b:=by
 have h:=Xg7 i b a hb0 hb hm ha0 ha ha64
 obtain⟨m,rfl⟩:=Int.eq_ofNat_of_zero_le ha0
 obtain⟨n,rfl⟩:=Int.eq_ofNat_of_zero_le hb0
 rw[u64_or_nat _ _ (by omega) (by omega)] at h|-
 rw[Nat.or_comm,h];omega
theorem Qr5(k:Nat)(hk:k<=8):(256:Int)^k<=18446744073709551616:=by
 have h:=Nat.pow_le_pow_right (n:=256) (by decide) hk
 have e:((256^k:Nat):Int)<=((256^8:Nat):Int):=by omega
 simpa using e
theorem Qi5(o:Int)(n:Nat)(zs:List Int)(k:Nat)(hz:zs.length=n)(hn:n<=8)(hk:k<=n)(h:∀j,0<=zs.getD j 0∧zs.getD j 0<=255):0<=Qul o n zs k∧Qul o n zs k<18446744073709551616:=by
 have hl:(zs.take k).length=k:=by simp;omega
 have hb:=Qem (zs.take k) (Qhf h k)
 have hb':=Qem (zs.take k).reverse (fun c hc=>Qhf h k c (List.mem_reverse.1 hc))
 rw[List.length_reverse] at hb'
 rw[hl] at hb hb'
 have hp:(0:Int)<256^(n-k):=Int.pow_pos (by decide)
 unfold Qul
 split
 ·refine⟨Int.mul_nonneg hb.1 (by omega),?_⟩
  have h1:Qes (zs.take k)*256^(n-k)<256^k*256^(n-k):=Int.mul_lt_mul_of_pos_right hb.2 hp
  rw[<-Int.pow_add,show k+(n-k)=n from by omega] at h1
  exact Int.lt_of_lt_of_le h1 (Qr5 n hn)
 ·exact⟨hb'.1,Int.lt_of_lt_of_le hb'.2 (Qr5 k (by omega))⟩
theorem Qx7(o:Int)(n:Nat)(zs:List Int)(k:Nat)(hz:zs.length=n)(hn:n<=8)(hk:k<n)(h:∀j,0<=zs.getD j 0∧zs.getD j 0<=255):
 0<=zs.getD k 0*2^(shF n o k)∧zs.getD k 0*2^(shF n o k)<18446744073709551616∧bits .or .u64 (Qul o n zs k) (zs.getD k 0*2^(shF n o k))=Qul o n zs (k+1):=by
 have hc:=h k
 have hl:(zs.take k).length=k:=by simp;omega
 have hb:=Qem (zs.take k) (Qhf h k)
 have hb':=Qem (zs.take k).reverse (fun c hc=>Qhf h k c (List.mem_reverse.1 hc))
 rw[List.length_reverse] at hb'
 rw[hl] at hb hb'
 have hab:=Qi5 o n zs k hz hn (by omega) h
 have hab':=Qi5 o n zs (k+1) hz hn (by omega) h
 have hs:=Qbq zs k (by omega)
 unfold Qul shF at *
 by_cases ho:o=1
 ·simp only[if_pos ho] at *
  rw[<-Qho]
  have hp:(0:Int)<256^(n-1-k):=Int.pow_pos (by decide)
  have hnk:(256:Int)^(n-k)=256^(n-1-k)*256:=by rw[<-Int.pow_succ,show(n-1-k).succ=n-k from by omega]
  rw[hs,Qnu] at hab'|-
  rw[show n-(k+1)=n-1-k from by omega] at hab'|-
  have e1:(Qes (zs.take k)*256+zs.getD k 0)*256^(n-1-k)=Qes (zs.take k)*256^(n-k)+zs.getD k 0*256^(n-1-k):=by
   rw[hnk,Int.add_mul,Int.mul_assoc,Int.mul_comm 256]
  rw[e1] at hab'|-
  have h5:0<=zs.getD k 0*256^(n-1-k):=Int.mul_nonneg hc.1 (by omega)
  have h6:zs.getD k 0*256^(n-1-k)<=255*256^(n-1-k):=Int.mul_le_mul_of_nonneg_right hc.2 (by omega)
  refine⟨h5,by omega,Xg7 (8*(n-k)) _ _ hab.1 hab.2 ?_ h5 ?_ (by omega)⟩
  ·rw[<-Qho];exact Int.mul_emod_left _ _
  ·rw[<-Qho,hnk];omega
 ·simp only[if_neg ho] at *
  rw[<-Qho]
  have hp:(0:Int)<256^k:=Int.pow_pos (by decide)
  rw[hs,List.reverse_append,List.reverse_singleton,List.singleton_append,Qm5,List.length_reverse,hl] at hab'|-
  have h5:0<=zs.getD k 0*256^k:=Int.mul_nonneg hc.1 (by omega)
  refine⟨h5,by omega,?_⟩
  rw[Xio (8*k) _ _ hab.1 (by rw[<-Qho];exact hb'.2) hab.2 h5 (by omega) (by rw[<-Qho];exact Int.mul_emod_left _ _)]
  omega
theorem Xbn(o:Int)(n:Nat)(zs:List Int)(k:Nat)(hz:zs.length=n)(hn:n<=8)(hk:k<n)(h:∀j,0<=zs.getD j 0∧zs.getD j 0<=255):
 bits .or .u64 (Qul o n zs k) (IntKind.u64.wrap (zs.getD k 0*2^(shF n o k)))=Qul o n zs (k+1):=by
 obtain⟨h1,h2,h3⟩:=Qx7 o n zs k hz hn hk h
 rw[IntKind.wrap_u64,Int.emod_eq_of_lt h1 h2,h3]
theorem Xcf(o:Int)(n:Nat)(zs:List Int)(hz:zs.length=n):Qul o n zs n=Xjx o zs:=by
 unfold Qul Xjx
 rw[List.take_of_length_le (by omega)]
 simp
theorem Xau(o:Int)(n:Nat)(zs:List Int):Qul o n zs 0=0:=by
 simp[Qul,Qes]
theorem Qn2(a:Option Addr)(cap:Nat)(zs:List Int)(o:Int)(w:World)(hr:Rd w (.slice a zs.length cap) a cap zs)(hn:zs.length<=8):
 Calls Tryz.prog 113 #[.slice a zs.length cap,.int .i64 o] w fun e w'=>e= .returned (.int .u64 (Xjx o zs))∧∃m,w'=w.drewN m:=by
 have hcells:=hr.cells
 have hby:∀j,0<=zs.getD j 0∧zs.getD j 0<=255:=fun j=>⟨hr.lo j,hr.hi j⟩
 obtain⟨n,hlen⟩:∃n,n=zs.length:=⟨_,rfl⟩
 clear hr
 rw[<-hlen] at hcells hn|-
 have HL:Hid (zs.length=n):=hlen.symm
 have HY:=hid hby
 clear hlen hby
 go_enter Tryz.func113,Tryz.ntmps113
 go_wp2
 go_loopw [5,9] (fun x i wr=>∃k:Nat,k<=n∧i= .int .i64 k∧x= .int .u64 (Qul o n zs k)∧∃m,wr=w.drewN m) (fun _ i _=>n-(intOf i).toNat)
 case atStart=>exact⟨0,by omega,rfl,by rw[Xau],0,rfl⟩
 case round=>
  obtain⟨k,hk,rfl,rfl,m,rfl⟩:=hrel
  by_cases hlt:k<n
  ·obtain⟨b,off,rfl,hbw,hc⟩:=hcells (by omega)
   have hck:(w.drewN m).cell? ⟨b,off+k,none⟩=some (.int .u8 (zs.getD k 0)):=by simpa using hc k hlt
   have hyk:=HY.out k
   have hst:=Xbn o n zs k HL.out hn hlt HY.out
   have hb1:=Qi5 o n zs k HL.out hn hk HY.out
   have hsh:=Xgq n o k hn hlt
   have hkn:(k:Int)<(n:Int):=by omega
   generalize zs.getD k 0=c at *
   generalize hac:Qul o n zs k=ac at *
   generalize hac':Qul o n zs (k+1)=ac' at *
   have HAC:=hid hac'
   generalize hW:w.drewN m=W at *
   have HW:=hid hW
   clear hc hcells hac hac' hW
   go_wp2_with fail
   go_quiet ((go_at_call 92;exact Calls.quiet_of_same (Qp0 k n o _ hlt hn)))
   go_wp2
   go_roundw
   case rel=>exact⟨k+1,by omega,by go_num,by rw[HAC.out],m+nq,by rw[<-HW.out,World.drewN_drewN]⟩
   case measure=>simp[intOf];omega
  ·have hkn:k=n:=by omega
   subst hkn
   rw[Xcf _ _ _ HL.out]
   go_wp2
   go_ret
   exact⟨rfl,m,rfl⟩
theorem Tryz.info59:(Tryz.prog.info? 59).map (fun i=>(i.zero,i.size,i.bytes))=some (some (.int .u64 0),1,8):=by kernel_rfl
def Qge(n:Nat)(o:Int)(zs:List Int)(m:Nat):List Int:=(List.range m).map (fun i=>Xjx o ((zs.drop (i*n)).take n))
theorem Qie(n:Nat)(o:Int)(zs:List Int)(m:Nat):(Qge n o zs m).length=m:=by simp[Qge]
theorem Qlq(n:Nat)(o:Int)(zs:List Int)(m k:Nat)(hk:k<m):(Qge n o zs m).getD k 0=Xjx o ((zs.drop (k*n)).take n):=by
 simp[Qge,List.getD,hk]
theorem Qdt(zs:List Int)(p n j:Nat)(hj:j<n):((zs.drop p).take n).getD j 0=zs.getD (p+j) 0:=by
 rw[getD_take _ _ _ hj];simp[List.getD]
theorem getD_drop(zs:List Int)(p j:Nat):(zs.drop p).getD j 0=zs.getD (p+j) 0:=by simp[List.getD]
theorem Rd.piece{w:World}{bk off cap:Nat}{zs:List Int}(h:Rd w (.slice (some ⟨bk,off,none⟩) zs.length cap) (some ⟨bk,off,none⟩) cap zs)(p:Nat)(hp:p<zs.length):
 Rd w (.slice (some ⟨bk,off+p,none⟩) (zs.drop p).length (cap-p)) (some ⟨bk,off+p,none⟩) (cap-p) (zs.drop p):=by
 have hroom:=h.room
 have hmost:=h.most
 have hl:(zs.drop p).length=zs.length-p:=List.length_drop
 obtain⟨b',off',hb',hbw,hc⟩:=h.cells (by omega)
 injection hb' with hb'
 injection hb' with e1 e2
 subst e1;subst e2
 refine⟨rfl,by omega,by omega,fun _=>⟨bk,off+p,rfl,hbw,fun j hj=>?_⟩,fun j=>?_,fun j=>?_⟩
 ·rw[getD_drop,Nat.add_assoc];exact hc (p+j) (by omega)
 ·rw[getD_drop];exact h.lo _
 ·rw[getD_drop];exact h.hi _
theorem Xef(a:Option Addr)(cap:Nat)(zs:List Int)(b o:Int)(n m:Nat)(w:World)(hr:Rd w (.slice a zs.length cap) a cap zs)(hf:(Qgf b o != 0)=false)(hs:Qtu b=n)(h1:1<=n)(h8:n<=8)(hlen:zs.length<=400)(hm:zs.length=m*n):
 Calls Tryz.prog 123 #[.slice a zs.length cap,.int .i64 b,.int .i64 o] w fun e w'=>∃v,e= .returned (.tuple #[v,.int .i64 0])∧w'.ownsRow w.heap.size 59 1 v (Qge n o zs m).length ((Qge n o zs m).map (Value.int .u64))∧Below w.heap.size w w':=by
 obtain⟨i0,hi,hz0,hz1,hz2⟩:=info_parts Tryz.info59
 have hcap:=hr.room
 have hmax:=hr.most
 unfold maxLen at hmax
 have hmm:m<=zs.length:=by rw[hm];exact Nat.le_mul_of_pos_right m h1
 have HR:=hid hr
 obtain⟨len,hl⟩:∃n,n=zs.length:=⟨_,rfl⟩
 have HL:=hid hl
 have hd1:(len:Int)%(n:Int)=0:=by
  rw[hl,hm];simp
 have hd2:(len:Int)/(n:Int)=(m:Int):=by
  rw[hl,hm];simp;exact Int.mul_ediv_cancel _ (by omega)
 have hd3:len=m*n:=by rw[hl];exact hm
 rw[<-hl] at hcap hlen hmm|-
 have HM:=hid hd3
 clear hr hm hl hd3
 have HW:=hid (Qie n o zs m)
 have HG:=hid (Qlq n o zs m)
 generalize hws:Qge n o zs m=ws at *
 clear hws
 go_enter Tryz.func123,Tryz.ntmps123
 go_wp2_with (first
  | (go_at_call 90;refine(Qli _ _ _).mono ?_;rintro e w' ⟨rfl,hw⟩;obtain rfl:=hw.symm;clear hw)
  | (go_at_call 91;refine(Qf8 _ _).mono ?_;rintro e w' ⟨rfl,hw⟩;obtain rfl:=hw.symm;clear hw)
  | (at_make;refine wpList_make_full _ rfl _ _ 182 rfl w.heap.size 59 i0 (.int .u64 0) 1 Tryz.underlying182 hi hz0 hz1 .i64 .i64 _ _ m rfl rfl (by first | rfl | omega) (by first | rfl | omega) ?b2 ?b3 ?b4 ?_))
 case b2=>rw[hz2];omega
 case b3=>unfold maxLen;omega
 case b4=>exact Nat.le_refl _
 intro w1 hown0 hgrow
 have hb1:Below w.heap.size w w1:=(Below.refl _ _).grown hgrow (Nat.le_refl _) (fun k hk=>by cases hk)
 rw[toList_madeCells_one,show List.replicate m (Value.int .u64 0)=(Qc1 m 0 ws).map (Value.int .u64) from by rw[Qhc];simp] at hown0
 clear hgrow
 go_wp2
 go_loopw [32] (fun i wr=>∃k:Nat,k<=m∧i= .int .i64 k∧wr.ownsRow w.heap.size 59 1 (.slice (some ⟨w.heap.size,0,none⟩) m m) m ((Qc1 m k ws).map (Value.int .u64))∧Below w.heap.size w wr) (fun i _=>m-(intOf i).toNat)
 case atStart=>exact⟨0,by omega,rfl,hown0,hb1⟩
 case round=>
  obtain⟨k,hk,rfl,hown,hbel⟩:=hrel
  by_cases hlt:k<m
  ·have hle:(k+1)*n<=m*n:=Nat.mul_le_mul_right n hlt
   obtain⟨p,hp⟩:∃p,p=k*n:=⟨_,rfl⟩
   have hp1:p+n<=len:=by rw[HM.out,hp];rw[Nat.add_mul] at hle;omega
   have hpi:(k:Int)*(n:Int)=(p:Int):=by rw[hp];simp
   have hpj:((k:Int)+1)*(n:Int)=(p:Int)+(n:Int):=by rw[hp,Int.add_mul];simp
   have hgk:=HG.out k hlt
   rw[<-hp] at hgk
   obtain⟨bk,off,rfl,_,_⟩:=(HR.out).cells (by rw[<-HL.out];omega)
   have hrp:=((HR.out).later hbel).piece p (by rw[<-HL.out];omega)
   have hrt:=hrp.take n
   have hlp:((zs.drop p).take n).length=n:=by rw[List.length_take,List.length_drop,<-HL.out];omega
   have hnum:=Qn2 (some ⟨bk,off+p,none⟩) (cap-p) ((zs.drop p).take n) o wr hrt (by omega)
   rw[hlp,<-hgk] at hnum
   have HN:=hid hnum
   have hcell:∃u,wr.cell? ⟨w.heap.size,k,none⟩=some u:=by
    rw[hown.cellAt k (by omega)]
    exact⟨_,List.getElem?_eq_getElem (by rw[List.length_map,Qe7 m k ws HW.out hk];exact hlt)⟩
   obtain⟨u,hu⟩:=hcell
   have hfz:=hown.frozenAt k
   have HO:=hid hown
   have hkm:(k:Int)<(m:Int):=by omega
   have hpc:p≠cap:=by omega
   have hpc2:p+n<=cap:=by omega
   clear hown hnum hrt hrp hlp hle hp
   generalize hgz:ws.getD k 0=z at *
   have HZ:=hid hgz
   clear hgz hgk
   have hst:=(HO.out).stored k (.int .u64 (ws.getD k 0))
   rw[Qqm m k ws HW.out hlt] at hst
   rw[HZ.out] at hst
   have HS:=hid hst.1
   clear hst HO
   go_wp2_with fail
   refine(HN.out).mono ?_
   rintro e w2 ⟨rfl,q,rfl⟩
   go_wp2
   go_roundw
   case rel=>exact⟨k+1,by omega,by go_num,HS.out,(Qap hbel q).setCell (Nat.le_refl _) _⟩
   case measure=>simp[intOf];omega
  ·have hkn:k=m:=by omega
   subst hkn
   rw[Qg7 _ _ HW.out] at hown
   go_wp2
   go_ret2
   exact⟨_,rfl,by rw[HW.out];exact hown,hbel⟩
end Sh.Wd
section
open Go.RowKit
def Xje(n k:Nat):Bool:=decide (1<=n∧n<=4096)&&decide (1<=k∧k<=4100)
theorem Xej(n k:Nat)(d:List Int)(w:World)(hn:n<=10000000)(hk:k<=10000000):Calls Tryz.prog 52 #[.agg (hdL n k d).toArray] w fun e w'=>e= .returned (.bool (Xje n k))∧Below w.heap.size w w':=by
 have hb:=Qbr w (.cells (hdL n k d).toArray 53)
 have e0:=Joins.cell_of_block (Qbf w (.cells (hdL n k d).toArray 53)) 0
 have e1:=Joins.cell_of_block (Qbf w (.cells (hdL n k d).toArray 53)) 1
 rw[show(hdL n k d).toArray[0]?=some (.int .i64 (n:Int)) from rfl] at e0
 rw[show(hdL n k d).toArray[1]?=some (.int .i64 (k:Int)) from rfl] at e1
 generalize (hdL n k d).toArray=H at *
 unfold Xje
 by_cases h1:1<=n∧n<=4096
 ·by_cases h2:1<=k
  ·have e2:(1:Int)<=(k:Int):=by omega
   by_cases h3:k<=4100
   ·have e3:(k:Int)<=4100:=by omega
    rw[decide_eq_true h1,decide_eq_true (show 1<=k∧k<=4100 from⟨h2,h3⟩)]
    go_enter Tryz.func52,Tryz.ntmps52
    go_wp2_with fail
    refine(Qd3 _ _ (by omega)).mono ?_
    rintro _ w1 ⟨rfl,hw⟩
    obtain rfl:=hw.symm
    clear hw
    rw[decide_eq_true h1]
    go_wp2
    go_ret
    exact⟨rfl,hb⟩
   ·have e3:¬(k:Int)<=4100:=by omega
    rw[decide_eq_true h1,decide_eq_false (show ¬(1<=k∧k<=4100) from fun h=>h3 h.2)]
    go_enter Tryz.func52,Tryz.ntmps52
    go_wp2_with fail
    refine(Qd3 _ _ (by omega)).mono ?_
    rintro _ w1 ⟨rfl,hw⟩
    obtain rfl:=hw.symm
    clear hw
    rw[decide_eq_true h1]
    go_wp2
    go_ret
    exact⟨congrArg (fun b=>Ending.returned (Value.bool b)) (decide_eq_false (by omega)),hb⟩
  ·have e2:¬(1:Int)<=(k:Int):=by omega
   rw[decide_eq_true h1,decide_eq_false (show ¬(1<=k∧k<=4100) from fun h=>h2 h.1)]
   go_enter Tryz.func52,Tryz.ntmps52
   go_wp2_with fail
   refine(Qd3 _ _ (by omega)).mono ?_
   rintro _ w1 ⟨rfl,hw⟩
   obtain rfl:=hw.symm
   clear hw
   rw[decide_eq_true h1]
   go_wp2
   go_ret
   exact⟨rfl,hb⟩
 ·rw[decide_eq_false h1,Bool.false_and]
  go_enter Tryz.func52,Tryz.ntmps52
  go_wp2_with fail
  refine(Qd3 _ _ (by omega)).mono ?_
  rintro _ w1 ⟨rfl,hw⟩
  obtain rfl:=hw.symm
  clear hw
  rw[decide_eq_false h1]
  go_wp2
  go_ret
  exact⟨rfl,hb⟩
def Qsm(l:List Int):Int:=Sh.Wd.Xjx 2 l
theorem Qvb(l:List Int)(h:∀c∈l,0<=c∧c<=255):0<=Qsm l∧Qsm l<256^l.length:=by
 have:=Sh.Wd.Qem l.reverse (fun c hc=>h c (List.mem_reverse.1 hc))
 rw[List.length_reverse] at this
 exact this
theorem Ri.rdW{w:World}{a:Option Addr}{cap:Nat}{zs:List Int}(h:Ri w .u8 a cap zs):Sh.Wd.Rd w (.slice a zs.length cap) a cap zs:=⟨rfl,h.room,h.most,h.cells,fun j=>(wf_u8 (h.fits j)).1,fun j=>(wf_u8 (h.fits j)).2⟩
theorem Qz8(B:Int)(n:Nat)(a:Option Addr)(cap:Nat)(zs:List Int)(w:World)(hB:(B=16∧n=2)∨(B=32∧n=4))(hr:Ri w .u8 a cap zs)(hn:n=zs.length):
 Calls Tryz.prog 80 #[.slice a n cap,.int .i64 B,.int .i64 2] w fun e w'=>e= .returned (.tuple #[.int .u64 (Qsm zs),.int .i64 0])∧∃m,w'=w.drewN m:=by
 have HNU:Hid (Calls Tryz.prog 113 #[.slice a n cap,.int .i64 2] w fun e w'=>e= .returned (.int .u64 (Qsm zs))∧∃m,w'=w.drewN m):=by
  have:=Sh.Wd.Qn2 a cap zs 2 w hr.rdW (by omega)
  rw[<-hn] at this
  exact this
 have hroom:=hr.room
 rw[<-hn] at hroom
 clear hr hn
 generalize Qsm zs=x at *
 have hf:Sh.Wd.Qgf B 2=0:=by rcases hB with ⟨rfl,rfl⟩ | ⟨rfl,rfl⟩<;>decide
 have hs:Sh.Wd.Qtu B=(n:Int):=by rcases hB with ⟨rfl,rfl⟩ | ⟨rfl,rfl⟩<;>decide
 have hn4:n<=4:=by omega
 clear hB
 have h1:¬(n:Int)<(n:Int):=by omega
 go_enter Tryz.func80,Tryz.ntmps80
 go_wp2_with fail
 refine(Sh.Wd.Qli _ _ _).mono ?_
 rintro _ w1 ⟨rfl,hw⟩
 obtain rfl:=hw.symm
 clear hw
 rw[hf]
 go_wp2_with fail
 refine(Sh.Wd.Qf8 _ _).mono ?_
 rintro _ w1 ⟨rfl,hw⟩
 obtain rfl:=hw.symm
 clear hw
 rw[hs]
 clear hf hs
 go_wp2_with fail
 refine HNU.out.mono ?_
 rintro _ w1 ⟨rfl,m,rfl⟩
 go_wp2_with fail
 go_ret2
 exact⟨rfl,m,rfl⟩
theorem Fg.drewN{g:Nat}{w w':World}(h:Fg g w w')(m:Nat):Fg g w (w'.drewN m):=⟨h.size,h.same⟩
theorem Rr.drewN{w0 w:World}{g:Nat}{t:TypeId}{tl:List Value}{a:Option Addr}{cap:Nat}{zs:List Int}(h:Rr w0 w g t tl a cap zs)(m:Nat):Rr w0 (w.drewN m) g t tl a cap zs:=⟨h.blk,h.row,Qap h.bel m,h.ge⟩
theorem Qfo(w0 w:World)(g:Nat)(t:TypeId)(tl:List Value)(b off cap n:Nat)(zs:List Int)(h:Rr w0 w g t tl (some ⟨b,off,none⟩) cap zs)(hn:n<=zs.length):
 Calls Tryz.prog 50 #[.pointer (some ⟨g,0,none⟩),.int .i64 (n:Int)] w fun e w'=>e= .returned (.slice (some ⟨b,off,none⟩) n cap)∧∃off' c',w'=w.setCell ⟨g,0,none⟩ (.slice (some ⟨b,off',none⟩) (zs.drop n).length c')∧Ri w0 .u8 (some ⟨b,off',none⟩) c' (zs.drop n):=by
 have c0:=Joins.cell_of_block h.blk 0
 have u0:=Joins.unfrozen_of_block h.blk 0
 simp only[List.getElem?_toArray,List.getElem?_cons_zero] at c0
 have hroom:=h.row.room
 have hmost:=h.row.most
 have HRT:=hid (h.row.tail n hn b off rfl)
 unfold maxLen at hmost
 have hd:(zs.drop n).length=zs.length-n:=List.length_drop
 have HNil:Hid (zs.length=n->zs.drop n= []):=fun e=>List.drop_eq_nil_of_le (by omega)
 generalize zs.drop n=ds at *
 generalize zs.length=L at *
 clear h
 obtain⟨q,hq⟩:∃q,q=L-n:=⟨_,rfl⟩
 have HQ:Hid (ds.length=q):=by show _=_;omega
 have HLQ:Hid (L=n+q):=by show _=_;omega
 have hLq:=HLQ.out
 subst hLq
 clear hd hq
 by_cases hcap:cap=n
 ·have hz:q=0:=by omega
  subst hz
  have hnil:ds= []:=HNil.out rfl
  subst hnil
  subst hcap
  simp only[List.length_nil,Nat.add_zero] at *
  clear hroom HNil HQ HLQ
  go_enter Tryz.func50,Tryz.ntmps50
  go_wp2
  go_ret
  exact⟨rfl,_,_,rfl,Qpo _ _ _ _ (by unfold maxLen;omega)⟩
 ·have hc2:n<cap:=by omega
  have hc1:¬cap<=n:=by omega
  have hc3:¬cap-n=0:=by omega
  have hc4:n<=cap:=by omega
  rw[HQ.out]
  go_enter Tryz.func50,Tryz.ntmps50
  go_wp2
  go_ret
  exact⟨rfl,_,_,rfl,HRT.out⟩
theorem Qgt(B:Int)(n:Nat)(w0 w:World)(g:Nat)(t:TypeId)(tl:List Value)(b off cap:Nat)(zs:List Int)(hB:(B=16∧n=2)∨(B=32∧n=4))(h:Rr w0 w g t tl (some ⟨b,off,none⟩) cap zs)(hn:n<=zs.length):
 Calls Tryz.prog 51 #[.pointer (some ⟨g,0,none⟩),.int .i64 B] w fun e w'=>e= .returned (.int .i64 (Qsm (zs.take n)))∧Fg g w w'∧∃off' c',Rr w0 w' g t tl (some ⟨b,off',none⟩) c' (zs.drop n):=by
 have HNX:=hid (Qfo w0 w g t tl b off cap n zs h hn)
 have HR:=hid h
 have htk:(zs.take n).length=n:=by simp;omega
 have hrg:=Qvb (zs.take n) (fun c hc=>by
  have h1:=List.mem_of_mem_take hc
  obtain⟨j,hj,rfl⟩:=List.getElem_of_mem h1
  have:=wf_u8 (h.row.fits j)
  rw[show zs.getD j 0=zs[j] from by simp[List.getD,List.getElem?_eq_getElem hj]] at this
  exact this)
 rw[htk] at hrg
 have hx2:Qsm (zs.take n)<4294967296:=by
  rcases hB with ⟨_,rfl⟩ | ⟨_,rfl⟩
  ·have:=hrg.2;omega
  ·exact hrg.2
 have hx1:=hrg.1
 have HTK:=hid htk
 have hdv:B/8=(n:Int):=by rcases hB with ⟨rfl,rfl⟩ | ⟨rfl,rfl⟩<;>decide
 have HB:=hid hB
 have hq:0<=B∧B<=32:=by rcases hB with ⟨rfl,rfl⟩ | ⟨rfl,rfl⟩<;>decide
 have hq0:=hq.1
 have hq1:=hq.2
 have HWW:Hid (∀V,Below w0.heap.size w0 V->Calls Tryz.prog 80 #[.slice (some ⟨b,off,none⟩) n cap,.int .i64 B,.int .i64 2] V fun e w'=>e= .returned (.tuple #[.int .u64 (Qsm (zs.take n)),.int .i64 0])∧∃m,w'=V.drewN m):=fun V hV=>
  Qz8 B n _ cap (zs.take n) V hB ((h.row.take n).later hV) htk.symm
 generalize Qsm (zs.take n)=x at *
 clear h hB htk hrg hn hq
 go_enter Tryz.func51,Tryz.ntmps51
 go_wp2_with fail
 rw[hdv]
 refine HNX.out.mono ?_
 rintro _ w1 ⟨rfl,off',c',rfl,hr1⟩
 have HR1:=hid (HR.out.put hr1)
 have HF1:=hid ((Fg.refl g w).put (i:=0) (.slice (some ⟨b,off',none⟩) (zs.drop n).length c'))
 clear hr1 HNX HR hdv
 generalize w.setCell ⟨g,0,none⟩ (.slice (some ⟨b,off',none⟩) (zs.drop n).length c')=w1 at *
 go_wp2_with fail
 refine(HWW.out _ HR1.out.bel).mono ?_
 rintro _ w2 ⟨rfl,m,rfl⟩
 go_wp2
 go_ret
 exact⟨rfl,HF1.out.drewN m,off',c',HR1.out.drewN m⟩
end
section
open Go.RowKit Hf
theorem Qjr{P:Program}(d:Nat){e:TypeId}{k:IntKind}(he:P.underlying e=some (.int k))(l m:List Nat)(w:World):
 ∀is:List Nat,(∀i∈is,i<l.length∧i<m.length)->(Op.eqItems (d+1) e 1 (arr k l) (arr k m) is).run P w= .ok (is.all fun i=>l.getD i 0==m.getD i 0) w
 | [],_=>rfl
 | i::is,h=>by
   have hi:=h i (by simp)
   have ih:=Qjr d he l m w is (fun j hj=>h j (by simp[hj]))
   have ha:(isAgg e).run P w= .ok false w:=by
    unfold isAgg
    rw[Sem.run_bind,run_underlying he w]
    rfl
   have hp:∀q:List Nat,i<q.length->(part e (arr k q) (i*1)).run P w= .ok (.int k ((q.getD i 0:Nat):Int)) w:=by
    intro q hq
    unfold part
    simp[Sem.run_bind,ha,Qas k q i hq]
   simp only[Op.eqItems,Sem.run_bind,hp l hi.1,hp m hi.2,Result.andThen_ok,run_equalIn_int w d e k k _ _ he,List.all_cons]
   generalize l.getD i 0=x at *
   generalize m.getD i 0=y at *
   by_cases hq:x=y
   ·subst hq
    simpa using ih
   ·have h1:¬(x:Int)=(y:Int):=by omega
    simp[hq,h1]
theorem Xfn(l m:List Nat)(hl:l.length=16)(hm:m.length=16):((List.range 16).all fun i=>l.getD i 0==m.getD i 0)=(l==m):=by
 rw[Bool.eq_iff_iff,List.all_eq_true,beq_iff_eq]
 constructor
 ·intro h
  exact Qbg (by omega) (fun i hi=>by simpa using h i (by simp;omega))
 ·rintro rfl i _;simp
theorem Tryz.info3:∃i,Tryz.prog.info? 3=some i:=info_of_underlying Tryz.underlying3
theorem Qv6(l m:List Nat)(hl:l.length=16)(hm:m.length=16)(w:World):(Op.equalIn 10000 216 (.agg (arr .i64 l)) (.agg (arr .i64 m))).run Tryz.prog w= .ok (l==m) w:=by
 obtain⟨i,hi⟩:=Tryz.info3
 rw[show(10000:Nat)=9999+1 from rfl,run_equalIn_array w 9999 _ _ Tryz.underlying216 hi,Tryz.cells3,Qjr 9998 Tryz.underlying3 l m w _ (fun j hj=>by rw[hl,hm];have:=List.mem_range.1 hj;exact⟨this,this⟩),Xfn l m hl hm]
theorem Xib:Tryz.prog.eqGuardType Tryz.prog.depth 216=false:=by kernel_rfl
structure Qls (w wr:World) (tz:List Nat):Prop where
 res:wr.heap[w.heap.size]?=some (.cells (arr .i64 z16) 216 (0,0))
 many:wr.heap[w.heap.size+1]?=some (.cells (arr .i64 tz) 216 (0,0))
 bel:Below w.heap.size w wr
theorem Qls.put{w wr:World}{tz:List Nat}(h:Qls w wr tz)(i v:Nat):Qls w (wr.setCell ⟨w.heap.size+1,i,none⟩ (.int .i64 (v:Int))) (tz.set i v):=by
 refine⟨?_,?_,h.bel.setCell (by simp) _⟩
 ·rw[Qac h.many (by omega)];exact h.res
 ·rw[Joins.block_setCell h.many,Qdf]
theorem Qls.start(w:World):Qls w ((w.alloc (.cells (arr .i64 z16) 216)).alloc (.cells (arr .i64 z16) 216)) z16:=by
 have b1:=Qab w (.cells (arr .i64 z16) 216)
 have s1:(w.alloc (.cells (arr .i64 z16) 216)).heap.size=w.heap.size+1:=by simp
 have e1:=Qag w (.cells (arr .i64 z16) 216)
 have b2:=Qab (w.alloc (.cells (arr .i64 z16) 216)) (.cells (arr .i64 z16) 216)
 have e2:=Qag (w.alloc (.cells (arr .i64 z16) 216)) (.cells (arr .i64 z16) 216)
 rw[s1] at e2
 exact⟨by rw[b2.block _ (by omega)];exact e1,e2,Bn b1 b2⟩
theorem Qjw(w:World)(g:Nat)(l:List Nat)(hl:l.length=16)(hg:w.heap[g]?=some (.cells (arr .i64 l) 216 (0,0))):(loadVar 216 ⟨g,0,none⟩).run Tryz.prog w= .ok (.agg (arr .i64 l)) w:=
 run_loadVar_row w g 216 216 _ (0,0) _ hg Tryz.underlying216 rfl (by rw[Qav,hl];exact Tryz.size216)
theorem Qdp{P:Program}{ops:Array Oper}{rest:List Oper}{o:Oper}{a:Act}{w:World}{Q:Exit->Act->World->Prop}(hwt:Region.wanted o (yielded ops a.tmps)=true)(ty:TypeId)(x:Operand)(ho:o.op= .load ty x)
 (g:Nat) (hx:a.eval x= .pointer (some ⟨g,0,none⟩)) (t:TypeId) (cs:Array Value) (fr:Nat×Nat) (d:TypeDesc) (hg:w.heap[g]?=some (.cells cs t fr))
 (hu:P.underlying ty=some d) (hd:(match d with | .struct _ | .array _ _=>true | _=>false)=true) (hi:(P.info? ty).map (·.size)=some cs.size)
 (h:wpList P ops Q rest (a.put o.dst (.agg cs)) w):wpList P ops Q (o::rest) a w:=by
 unfold wpList
 rw[if_pos hwt]
 exact Or.inl (wp_load_row ty x ho g hx t cs fr d hg hu hd hi h)
theorem Qfj:z16.length=16:=rfl
theorem Qq8:Qms.length=16:=rfl
def Qty(zs:List Int):List Nat:=if Qaq zs then tal zs else z16
theorem Que(zs:List Int):(Qty zs).length=16:=by
 unfold Qty;split
 ·exact Qba zs
 ·rfl
theorem Qpx(a:Option Addr)(cap:Nat)(zs:List Int)(w:World)(h:512<zs.length)  :
 Calls Tryz.prog 153 #[.slice a zs.length cap] w fun e w'=>e= .returned (.tuple #[.agg (arr .i64 (Qty zs)),.int .i64 (Qco zs)])∧Below w.heap.size w w':=by
 have HT:=hid (Qls.start w)
 have hb:Qaq zs=false:=by
  unfold Qaq Qhl
  simp[show ¬zs.length<=512 from by omega]
 have e1:Qty zs=z16:=by unfold Qty;rw[hb];rfl
 have e2:Qco zs=51:=by unfold Qco;rw[hb];rfl
 rw[e1,e2]
 clear e1 e2 hb
 generalize zs.length=len at *
 go_enter Tryz.func153,Tryz.ntmps153
 go_wp2_with (first
  | (refine Qad rfl 216 rfl (some 2) rfl (arr .i64 z16) Tryz.zero216 w.heap.size rfl ?_)
  | (refine Qad rfl 216 rfl (some 4) rfl (arr .i64 z16) Tryz.zero216 (w.heap.size+1) (by simp) ?_)
  | (refine wpList_store_rowTo rfl 216 _ _ rfl rfl w.heap.size (arr .i64 z16) rfl rfl 216 _ HT.out.res Tryz.size216 rfl (Qbe _ _) ?_))
 refine bodyPost_ret (Qaz rfl _ _ w.heap.size _ rfl (Qjw _ _ _ Qfj (setRow_heap _ _ _ _ _ _ HT.out.res))) rfl ?_
 exact⟨rfl,below_setRow HT.out.bel (Nat.le_refl _) _⟩
theorem Qbt(zs:List Int)(k:Nat)(hk:k<zs.length):zs.getD k 0∈zs:=by
 simp only[List.getD,List.getElem?_eq_getElem hk,Option.getD_some]
 exact List.getElem_mem hk
theorem Xhl(zs:List Int)(k:Nat)(hk:k<zs.length)(h:¬(0<=zs.getD k 0∧zs.getD k 0<=15)):Qaq zs=false:=by
 cases hc:Qaq zs with
 | false=>rfl
 | true=>
   unfold Qaq at hc
   rw[Bool.and_eq_true] at hc
   exact absurd ((Qb0 hc.1).2 _ (Qbt zs k hk)) h
theorem Xk7(zs:List Int)(hl:zs.length<=512)(h:∀j,j<zs.length->0<=zs.getD j 0∧zs.getD j 0<=15):Qhl zs=true:=by
 unfold Qhl
 rw[Bool.and_eq_true,decide_eq_true_eq,List.all_eq_true]
 refine⟨hl,fun z hz=>?_⟩
 obtain⟨i,hi,rfl⟩:=List.getElem_of_mem hz
 have:=h i hi
 simp only[List.getD,List.getElem?_eq_getElem hi,Option.getD_some] at this
 simpa using this
theorem Qpe(a:Option Addr)(cap:Nat)(zs:List Int)(w:World)(hr:Ri w .i64 a cap zs)(h:zs.length<=512):
 Calls Tryz.prog 153 #[.slice a zs.length cap] w fun e w'=>e= .returned (.tuple #[.agg (arr .i64 (Qty zs)),.int .i64 (Qco zs)])∧Below w.heap.size w w':=by
 have HT:=hid (Qls.start w)
 have HW:Hid (∀w:World,Calls Tryz.prog 167 #[.agg (arr .i64 (tal zs))] w fun e w'=>e= .returned (.bool (Qgj zs 16==32768))∧Below w.heap.size w w'):=fun w=>Qya zs w (by omega)
 have HR:=hid hr
 obtain⟨len,hlen⟩:∃n,n=zs.length:=⟨_,rfl⟩
 have HL:=hid hlen
 rw[<-hlen] at h|-
 clear hr hlen
 go_enter Tryz.func153,Tryz.ntmps153
 go_wp2_with (first
  | (refine Qad rfl 216 rfl (some 2) rfl (arr .i64 z16) Tryz.zero216 w.heap.size rfl ?_)
  | (refine Qad rfl 216 rfl (some 4) rfl (arr .i64 z16) Tryz.zero216 (w.heap.size+1) (by simp) ?_))
 generalize ((w.alloc (.cells (arr .i64 z16) 216)).alloc (.cells (arr .i64 z16) 216))=w2 at *
 go_loopw [6,13] (fun _ i wr=>∃k:Nat,k<=len∧i= .int .i64 k∧Qls w wr (tal (zs.take k))∧Hid (∀j,j<k->0<=zs.getD j 0∧zs.getD j 0<=15)) (fun _ i _=>len-(intOf i).toNat)
 case atStart=>exact⟨0,by omega,rfl,by rw[List.take_zero,Xja];exact HT.out,fun j hj=>absurd hj (by omega)⟩
 case round=>
  clear HT
  obtain⟨k,hk,rfl,hM,HA⟩:=hrel
  by_cases hlt:k<len
  ·have hkl:(k:Int)<(len:Int):=by omega
   obtain⟨b,off,rfl,hbw,hc⟩:=(HR.out).cells (by rw[<-HL.out];omega)
   have ck:wr.cell? ⟨b,off+k,none⟩=some (.int .i64 (zs.getD k 0)):=(hM.bel.cell (p:=⟨b,off+k,none⟩) hbw).trans (hc k (by rw[<-HL.out];exact hlt))
   clear hc
   have hkz:k<zs.length:=by rw[<-HL.out];exact hlt
   have HZ:=hid hkz
   clear hkz
   by_cases hbad:0<=zs.getD k 0∧zs.getD k 0<=15
   ·by_cases hz:0<zs.getD k 0
    ·obtain⟨l,hlz⟩:∃l:Nat,zs.getD k 0=(l:Int):=⟨(zs.getD k 0).toNat,by omega⟩
     have hgd:=Qba (zs.take k)
     have c1:=(Joins.cell_of_block hM.many l).trans (Qas .i64 _ l (by omega))
     have fw:=Joins.unfrozen_of_block hM.many l
     rw[Qcv _ _ (by omega)] at c1
     have hcn:=Qle (zs.take k) l
     have hput:=hM.put l (cnt (zs.take k) l+1)
     rw[<-Xey _ l (by omega) (by omega),<-hlz,<-Qbq zs k HZ.out] at hput
     have HP:=hid hput
     have HA2:Hid (∀j,j<k+1->0<=zs.getD j 0∧zs.getD j 0<=15):=fun j hj=>by
      by_cases e:j=k
      ·subst e;exact hbad
      ·exact HA.out j (by omega)
     have hl2:(zs.take k).length<=512:=by rw[List.length_take];omega
     rw[hlz] at ck hz hbad
     clear hput hM hgd HZ hlz
     generalize cnt (zs.take k) l=c at *
     have HV:Hid ((c:Int)+1=((c+1:Nat):Int)):=by show _=_;omega
     have h15:¬(15:Int)<(l:Int):=by omega
     go_wp2
     rw[HV.out]
     exact⟨⟨k+1,by omega,by go_num,HP.out,HA2⟩,by simp[intOf];omega⟩
    ·have hz0:zs.getD k 0=0:=by omega
     have HM:Hid (Qls w wr (tal (zs.take (k+1)))):=by
      show Qls _ _ _
      rw[Qbq zs k HZ.out,Xcl _ _ (by omega)];exact hM
     have HA2:Hid (∀j,j<k+1->0<=zs.getD j 0∧zs.getD j 0<=15):=fun j hj=>by
      by_cases e:j=k
      ·subst e;exact hbad
      ·exact HA.out j (by omega)
     rw[hz0] at ck
     clear hM HZ hz hz0 hbad
     go_wp2
     exact⟨⟨k+1,by omega,by go_num,HM.out,HA2⟩,by simp[intOf];omega⟩
   ·have hb:=Xhl zs k HZ.out hbad
    have e1:Qty zs=z16:=by unfold Qty;rw[hb];rfl
    have e2:Qco zs=51:=by unfold Qco;rw[hb];rfl
    have E1:=hid e1
    have E2:=hid e2
    have hres:=hM.res
    have HB:=hid hM.bel
    clear e1 e2 hb hM HZ
    generalize zs.getD k 0=z at *
    by_cases hneg:z<0
    ·go_wp2_with (first
      | (refine wpList_store_rowTo rfl 216 _ _ rfl rfl w.heap.size (arr .i64 z16) rfl rfl 216 _ hres Tryz.size216 rfl (Qbe _ _) ?_))
     refine bodyPost_ret (Qaz rfl _ _ w.heap.size _ rfl (Qjw _ _ _ Qfj (setRow_heap _ _ _ _ _ _ hres))) rfl ?_
     exact⟨by rw[E1.out,E2.out];rfl,below_setRow HB.out (Nat.le_refl _) _⟩
    ·have h15:(15:Int)<z:=by omega
     clear hbad
     go_wp2_with (first
      | (refine wpList_store_rowTo rfl 216 _ _ rfl rfl w.heap.size (arr .i64 z16) rfl rfl 216 _ hres Tryz.size216 rfl (Qbe _ _) ?_))
     refine bodyPost_ret (Qaz rfl _ _ w.heap.size _ rfl (Qjw _ _ _ Qfj (setRow_heap _ _ _ _ _ _ hres))) rfl ?_
     exact⟨by rw[E1.out,E2.out];rfl,below_setRow HB.out (Nat.le_refl _) _⟩
  ·obtain rfl:k=len:=by omega
   have hok:=Xk7 zs (by rw[<-HL.out];exact h) (fun j hj=>HA.out j (by rw[HL.out];exact hj))
   have e0:Qaq zs=okT zs:=by unfold Qaq;rw[hok];rfl
   rw[show zs.take k=zs from by rw[HL.out];exact List.take_length] at hM
   have e1:Qty zs=if okT zs then tal zs else z16:=by unfold Qty;rw[e0]
   have e2:Qco zs=if okT zs then 0 else 51:=by unfold Qco;rw[e0]
   have e3:okT zs=((Qgj zs 16==32768)||(tal zs==z16)||(tal zs==Qms)):=rfl
   rw[e3] at e1 e2
   have htl:=Qba zs
   have q1:∀w,(Op.equalIn 10000 216 (.agg (arr .i64 (tal zs))) (.agg #[.int .i64 0,.int .i64 0,.int .i64 0,.int .i64 0,.int .i64 0,.int .i64 0,.int .i64 0,.int .i64 0,.int .i64 0,.int .i64 0,.int .i64 0,.int .i64 0,.int .i64 0,.int .i64 0,.int .i64 0,.int .i64 0])).run Tryz.prog w= .ok (tal zs==z16) w:=Qv6 (tal zs) z16 htl Qfj
   have q2:∀w,(Op.equalIn 10000 216 (.agg (arr .i64 (tal zs))) (.agg #[.int .i64 0,.int .i64 1,.int .i64 0,.int .i64 0,.int .i64 0,.int .i64 0,.int .i64 0,.int .i64 0,.int .i64 0,.int .i64 0,.int .i64 0,.int .i64 0,.int .i64 0,.int .i64 0,.int .i64 0,.int .i64 0])).run Tryz.prog w= .ok (tal zs==Qms) w:=Qv6 (tal zs) Qms htl Qq8
   have hg:=Xib
   have hres:=hM.res
   have hmany:=hM.many
   have HB:=hid hM.bel
   have E1:=hid e1
   have E2:=hid e2
   clear e0 e1 e2 e3 hok hM HA
   generalize (Qgj zs 16==32768)=x1 at *
   generalize (tal zs==z16)=x2 at *
   generalize (tal zs==Qms)=x3 at *
   generalize hTZ:tal zs=tz at *
   have zt:(Tryz.prog.info? 216).map (·.size)=some (arr .i64 tz).size:=by rw[Qav,htl];exact Tryz.size216
   go_wp2_with (first
    | (refine wpList_load_row rfl 216 _ rfl (w.heap.size+1) rfl 216 (arr .i64 tz) (0,0) _ hmany Tryz.underlying216 rfl zt ?_)
    | fail)
   refine(HW.out _).mono ?_
   rintro _ w4 ⟨rfl,hb4⟩
   have hr4:w4.heap[w.heap.size]?=some (.cells (arr .i64 z16) 216 (0,0)):=by
    rw[hb4.block _ (Array.getElem?_eq_some_iff.1 hres).1];exact hres
   have hm4:w4.heap[w.heap.size+1]?=some (.cells (arr .i64 tz) 216 (0,0)):=by
    rw[hb4.block _ (Array.getElem?_eq_some_iff.1 hmany).1];exact hmany
   have HB4:=hid (Bn HB.out hb4)
   have hld:=Qjw w4 (w.heap.size+1) tz htl hm4
   have hsz:(arr .i64 tz).size=16:=by rw[Qav,htl]
   clear hres hmany HW HB hb4 hTZ
   cases x1 with
   | true=>
     go_wp2_with (first
      | (refine wpList_load_row rfl 216 _ rfl (w.heap.size+1) rfl 216 (arr .i64 tz) (0,0) _ hm4 Tryz.underlying216 rfl zt ?_)
      | (refine wpList_store_rowTo rfl 216 _ _ rfl rfl w.heap.size (arr .i64 tz) rfl rfl 216 _ hr4 zt (by rw[hsz];rfl) (Qbe _ _) ?_))
     refine bodyPost_ret (Qaz rfl _ _ w.heap.size _ rfl (Qjw _ _ _ htl (setRow_heap _ _ _ _ _ _ hr4))) rfl ?_
     exact⟨by rw[E1.out,E2.out];rfl,below_setRow HB4.out (Nat.le_refl _) _⟩
   | false=>
     cases x2 with
     | true=>
       go_wp2_with (first
        | (refine Qdp rfl 216 _ rfl (w.heap.size+1) rfl 216 (arr .i64 tz) (0,0) _ hm4 Tryz.underlying216 rfl zt ?_)
        | (refine wpList_store_rowTo rfl 216 _ _ rfl rfl w.heap.size (arr .i64 tz) rfl rfl 216 _ hr4 zt (by rw[hsz];rfl) (Qbe _ _) ?_))
       refine bodyPost_ret (Qaz rfl _ _ w.heap.size _ rfl (Qjw _ _ _ htl (setRow_heap _ _ _ _ _ _ hr4))) rfl ?_
       exact⟨by rw[E1.out,E2.out];rfl,below_setRow HB4.out (Nat.le_refl _) _⟩
     | false=>
       cases x3 with
       | true=>
         go_wp2_with (first
          | (refine Qdp rfl 216 _ rfl (w.heap.size+1) rfl 216 (arr .i64 tz) (0,0) _ hm4 Tryz.underlying216 rfl zt ?_)
          | (refine wpList_store_rowTo rfl 216 _ _ rfl rfl w.heap.size (arr .i64 tz) rfl rfl 216 _ hr4 zt (by rw[hsz];rfl) (Qbe _ _) ?_))
         refine bodyPost_ret (Qaz rfl _ _ w.heap.size _ rfl (Qjw _ _ _ htl (setRow_heap _ _ _ _ _ _ hr4))) rfl ?_
         exact⟨by rw[E1.out,E2.out];rfl,below_setRow HB4.out (Nat.le_refl _) _⟩
       | false=>
         go_wp2_with (first
          | (refine Qdp rfl 216 _ rfl (w.heap.size+1) rfl 216 (arr .i64 tz) (0,0) _ hm4 Tryz.underlying216 rfl zt ?_)
          | (refine wpList_store_rowTo rfl 216 _ _ rfl rfl w.heap.size (arr .i64 z16) rfl rfl 216 _ hr4 Tryz.size216 rfl (Qbe _ _) ?_))
         refine bodyPost_ret (Qaz rfl _ _ w.heap.size _ rfl (Qjw _ _ _ Qfj (setRow_heap _ _ _ _ _ _ hr4))) rfl ?_
         exact⟨by rw[E1.out,E2.out];rfl,below_setRow HB4.out (Nat.le_refl _) _⟩
theorem Qjv(a:Option Addr)(cap:Nat)(zs:List Int)(w:World)(hr:Ri w .i64 a cap zs):
 Calls Tryz.prog 153 #[.slice a zs.length cap] w fun e w'=>e= .returned (.tuple #[.agg (arr .i64 (Qty zs)),.int .i64 (Qco zs)])∧Below w.heap.size w w':=by
 by_cases h:zs.length<=512
 ·exact Qpe a cap zs w hr h
 ·exact Qpx a cap zs w (by omega)
end
end Go.Proofs.YtibjlbcnapoblaaGreatDoor
