/-
 CRC-32C as plain mathematics over natural numbers: a bit in, a byte in, a row in; that they are linear and can be taken back; joined sums; four bytes that make any sum; rows that differ within four bytes.
-/
import Derived.Laws.BitsAllLaws
namespace Go.Proofs.YtibjlbcnapoblaaGreatDoor.Cr.Crc
def poly:Nat:=2197175160
def ones:Nat:=4294967295
def sel(t:Nat):Nat:=if t%2=1 then poly else 0
def bitIn(r b:Nat):Nat:=r/2^^^sel (r^^^b)
def inN:Nat->Nat->Nat->Nat
 | 0,r,_=>r
 | k+1,r,b=>inN k (bitIn r b) (b/2)
def inB(r b:Nat):Nat:=inN 8 r b
def inR(r:Nat)(l:List Nat):Nat:=l.foldl inB r
theorem inR_nil(r:Nat):inR r []=r:=rfl
theorem inR_cons(r b:Nat)(l:List Nat):inR r (b::l)=inR (inB r b) l:=List.foldl_cons ..
theorem xac(a b c d:Nat):(a^^^b)^^^(c^^^d)=(a^^^c)^^^(b^^^d):=by
 rw[Nat.xor_assoc,<-Nat.xor_assoc b c d,Nat.xor_comm b c,Nat.xor_assoc c b d,<-Nat.xor_assoc]
theorem xor_can(a b:Nat):(a^^^b)^^^b=a:=by rw[Nat.xor_assoc,Nat.xor_self,Nat.xor_zero]
theorem xor_mod2(a b:Nat):(a^^^b)%2=(a+b)%2:=by
 have h:=Nat.testBit_xor a b 0
 rw[Nat.testBit_zero,Nat.testBit_zero,Nat.testBit_zero] at h
 rcases Nat.mod_two_eq_zero_or_one a with ha | ha<;>rcases Nat.mod_two_eq_zero_or_one b with hb | hb<;>rcases Nat.mod_two_eq_zero_or_one (a^^^b) with hc | hc<;>rw[ha,hb,hc] at h<;>simp at h<;>omega
theorem sel_xor(a b:Nat):sel (a^^^b)=sel a^^^sel b:=by
 have h:(a^^^b)%2=(a+b)%2:=xor_mod2 _ _
 unfold sel
 rw[h]
 rcases Nat.mod_two_eq_zero_or_one a with ha | ha<;>rcases Nat.mod_two_eq_zero_or_one b with hb | hb
 ·rw[if_neg (by omega),if_neg (by omega),if_neg (by omega)];rfl
 ·rw[if_pos (by omega),if_neg (by omega),if_pos (by omega)];simp
 ·rw[if_pos (by omega),if_pos (by omega),if_neg (by omega)];simp
 ·rw[if_neg (by omega),if_pos (by omega),if_pos (by omega)];simp
theorem half_xor(a b:Nat):(a^^^b)/2=a/2^^^b/2:=Nat.xor_div_two
theorem bitIn_xor(r s a b:Nat):bitIn (r^^^s) (a^^^b)=bitIn r a^^^bitIn s b:=by
 unfold bitIn
 rw[half_xor,xac r s a b,sel_xor,xac]
theorem inN_xor(k:Nat):∀r s a b:Nat,inN k (r^^^s) (a^^^b)=inN k r a^^^inN k s b:=by
 induction k with
 | zero=>intro r s a b;rfl
 | succ k ih=>intro r s a b;rw[inN,inN,inN,bitIn_xor,half_xor,ih]
theorem inB_xor(r s a b:Nat):inB (r^^^s) (a^^^b)=inB r a^^^inB s b:=inN_xor 8 r s a b
theorem inN_split(k r b:Nat):inN k r b=inN k r 0^^^inN k 0 b:=by
 have:=inN_xor k r 0 0 b
 rw[Nat.xor_zero,Nat.zero_xor] at this
 exact this
theorem inN_move(k:Nat):∀b:Nat,b<2^k->inN k 0 b=inN k b 0:=by
 induction k with
 | zero=> intro b h;have:b=0:=by simpa using h
          rw[this]
 | succ k ih=>
   intro b h
   have hb:b/2<2^k:=by rw[Nat.pow_succ] at h;omega
   have e1:bitIn 0 b=sel b:=by simp[bitIn]
   have e2:bitIn b 0=sel b^^^b/2:=by rw[bitIn,Nat.xor_zero,Nat.xor_comm]
   rw[inN,inN,e1,e2,inN_split k (sel b) (b/2),ih _ hb]
   have:=inN_xor k (sel b) (b/2) 0 0
   rw[Nat.xor_zero] at this
   rw[show 0/2=0 from rfl,this]
theorem inN_join(k r b:Nat)(h:b<2^k):inN k r b=inN k (r^^^b) 0:=by
 have:=inN_xor k r b 0 0
 rw[Nat.xor_zero] at this
 rw[inN_split,inN_move k b h,this]
theorem inN_shift(k:Nat):∀x:Nat,inN k (x*2^k) 0=x:=by
 induction k with
 | zero=>intro x;simp[inN]
 | succ k ih=>
   intro x
   have e:bitIn (x*2^(k+1)) 0=x*2^k:=by
    unfold bitIn sel
    rw[Nat.xor_zero,Nat.pow_succ,<-Nat.mul_assoc,if_neg (by omega),Nat.xor_zero]
    omega
   rw[inN,e]
   exact ih x
theorem split_256(r:Nat):r=(r/256*2^8)^^^(r%256):=by
 have h1:(r/256*2^8)|||(r%256)=r/256*2^8+r%256:=nat_join 8 _ _ (Nat.mul_mod_left _ _) (by omega)
 have h2:(r/256*2^8)&&&(r%256)=0:=by
  apply Nat.eq_of_testBit_eq
  intro i
  rw[Nat.testBit_and,Nat.zero_testBit]
  by_cases hi:i<8
  ·have:(r/256*2^8).testBit i=false:=by rw[Nat.testBit_mul_two_pow];simp;omega
   rw[this];rfl
  ·have:(r%256).testBit i=false:=Nat.testBit_lt_two_pow (Nat.lt_of_lt_of_le (show r%256<2^8 from by omega) (Nat.pow_le_pow_right (n:=2) (by decide) (by omega)))
   rw[this,Bool.and_false]
 have h3:(r/256*2^8)^^^(r%256)=(r/256*2^8)|||(r%256):=by
  apply Nat.eq_of_testBit_eq
  intro i
  have h:=congrArg (fun x=>x.testBit i) h2
  simp only[Nat.testBit_and,Nat.zero_testBit] at h
  rw[Nat.testBit_xor,Nat.testBit_or]
  revert h
  cases (r/256*2^8).testBit i<;>cases (r%256).testBit i<;>simp
 rw[h3,h1]
 omega
theorem inB_table(r b:Nat)(h:b<256):inB r b=r/256^^^inB 0 (r%256^^^b):=by
 have hx:r%256^^^b<2^8:=Nat.xor_lt_two_pow (by omega) (by omega)
 unfold inB
 rw[inN_join 8 r b (by omega),inN_move 8 _ hx]
 conv=>lhs;rw[split_256 r]
 rw[Nat.xor_assoc]
 have:=inN_xor 8 (r/256*2^8) (r%256^^^b) 0 0
 rw[Nat.xor_zero] at this
 rw[this,inN_shift]
theorem sel_lt(t:Nat):sel t<2^32:=by unfold sel poly;split<;>omega
theorem bitIn_lt(r b:Nat)(h:r<2^32):bitIn r b<2^32:=Nat.xor_lt_two_pow (by omega) (sel_lt _)
theorem inN_lt(k:Nat):∀r b:Nat,r<2^32->inN k r b<2^32:=by
 induction k with
 | zero=>intro r b h;exact h
 | succ k ih=>intro r b h;exact ih _ _ (bitIn_lt r b h)
theorem inB_lt(r b:Nat)(h:r<2^32):inB r b<2^32:=inN_lt 8 r b h
theorem inR_lt(l:List Nat):∀r:Nat,r<2^32->inR r l<2^32:=by
 induction l with
 | nil=>intro r h;rw[inR_nil];exact h
 | cons b l ih=>intro r h;rw[inR_cons];exact ih _ (inB_lt r b h)
/-! Back -/
def bitOut(r b:Nat):Nat:=if r<2^31 then 2*r+b%2 else 2*(r^^^poly)+(1-b%2)
theorem top_bit(x:Nat)(h:x<2^31):2^31<=x^^^poly∧x^^^poly<2^32:=by
 have h1:x^^^poly<2^32:=Nat.xor_lt_two_pow (by omega) (by unfold poly;omega)
 refine⟨?_,h1⟩
 have hb:(x^^^poly).testBit 31=true:=by
  rw[Nat.testBit_xor,Nat.testBit_lt_two_pow h]
  decide
 exact Nat.ge_two_pow_of_testBit hb
theorem xor_bit(r b:Nat):(r^^^b)%2=(r+b)%2:=xor_mod2 _ _
theorem bitOut_in(r b:Nat)(h:r<2^32):bitOut (bitIn r b) b=r:=by
 have hx:=xor_bit r b
 unfold bitIn sel bitOut
 by_cases hs:(r^^^b)%2=1
 ·rw[if_pos hs,if_neg (by have:=(top_bit (r/2) (by omega)).1;omega),xor_can]
  omega
 ·rw[if_neg hs,Nat.xor_zero,if_pos (by omega)]
  omega
theorem inN_snoc(k:Nat):∀r b:Nat,inN (k+1) r b=bitIn (inN k r b) (b/2^k):=by
 induction k with
 | zero=>intro r b;simp[inN]
 | succ k ih=>
   intro r b
   rw[inN,ih,inN,Nat.div_div_eq_div_mul,<-Nat.pow_succ']
def outN:Nat->Nat->Nat->Nat
 | 0,r,_=>r
 | k+1,r,b=>outN k (bitOut r (b/2^k)) b
def outB(r b:Nat):Nat:=outN 8 r b
def outR(r:Nat)(l:List Nat):Nat:=l.foldr (fun b r=>outB r b) r
theorem outR_nil(r:Nat):outR r []=r:=rfl
theorem outR_cons(r b:Nat)(l:List Nat):outR r (b::l)=outB (outR r l) b:=List.foldr_cons ..
theorem outN_in(k:Nat):∀r b:Nat,r<2^32->outN k (inN k r b) b=r:=by
 induction k with
 | zero=>intro r b _;rfl
 | succ k ih=>intro r b h;rw[inN_snoc,outN,bitOut_in _ _ (inN_lt k r b h),ih r b h]
theorem outB_in(r b:Nat)(h:r<2^32):outB (inB r b) b=r:=outN_in 8 r b h
theorem outR_in(l:List Nat):∀r:Nat,r<2^32->outR (inR r l) l=r:=by
 induction l with
 | nil=>intro r _;rw[inR_nil,outR_nil]
 | cons b l ih=>
   intro r h
   rw[inR_cons,outR_cons,ih _ (inB_lt r b h),outB_in r b h]
theorem inR_inj(l:List Nat)(r s:Nat)(hr:r<2^32)(hs:s<2^32)(h:inR r l=inR s l):r=s:=by
 rw[<-outR_in l r hr,<-outR_in l s hs,h]
theorem inR_append(r:Nat)(l m:List Nat):inR r (l++m)=inR (inR r l) m:=by
 unfold inR;rw[List.foldl_append]
/-! Two rows at once -/
theorem inR_xor(l:List Nat):∀(m:List Nat) (r s:Nat),l.length=m.length->inR (r^^^s) (List.zipWith (· ^^^ ·) l m)=inR r l^^^inR s m:=by
 induction l with
 | nil=>intro m r s h;cases m with
   | nil=>rw[List.zipWith_nil_left,inR_nil,inR_nil,inR_nil]
   | cons c m=>simp at h
 | cons b l ih=>
   intro m r s h
   cases m with
   | nil=>simp at h
   | cons c m=>
     rw[List.zipWith_cons_cons,inR_cons,inR_cons,inR_cons,inB_xor,ih m _ _ (by simpa using h)]
def add(sum:Nat)(l:List Nat):Nat:=inR (sum^^^ones) l^^^ones
def back(sum:Nat)(l:List Nat):Nat:=outR (sum^^^ones) l^^^ones
theorem ones_lt(a:Nat)(h:a<2^32):a^^^ones<2^32:=Nat.xor_lt_two_pow h (by unfold ones;omega)
theorem add_lt(s:Nat)(l:List Nat)(h:s<2^32):add s l<2^32:=ones_lt _ (inR_lt l _ (ones_lt s h))
theorem add_append(s:Nat)(l m:List Nat):add s (l++m)=add (add s l) m:=by
 rw[add,add,add,xor_can,inR_append]
def four(x:Nat):List Nat:= [x%256,x/256%256,x/65536%256,x/16777216%256]
theorem inB_low(d x:Nat):inB (d^^^x) 0=inB d (x%256)^^^x/256:=by
 conv=>lhs;rw[split_256 x]
 have h1:d^^^((x/256*2^8)^^^(x%256))=(d^^^(x%256))^^^(x/256*2^8):=by
  rw[Nat.xor_comm (x/256*2^8),Nat.xor_assoc]
 rw[h1]
 have h2:=inB_xor (d^^^(x%256)) (x/256*2^8) 0 0
 rw[Nat.xor_zero] at h2
 rw[h2]
 have h3:inB (x/256*2^8) 0=x/256:=inN_shift 8 (x/256)
 have h4:inB d (x%256)=inB (d^^^(x%256)) 0:=inN_join 8 d (x%256) (by omega)
 rw[h3,h4]
theorem inR_four(d x:Nat)(hx:x<2^32):inR d (four x)=inR (d^^^x) [0,0,0,0]:=by
 rw[four]
 simp only[inR_cons,inR_nil]
 rw[inB_low d x,inB_low _ (x/256),Nat.div_div_eq_div_mul,inB_low _ (x/(256*256)),Nat.div_div_eq_div_mul,inB_low _ (x/(256*256*256)),Nat.div_div_eq_div_mul]
 rw[show x/(256*256*256*256)=0 from by omega,Nat.xor_zero]
theorem near(s x:Nat)(pre mid suf:List Nat)(hs:s<2^32)(hx:x<2^32)(h0:x≠0)(hm:mid.length=4):
 add s (pre++mid++suf)≠add s (pre++List.zipWith (· ^^^ ·) mid (four x)++suf):=by
 intro h
 unfold add at h
 have h1:=congrArg (· ^^^ ones) h
 simp only[xor_can] at h1
 rw[inR_append,inR_append,inR_append,inR_append] at h1
 have hr:=inR_lt pre _ (ones_lt s hs)
 have h2:=inR_inj suf _ _ (inR_lt mid _ hr) (inR_lt _ _ hr) h1
 have h3:=inR_xor mid (four x) (inR (s^^^ones) pre) 0 (by rw[hm];rfl)
 rw[Nat.xor_zero] at h3
 rw[h3] at h2
 have h4:inR 0 (four x)=0:=by
  have:=congrArg (inR (inR (s^^^ones) pre) mid ^^^ ·) h2
  simp only[Nat.xor_self,<-Nat.xor_assoc,Nat.zero_xor] at this
  exact this.symm
 rw[inR_four 0 x hx,Nat.zero_xor] at h4
 have h5:inR 0 [0,0,0,0]=0:=by decide
 exact h0 (inR_inj [0,0,0,0] x 0 hx (by decide) (h4.trans h5.symm))
end Go.Proofs.YtibjlbcnapoblaaGreatDoor.Cr.Crc
/-
 Registers as polynomials: the product by which many bytes 0 go in at once.
-/
namespace Go.Proofs.YtibjlbcnapoblaaGreatDoor.Cr.Crc
def st(k r:Nat):Nat:=inN k r 0
theorem st_snoc(k r:Nat):st (k+1) r=bitIn (st k r) 0:=by
 unfold st;rw[inN_snoc,Nat.zero_div]
theorem st_lt(k r:Nat)(h:r<2^32):st k r<2^32:=inN_lt k r 0 h
theorem bitIn_zero(r:Nat):bitIn r 0=r/2^^^sel r:=by rw[bitIn,Nat.xor_zero]
def pick(b t:Nat):Nat:=b*(t%2)
def mulN(a b:Nat):Nat->Nat
 | 0=>0
 | k+1=>bitIn (mulN a b k) 0^^^pick b (a/2^k)
def mul(a b:Nat):Nat:=mulN a b 32
theorem xor_apart(i x y:Nat)(hx:x<2^i)(hy:y%2^i=0):x^^^y=x+y:=by
 have h1:y|||x=y+x:=nat_join i y x hy hx
 have h3:x^^^y=y|||x:=by
  apply Nat.eq_of_testBit_eq
  intro j
  rw[Nat.testBit_xor,Nat.testBit_or]
  by_cases hj:j<i
  ·have:y.testBit j=false:=by
    have hy':y=2^i*(y/2^i):=by have:=Nat.div_add_mod y (2^i);omega
    rw[hy',Nat.testBit_two_pow_mul]
    simp;omega
   rw[this];simp
  ·have:x.testBit j=false:=Nat.testBit_lt_two_pow (Nat.lt_of_lt_of_le hx (Nat.pow_le_pow_right (n:=2) (by decide) (by omega)))
   rw[this];simp
 rw[h3,h1];omega
theorem mulN_one(a:Nat):∀k,k<=32->mulN a (2^31) k=a%2^k*2^(32-k):=by
 intro k
 induction k with
 | zero=>intro _;rw[Nat.pow_zero,Nat.mod_one,Nat.zero_mul];rfl
 | succ k ih=>
   intro hk
   rw[mulN,ih (by omega),bitIn_zero]
   have e1:a%2^k*2^(32-k)=2*(a%2^k*2^(31-k)):=by
    rw[show 32-k=(31-k)+1 from by omega,Nat.pow_succ,<-Nat.mul_assoc,Nat.mul_comm]
   rw[e1,sel,if_neg (by omega),Nat.xor_zero,Nat.mul_div_cancel_left _ (by decide),show 32-(k+1)=31-k from by omega]
   have hlt:a%2^k*2^(31-k)<2^31:=by
    have h1:a%2^k<2^k:=Nat.mod_lt _ (Nat.two_pow_pos k)
    have h2:a%2^k*2^(31-k)<2^k*2^(31-k):=Nat.mul_lt_mul_of_pos_right h1 (Nat.two_pow_pos _)
    rwa[<-Nat.pow_add,show k+(31-k)=31 from by omega] at h2
   have hp:pick (2^31) (a/2^k)%2^31=0:=by unfold pick;exact Nat.mul_mod_right _ _
   rw[xor_apart 31 _ _ hlt hp,Nat.mod_pow_succ,Nat.add_mul,pick]
   have e2:2^k*(a/2^k%2)*2^(31-k)=2^31*(a/2^k%2):=by
    rw[Nat.mul_right_comm,<-Nat.pow_add,show k+(31-k)=31 from by omega]
   rw[e2]
theorem mul_one(a:Nat)(h:a<2^32):mul a (2^31)=a:=by
 rw[mul,mulN_one a 32 (Nat.le_refl _),Nat.mod_eq_of_lt h,Nat.sub_self,Nat.pow_zero,Nat.mul_one]
end Go.Proofs.YtibjlbcnapoblaaGreatDoor.Cr.Crc
/-
 Plain facts: rows that differ within four bytes side by side have other sums.
-/
namespace Go.Proofs.YtibjlbcnapoblaaGreatDoor
namespace Cr
namespace Crc
theorem getD_ext{u v:List Nat}(hl:u.length=v.length)(h:∀j,u.getD j 0=v.getD j 0):u=v:=by
 refine List.ext_getElem hl fun j h1 h2=>?_
 have:=h j
 simpa [List.getD,List.getElem?_eq_getElem h1,List.getElem?_eq_getElem h2] using this
theorem take4(u:List Nat)(p:Nat)(hp:p+4<=u.length):(u.drop p).take 4= [u.getD p 0,u.getD (p+1) 0,u.getD (p+2) 0,u.getD (p+3) 0]:=by
 refine getD_ext (by simp;omega) fun j=>?_
 by_cases hj:j<4
 ·rw[show((u.drop p).take 4).getD j 0=u.getD (p+j) 0 from by simp[List.getD,List.getElem?_take_of_lt hj]]
  match j,hj with
  | 0,_=>rfl
  | 1,_=>rfl
  | 2,_=>rfl
  | 3,_=>rfl
 ·rw[show((u.drop p).take 4).getD j 0=0 from by
   have:((u.drop p).take 4).length<=j:=by simp;omega
   simp[List.getD,List.getElem?_eq_none this]]
  match j,hj with
  | j+4,_=>rfl
theorem split4(u:List Nat)(p:Nat):u=u.take p++(u.drop p).take 4++u.drop (p+4):=by
 rw[List.append_assoc,show u.drop (p+4)=(u.drop p).drop 4 from by rw[List.drop_drop],List.take_append_drop,List.take_append_drop]
theorem crc_near{u v:List Nat}(p:Nat)(hl:u.length=v.length)(hp:p+4<=u.length)(hu:∀j,u.getD j 0<256)(hv:∀j,v.getD j 0<256)(h:∀j,¬(p<=j∧j<p+4)->u.getD j 0=v.getD j 0)(he:add 0 u=add 0 v):u=v:=by
 have e1:u.take p=v.take p:=by
  refine getD_ext (by simp[hl]) fun j=>?_
  by_cases hj:j<p
  ·have:=h j (by omega)
   simpa [List.getD,List.getElem?_take_of_lt hj] using this
  ·have a1:(u.take p).length<=j:=by simp;omega
   have a2:(v.take p).length<=j:=by simp;omega
   simp[List.getD,List.getElem?_eq_none a1,List.getElem?_eq_none a2]
 have e2:u.drop (p+4)=v.drop (p+4):=by
  refine getD_ext (by simp[hl]) fun j=>?_
  have:=h (p+4+j) (by omega)
  simpa [List.getD] using this
 have s1:=split4 u p
 have s2:=split4 v p
 rw[take4 u p hp] at s1
 rw[take4 v p (by omega),<-e1,<-e2] at s2
 have u0:=hu p
 have u1:=hu (p+1)
 have u2:=hu (p+2)
 have u3:=hu (p+3)
 have v0:=hv p
 have v1:=hv (p+1)
 have v2:=hv (p+2)
 have v3:=hv (p+3)
 generalize u.getD p 0=a0 at *
 generalize u.getD (p+1) 0=a1 at *
 generalize u.getD (p+2) 0=a2 at *
 generalize u.getD (p+3) 0=a3 at *
 generalize v.getD p 0=b0 at *
 generalize v.getD (p+1) 0=b1 at *
 generalize v.getD (p+2) 0=b2 at *
 generalize v.getD (p+3) 0=b3 at *
 have x0:a0^^^b0<2^8:=Nat.xor_lt_two_pow u0 v0
 have x1:a1^^^b1<2^8:=Nat.xor_lt_two_pow u1 v1
 have x2:a2^^^b2<2^8:=Nat.xor_lt_two_pow u2 v2
 have x3:a3^^^b3<2^8:=Nat.xor_lt_two_pow u3 v3
 have back:∀a b:Nat,a^^^(a^^^b)=b:=fun a b=>by rw[<-Nat.xor_assoc,Nat.xor_self,Nat.zero_xor]
 have hf:four ((a0^^^b0)+256*(a1^^^b1)+65536*(a2^^^b2)+16777216*(a3^^^b3))= [a0^^^b0,a1^^^b1,a2^^^b2,a3^^^b3]:=by
  unfold four
  generalize a0^^^b0=y0 at *
  generalize a1^^^b1=y1 at *
  generalize a2^^^b2=y2 at *
  generalize a3^^^b3=y3 at *
  have r0:(y0+256*y1+65536*y2+16777216*y3)%256=y0:=by omega
  have r1:(y0+256*y1+65536*y2+16777216*y3)/256%256=y1:=by omega
  have r2:(y0+256*y1+65536*y2+16777216*y3)/65536%256=y2:=by omega
  have r3:(y0+256*y1+65536*y2+16777216*y3)/16777216%256=y3:=by omega
  rw[r0,r1,r2,r3]
 by_cases hx:(a0^^^b0)+256*(a1^^^b1)+65536*(a2^^^b2)+16777216*(a3^^^b3)=0
 ·have eqz:∀a b:Nat,a^^^b=0->a=b:=fun a b h=>by have:=back a b;rw[h,Nat.xor_zero] at this;exact this
  rw[eqz a0 b0 (by omega),eqz a1 b1 (by omega),eqz a2 b2 (by omega),eqz a3 b3 (by omega)] at s1
  rw[s1,<-s2]
 ·have hn:=near 0 _ (u.take p) [a0,a1,a2,a3] (u.drop (p+4)) (by decide) (by omega) hx rfl
  rw[hf] at hn
  simp only[List.zipWith_cons_cons,List.zipWith_nil_left,back] at hn
  rw[<-s1,<-s2] at hn
  exact absurd he hn
end Crc
end Cr
end Go.Proofs.YtibjlbcnapoblaaGreatDoor
