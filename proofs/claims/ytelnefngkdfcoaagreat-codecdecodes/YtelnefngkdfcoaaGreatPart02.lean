/-
 Plain facts on a stable sort by blocks: where the blocks begin, and what joins two of them.
-/
import Derived.Test.YtelnefngkdfcoaaGreatPart01
import Derived.Test.YtelnefngkdfcoaaGreatPart00
namespace Go.Proofs.YtelnefngkdfcoaaGreat
namespace Hf
def Gd(cs:List Int)(C:Nat->Prop)(n:Nat)(X:List Int):Prop:=
 ∀p q,p<q->q<n->((∀x,p<x->x<=q->¬C x)->Lx cs (X.getD p 0) (X.getD q 0))∧(∀x,p<x->x<=q->C x->X.getD p 0<X.getD q 0)
theorem Gd.iff{cs:List Int}{C D:Nat->Prop}{n:Nat}{X:List Int}(h:Gd cs C n X)(e:∀x,x<n->(C x↔D x)):Gd cs D n X:=by
 intro p q h1 h2
 obtain⟨a,b⟩:=h p q h1 h2
 exact⟨fun hx=>a (fun x e1 e2 hc=>hx x e1 e2 ((e x (by omega)).1 hc)),fun x e1 e2 hd=>b x e1 e2 ((e x (by omega)).2 hd)⟩
theorem Gd.start{cs:List Int}{n:Nat}{o:List Int}(hinc:∀p q,p<q->q<n->o.getD p 0<o.getD q 0)(C:Nat->Prop)(hC:∀x,C x):Gd cs C n o:=
 fun p q h1 h2=>⟨fun h=>absurd (hC q) (h q h1 (Nat.le_refl _)),fun _ _ _ _=>hinc p q h1 h2⟩
theorem Gd.join{cs:List Int}{C:Nat->Prop}{n a b:Nat}{X Y:List Int}(h:Gd cs C n X)(hs:Sorted cs a b X Y)(hl:X.length=n)(hb:b<=n)(ca:a=0∨C a)(cb:b=n∨C b):Gd cs (fun x=>C x∧¬(a<x∧x<b)) n Y:=by
 have hm:∀p,a<=p->p<b->∃q,a<=q∧q<b∧Y.getD p 0=X.getD q 0:=fun p=>hs.same.mem (by omega) p
 intro p q h1 h2
 obtain⟨e1,e2⟩:=h p q h1 h2
 by_cases pa:p<a
 ·have hCa:C a:=by rcases ca with c | c;exact absurd c (by omega);exact c
  by_cases qa:q<a
  ·rw[hs.out p (by omega),hs.out q (by omega)]
   exact⟨fun hx=>e1 (fun x k1 k2 hc=>hx x k1 k2 ⟨hc,by omega⟩),fun x k1 k2 hc=>e2 x k1 k2 hc.1⟩
  ·refine⟨fun hx=>absurd ⟨hCa,by omega⟩ (hx a pa (by omega)),fun _ _ _ _=>?_⟩
   by_cases qb:q<b
   ·obtain⟨r,r1,r2,re⟩:=hm q (by omega) qb
    rw[hs.out p (by omega),re]
    exact(h p r (by omega) (by omega)).2 a pa r1 hCa
   ·rw[hs.out p (by omega),hs.out q (by omega)]
    exact e2 a pa (by omega) hCa
 ·by_cases pb:p<b
  ·by_cases qb:q<b
   ·exact⟨fun _=>hs.ord p q (by omega) h1 qb,fun x k1 k2 hc=>absurd ⟨by omega,by omega⟩ hc.2⟩
   ·have hCb:C b:=by rcases cb with c | c;exact absurd c (by omega);exact c
    refine⟨fun hx=>absurd ⟨hCb,by omega⟩ (hx b pb (by omega)),fun _ _ _ _=>?_⟩
    obtain⟨r,r1,r2,re⟩:=hm p (by omega) pb
    rw[re,hs.out q (by omega)]
    exact(h r q (by omega) h2).2 b r2 (by omega) hCb
  ·rw[hs.out p (by omega),hs.out q (by omega)]
   exact⟨fun hx=>e1 (fun x k1 k2 hc=>hx x k1 k2 ⟨hc,by omega⟩),fun x k1 k2 hc=>e2 x k1 k2 hc.1⟩
theorem Gd.mrg{cs:List Int}{C:Nat->Prop}{n a m b:Nat}{X:List Int}(h:Gd cs C n X)(hb:b<=n)(hm:C m)(hn:∀x,a<x->x<b->C x->x=m)(_ham:a<m)(hmb:m<=b):Mrg cs a m b X:=
 ⟨fun p q h1 h2 h3=>(h p q h2 (by omega)).1 (fun x k1 k2 hc=>by have:=hn x (by omega) (by omega) hc;omega),
  fun p q h1 h2 h3=>(h p q h2 (by omega)).1 (fun x k1 k2 hc=>by have:=hn x (by omega) (by omega) hc;omega),
  fun p q h1 h2 h3 h4=>(h p q (by omega) (by omega)).2 m h2 h3 hm⟩
theorem Gd.end{cs:List Int}{C:Nat->Prop}{n:Nat}{o X:List Int}(h:Gd cs C n X)(hp:X.Perm o)(hl:o.length=n)(hn:∀x,0<x->x<n->¬C x):Sorted cs 0 n o X:=
 ⟨hp,fun p hp'=>by
  have h1:X.getD p 0=0:=by simp[List.getD,List.getElem?_eq_none (show X.length<=p by rw[hp.length_eq];omega)]
  have h2:o.getD p 0=0:=by simp[List.getD,List.getElem?_eq_none (show o.length<=p by omega)]
  rw[h1,h2],fun p q h1 h2 h3=>(h p q h2 h3).1 (fun x k1 k2=>hn x (by omega) (by omega))⟩
def C20(a x:Nat):Prop:=a<=x∨20 ∣ x
theorem c20_step{a x:Nat}(h:20 ∣ a):(C20 a x∧¬(a<x∧x<a+20))↔C20 (a+20) x:=by unfold C20;omega
theorem c20_end{a n x:Nat}(h:20 ∣ a)(h2:n<a+20)(hx:x<n):(C20 a x∧¬(a<x∧x<n))↔20 ∣ x:=by unfold C20;omega
def CB(b a x:Nat):Prop:=(x<=a∧2*b ∣ x)∨(a<=x∧b ∣ x)
theorem mid_dvd{b a x:Nat}(_hb:0<b)(ha:2*b ∣ a)(hx:b ∣ x)(h1:a<x)(h2:x<a+2*b):x=a+b:=by
 obtain⟨j,rfl⟩:=ha
 obtain⟨u,rfl⟩:=hx
 have e:2*b*j=b*(2*j):=by rw[Nat.mul_comm 2 b,Nat.mul_assoc]
 rw[e] at h1 h2|-
 have l1:2*j<u:=Nat.lt_of_mul_lt_mul_left h1
 have l2:b*u<b*(2*j+2):=by rw[Nat.mul_add];omega
 have l3:u<2*j+2:=Nat.lt_of_mul_lt_mul_left l2
 have l4:u=2*j+1:=by omega
 rw[l4,Nat.mul_add];omega
theorem next_dvd{c a x:Nat}(ha:c ∣ a)(hx:c ∣ x)(h1:a<x):a+c<=x:=by
 obtain⟨j,rfl⟩:=ha
 obtain⟨u,rfl⟩:=hx
 have l1:j<u:=Nat.lt_of_mul_lt_mul_left h1
 have:c*(j+1)<=c*u:=Nat.mul_le_mul_left _ (by omega)
 rw[Nat.mul_add] at this;omega
theorem two_dvd{b x:Nat}(h:2*b ∣ x):b ∣ x:=Nat.dvd_trans ⟨2,by omega⟩ h
theorem cb_start(b x:Nat):b ∣ x↔CB b 0 x:=by
 unfold CB
 constructor
 ·intro h;exact Or.inr ⟨Nat.zero_le _,h⟩
 ·rintro (⟨h1,h2⟩ | ⟨_,h⟩)
  ·exact two_dvd h2
  ·exact h
theorem cb_mid{b a x:Nat}(hb:0<b)(ha:2*b ∣ a)(h1:a<x)(h2:x<a+2*b)(h:CB b a x):x=a+b:=by
 rcases h with ⟨h,_⟩ | ⟨_,h⟩
 ·omega
 ·exact mid_dvd hb ha h h1 h2
theorem cb_at{b a:Nat}(ha:2*b ∣ a):CB b a a:=Or.inl ⟨Nat.le_refl _,ha⟩
theorem cb_half{b a:Nat}(ha:2*b ∣ a):CB b a (a+b):=Or.inr ⟨by omega,(Nat.dvd_add_iff_right (two_dvd ha)).1 (Nat.dvd_refl _)⟩
theorem cb_next{b a:Nat}(ha:2*b ∣ a):CB b a (a+2*b):=Or.inr ⟨by omega,(Nat.dvd_add_iff_right (two_dvd ha)).1 ⟨2,by omega⟩⟩
theorem cb_step{b a x:Nat}(hb:0<b)(ha:2*b ∣ a):(CB b a x∧¬(a<x∧x<a+2*b))↔CB b (a+2*b) x:=by
 constructor
 ·rintro ⟨h | h,hn⟩
  ·exact Or.inl ⟨by omega,h.2⟩
  ·by_cases c:x=a
   ·subst c;exact Or.inl ⟨by omega,ha⟩
   ·exact Or.inr ⟨by omega,h.2⟩
 ·rintro (h | h)
  ·by_cases c:x<=a
   ·exact⟨Or.inl ⟨c,h.2⟩,by omega⟩
   ·have:=next_dvd ha h.2 (by omega)
    exact⟨Or.inr ⟨by omega,two_dvd h.2⟩,by omega⟩
  ·exact⟨Or.inr ⟨by omega,h.2⟩,by omega⟩
theorem cb_end{b a n x:Nat}(_hb:0<b)(ha:2*b ∣ a)(h2:n<a+2*b)(hx:x<n):(CB b a x∧¬(a<x∧x<n))↔2*b ∣ x:=by
 constructor
 ·rintro ⟨h | h,hn⟩
  ·exact h.2
  ·have:x=a:=by omega
   subst this;exact ha
 ·intro h
  by_cases c:x<=a
  ·exact⟨Or.inl ⟨c,h⟩,by omega⟩
  ·have:=next_dvd ha h (by omega)
   omega
theorem cb_last{b a n x:Nat}(hb:0<b)(ha:2*b ∣ a)(h2:n<=a+b)(hx:x<n):CB b a x↔2*b ∣ x:=by
 rw[<-cb_end hb ha (show n<a+2*b by omega) hx]
 constructor
 ·intro h
  refine⟨h,fun hn=>?_⟩
  have:=cb_mid hb ha hn.1 (by omega) h
  omega
 ·exact fun h=>h.1
theorem dvd_low{b n x:Nat}(hn:n<=b)(h0:0<x)(hx:x<n):¬b ∣ x:=fun h=>by
 have:=Nat.le_of_dvd h0 h
 omega
end Hf
end Go.Proofs.YtelnefngkdfcoaaGreat
/-
 Plain facts on rows of bits, and how they stand in bytes.
-/
namespace Go.Proofs.YtelnefngkdfcoaaGreat
namespace Hf
def nB(bs:List Bool):Nat->Nat
 | 0=>0
 | k+1=>nB bs k*2+(if bs.getD k false then 1 else 0)
def bitAt(c n i:Nat):Bool:=c/2^(n-1-i)%2==1
def bitsL(c n:Nat):List Bool:=(List.range n).map (bitAt c n)
theorem bitsL_length(c n:Nat):(bitsL c n).length=n:=by simp[bitsL]
theorem bitsL_getD(c n i:Nat)(h:i<n):(bitsL c n).getD i false=bitAt c n i:=by simp[bitsL,List.getD,h]
def backL(c n j:Nat):List Bool:=(List.range n).map (fun i=>if n-j<=i then bitAt c n i else false)
theorem backL_length(c n j:Nat):(backL c n j).length=n:=by simp[backL]
theorem backL_getD(c n j i:Nat)(h:i<n):(backL c n j).getD i false=if n-j<=i then bitAt c n i else false:=by simp[backL,List.getD,h]
theorem bl_ext{l m:List Bool}(h:l.length=m.length)(he:∀i,i<l.length->l.getD i false=m.getD i false):l=m:=by
 refine List.ext_getElem h (fun i h1 h2=>?_)
 have:=he i h1
 simpa [List.getD,List.getElem?_eq_getElem h1,List.getElem?_eq_getElem h2] using this
theorem bgetD_set(l:List Bool)(i j:Nat)(v:Bool)(h:i<l.length):(l.set i v).getD j false=if j=i then v else l.getD j false:=by
 simp only[List.getD,List.getElem?_set]
 by_cases e:i=j
 ·subst e;simp[h]
 ·rw[if_neg e,if_neg (fun x=>e x.symm)]
theorem backL_zero(c n:Nat):backL c n 0=List.replicate n false:=by
 refine bl_ext (by simp[backL]) (fun i hi=>?_)
 rw[backL_length] at hi
 rw[backL_getD _ _ _ _ hi,if_neg (by omega)]
 simp[List.getD,hi]
theorem backL_full(c n:Nat):backL c n n=bitsL c n:=by
 refine bl_ext (by simp[backL,bitsL]) (fun i hi=>?_)
 rw[backL_length] at hi
 rw[backL_getD _ _ _ _ hi,bitsL_getD _ _ _ hi,if_pos (by omega)]
theorem backL_set(c n j:Nat)(hj:j<n):(backL c n j).set (n-1-j) (c/2^j%2==1)=backL c n (j+1):=by
 refine bl_ext (by simp[backL]) (fun i hi=>?_)
 rw[List.length_set,backL_length] at hi
 rw[bgetD_set _ _ _ _ (by rw[backL_length];omega),backL_getD _ _ _ _ hi,backL_getD _ _ _ _ hi]
 by_cases e:i=n-1-j
 ·rw[if_pos e,if_pos (by omega)]
  unfold bitAt
  rw[show n-1-i=j from by omega]
 ·rw[if_neg e]
  by_cases h:n-j<=i
  ·rw[if_pos h,if_pos (by omega)]
  ·rw[if_neg h,if_neg (by omega)]
theorem nB_take(xs ys:List Bool)(j:Nat)(hj:j<=xs.length):nB (xs++ys) j=nB xs j:=by
 induction j with
 | zero=>rfl
 | succ j ih=>
   rw[nB,nB,ih (by omega)]
   have e:(xs++ys).getD j false=xs.getD j false:=by simp[List.getD,List.getElem?_append_left (show j<xs.length from by omega)]
   rw[e]
theorem nB_append(xs ys:List Bool)(j:Nat):nB (xs++ys) (xs.length+j)=nB xs xs.length*2^j+nB ys j:=by
 induction j with
 | zero=>simp[nB,nB_take xs ys xs.length (Nat.le_refl _)]
 | succ j ih=>
   rw[<-Nat.add_assoc,nB,ih]
   have e:(xs++ys).getD (xs.length+j) false=ys.getD j false:=by simp[List.getD,List.getElem?_append_right (show xs.length<=xs.length+j from by omega)]
   rw[e,nB,Nat.pow_succ,Nat.add_mul,Nat.mul_assoc]
   omega
theorem pad_up(i:Nat):padN (i+1)=7-i%8:=by
 unfold padN;split<;>omega
theorem packN_up(M i:Nat):packN M (i+1)=fullB (M*2^(7-i%8)) (8*(i/8+1)):=by
 unfold packN
 rw[pad_up,show i+1+(7-i%8)=8*(i/8+1) from by omega]
theorem pack_even_old(N i:Nat)(h:i%8≠0):packN (N*2) (i+1)=packN N i:=by
 rw[packN_up]
 unfold packN padN
 rw[if_neg h,show i+(8-i%8)=8*(i/8+1) from by omega,Nat.mul_assoc,show 2*2^(7-i%8)=2^(8-i%8) from by rw[show 8-i%8=(7-i%8)+1 from by omega,Nat.pow_succ];omega]
theorem fullB_cut(N q:Nat):fullB (N*256) (8*(q+1))=fullB N (8*q)++ [0]:=by
 refine il_ext (by rw[List.length_append,fullB_length,fullB_length];simp) (fun j hj=>?_)
 rw[fullB_length] at hj
 have hq:8*(q+1)/8=q+1:=by omega
 have hq2:8*q/8=q:=by omega
 rw[hq] at hj
 rw[fullB_getD _ _ _ (by omega)]
 by_cases h:j<q
 ·have e:(fullB N (8*q)++ [0]).getD j 0=(fullB N (8*q)).getD j 0:=by
   simp[List.getD,List.getElem?_append_left (show j<(fullB N (8*q)).length from by rw[fullB_length];omega)]
  rw[e,fullB_getD _ _ _ (by omega)]
  have hd:=div_up N 0 8 (8*q-8*(j+1)) (by decide)
  rw[Nat.add_zero,show 8*q-8*(j+1)+8=8*(q+1)-8*(j+1) from by omega] at hd
  rw[show(256:Nat)=2^8 from rfl,hd]
 ·obtain rfl:j=q:=by omega
  have e:(fullB N (8*j)++ [0]).getD j 0=0:=by
   simp[List.getD,fullB_length,hq2]
  rw[e,Nat.sub_self,Nat.pow_zero,Nat.div_one,Nat.mul_mod_left]
  rfl
theorem pack_even_new(N i:Nat)(h:i%8=0):packN (N*2) (i+1)=packN N i++ [0]:=by
 rw[packN_up,h,Nat.mul_assoc,show 2*2^(7-0)=256 from rfl,fullB_cut]
 unfold packN padN
 rw[if_pos h,Nat.pow_zero,Nat.mul_one,Nat.add_zero,show 8*(i/8)=i from by omega]
theorem last_byte(N k:Nat)(hk:k<8):(N*2+1)*2^(7-k)%256=N*2*2^(7-k)%256+2^(7-k):=by
 match k,hk with
 | 0,_=>omega
 | 1,_=>omega
 | 2,_=>omega
 | 3,_=>omega
 | 4,_=>omega
 | 5,_=>omega
 | 6,_=>omega
 | 7,_=>omega
theorem high_byte(N k e:Nat)(hk:k<8):(N*2+1)*2^(7-k)/2^(e+8)=N*2*2^(7-k)/2^(e+8):=by
 have e2:2^(8-k)=2*2^(7-k):=by rw[show 8-k=(7-k)+1 from by omega,Nat.pow_succ];omega
 have e1:(N*2+1)*2^(7-k)=N*2^(8-k)+2^(7-k):=by rw[Nat.add_mul,e2,Nat.mul_assoc];omega
 have e3:N*2*2^(7-k)=N*2^(8-k)+0:=by rw[e2,Nat.mul_assoc];omega
 rw[e1,e3,show e+8=(e+k)+(8-k) from by omega,div_up _ _ _ _ (by rw[e2];have:=Nat.two_pow_pos (7-k);omega),div_up _ _ _ _ (Nat.two_pow_pos _)]
theorem pack_odd(N i:Nat):packN (N*2+1) (i+1)=(packN (N*2) (i+1)).set (i/8) ((packN (N*2) (i+1)).getD (i/8) 0+((2^(7-i%8):Nat):Int)):=by
 have hq:8*(i/8+1)/8=i/8+1:=by omega
 refine il_ext (by rw[List.length_set,packN_length,packN_length]) (fun j hj=>?_)
 rw[packN_length] at hj
 have hset:∀(l:List Int) (a b:Nat) (v:Int),a<l.length->(l.set a v).getD b 0=if b=a then v else l.getD b 0:=by
  intro l a b v h
  simp only[List.getD,List.getElem?_set]
  by_cases e:a=b
  ·subst e;simp[h]
  ·rw[if_neg e,if_neg (fun x=>e x.symm)]
 rw[hset _ _ _ _ (by rw[packN_length];omega),packN_up,packN_up,fullB_getD _ _ _ (by omega),fullB_getD _ _ _ (by omega),fullB_getD _ _ _ (by omega)]
 by_cases e:j=i/8
 ·rw[if_pos e,e,Nat.sub_self,Nat.pow_zero,Nat.div_one,Nat.div_one,last_byte N (i%8) (by omega)]
  simp
 ·rw[if_neg e]
  have hh:=high_byte N (i%8) (8*(i/8+1)-8*(j+1)-8) (by omega)
  rw[show 8*(i/8+1)-8*(j+1)-8+8=8*(i/8+1)-8*(j+1) from by omega] at hh
  rw[hh]
end Hf
end Go.Proofs.YtelnefngkdfcoaaGreat
/-
 Plain facts on how deep the symbols are, by the nodes that nodes stand in.
-/
namespace Go.Proofs.YtelnefngkdfcoaaGreat
namespace Hf
def dvF(N:Nodes):Nat->Nat->Int
 | 0,_=>0
 | f+1,i=>if i+1<N.length then dvF N f (inn N i).toNat+1 else 0
def dv(N:Nodes)(i:Nat):Int:=dvF N N.length i
def Ups(N:Nodes):Prop:=∀i,i+1<N.length->(i:Int)<inn N i∧inn N i<(N.length:Int)
theorem dvF_more{N:Nodes}(h:Ups N):∀(f g i:Nat),N.length<=f+i+1->N.length<=g+i+1->dvF N f i=dvF N g i
 | 0,0,_,_,_=>rfl
 | 0,g+1,i,h1,_=>by rw[dvF,dvF,if_neg (by omega)]
 | f+1,0,i,_,h2=>by rw[dvF,dvF,if_neg (by omega)]
 | f+1,g+1,i,h1,h2=>by
   rw[dvF,dvF]
   by_cases hi:i+1<N.length
   ·rw[if_pos hi,if_pos hi]
    have hu:=h i hi
    rw[dvF_more h f g _ (by omega) (by omega)]
   ·rw[if_neg hi,if_neg hi]
theorem dv_step{N:Nodes}(h:Ups N)(i:Nat)(hi:i+1<N.length):dv N i=dv N (inn N i).toNat+1:=by
 have hu:=h i hi
 unfold dv
 obtain⟨m,hm⟩:∃m,N.length=m+1:=⟨N.length-1,by omega⟩
 conv=>lhs;rw[hm,dvF,if_pos hi]
 rw[dvF_more h m N.length _ (by omega) (by omega)]
theorem dv_last(N:Nodes)(i:Nat)(hi:¬i+1<N.length):dv N i=0:=by
 unfold dv
 cases hN:N.length with
 | zero=>rfl
 | succ m=>rw[dvF,if_neg (by omega)]
theorem dvF_rng(N:Nodes):∀(f i:Nat),0<=dvF N f i∧dvF N f i<=(f:Int)
 | 0,_=>by simp[dvF]
 | f+1,i=>by
   rw[dvF]
   have:=dvF_rng N f (inn N i).toNat
   split<;>omega
theorem dv_rng(N:Nodes)(i:Nat):0<=dv N i∧dv N i<=(N.length:Int):=dvF_rng N _ i
def belowL(N:Nodes)(j:Nat):List Int:=(List.range N.length).map (fun i=>if j<=i then dv N i else 0)
theorem belowL_length(N:Nodes)(j:Nat):(belowL N j).length=N.length:=by simp[belowL]
theorem belowL_getD(N:Nodes)(j i:Nat)(h:i<N.length):(belowL N j).getD i 0=if j<=i then dv N i else 0:=by
 simp[belowL,List.getD,h]
theorem li_ext{l m:List Int}(h:l.length=m.length)(he:∀i,i<l.length->l.getD i 0=m.getD i 0):l=m:=by
 refine List.ext_getElem h (fun i h1 h2=>?_)
 have:=he i h1
 simpa [List.getD,List.getElem?_eq_getElem h1,List.getElem?_eq_getElem h2] using this
theorem belowL_start(N:Nodes)(j:Nat)(hj:N.length<=j+1):belowL N j=List.replicate N.length 0:=by
 refine li_ext (by simp[belowL]) (fun i hi=>?_)
 rw[belowL_length] at hi
 rw[belowL_getD _ _ _ hi]
 have e:(List.replicate N.length (0:Int)).getD i 0=0:=by simp[List.getD,hi]
 rw[e]
 split
 ·exact dv_last N i (by omega)
 ·rfl
theorem belowL_set{N:Nodes}(h:Ups N)(j:Nat)(hj:j+1<N.length):(belowL N (j+1)).set j (dv N (inn N j).toNat+1)=belowL N j:=by
 refine li_ext (by simp[belowL]) (fun i hi=>?_)
 rw[List.length_set,belowL_length] at hi
 rw[sgetD_set _ _ _ _ (by rw[belowL_length];omega),belowL_getD _ _ _ hi,belowL_getD _ _ _ hi]
 by_cases e:i=j
 ·subst e;rw[if_pos rfl,if_pos (Nat.le_refl _),dv_step h i hj]
 ·rw[if_neg e]
  by_cases h2:j<=i
  ·rw[if_pos (by omega),if_pos h2]
  ·rw[if_neg (by omega),if_neg h2]
def outL(m:Nat)(sy:List Int)(B:List Int):Nat->List Int
 | 0=>List.replicate m 0
 | k+1=>(outL m sy B k).set (sy.getD k 0).toNat (B.getD k 0)
theorem outL_length(m:Nat)(sy B:List Int)(k:Nat):(outL m sy B k).length=m:=by
 induction k with
 | zero=>simp[outL]
 | succ k ih=>rw[outL,List.length_set,ih]
def depthsL(cs:List Int):List Int:=
 if (srt cs).length=1 then (List.replicate cs.length 0).set ((srt cs).getD 0 0).toNat 1
 else outL cs.length (srt cs) (belowL (treeT ((srt cs).map (key cs)) ((srt cs).length-1)).N 0) (srt cs).length
theorem tree_ups(ws:List Int)(h:∀i,0<=ws.getD i 0)(hn:2<=ws.length):Ups (treeT ws (ws.length-1)).N∧(treeT ws (ws.length-1)).N.length=2*ws.length-1:=by
 have hI:=TI.run ws h (ws.length-1) (by omega)
 have hl:=hI.len
 refine⟨fun i hi=>?_,by omega⟩
 have h1:=hI.ln
 have h2:=hI.np
 have h3:=hI.cnt
 have h4:=hI.last (by omega)
 have:=hI.par i (by omega)
 rw[hl]
 exact this
end Hf
end Go.Proofs.YtelnefngkdfcoaaGreat
/-
 Plain facts: the depths of a tree of counts fill a code, and the tree of weights of 1 and 2 is not deep.
-/
namespace Go.Proofs.YtelnefngkdfcoaaGreat
namespace Hf
def sumG(g:Nat->Int):Nat->Nat->Int
 | _,0=>0
 | i,k+1=>g i+sumG g (i+1) k
theorem sumG_snoc(g:Nat->Int):∀(k i:Nat),sumG g i (k+1)=sumG g i k+g (i+k)
 | 0,i=>by simp[sumG]
 | k+1,i=>by
   rw[sumG,sumG_snoc g k (i+1),sumG]
   rw[show i+1+k=i+(k+1) from by omega]
   omega
def freeG(n len:Nat)(g:Nat->Int)(l p:Nat):Int:=sumG g l (n-l)+sumG g p (len-p)
theorem freeG_take(g:Nat->Int){n:Nat}{N:Nodes}{l p:Nat}(ln:l<=n)(np:n<=p)(pl:p<=N.length)(hfree:0<(n-l)+(N.length-p)):
 freeG n N.length g l p=g (takeA n N l p)+freeG n N.length g (takeL n N l p) (takeP n N l p):=by
 obtain⟨_,_,_,_,_,_,h⟩:=take_one (n:=n) (N:=N) (l:=l) (p:=p) ln np pl hfree
 unfold freeG
 rcases h with ⟨h1,h2,h3,h4⟩ | ⟨h1,h2,h3,h4⟩
 ·rw[h1,h3,h4,show n-l=(n-(l+1))+1 from by omega,sumG];omega
 ·rw[h1,h3,h4,show N.length-p=(N.length-(p+1))+1 from by omega,sumG];omega
theorem step_inn{n:Nat}{C:Int}{t:Nat}{s:TS}(h:TI n C t s)(ht:t+2<=n):
 (∀i,(i<s.l∨(n<=i∧i<s.p))->inn (stepH n s).N i=inn s.N i)∧inn (stepH n s).N (oneA n s)=(s.N.length:Int)∧inn (stepH n s).N (oneB n s)=(s.N.length:Int) ∧
 (∀i,i<s.N.length->wt (stepH n s).N i=wt s.N i)∧wt (stepH n s).N s.N.length=wt s.N (oneA n s)+wt s.N (oneB n s):=by
 have hlen:=h.len
 have hln:=h.ln
 have hnp:=h.np
 have hpl:=h.pl
 have hcnt:=h.cnt
 obtain⟨a1,a2,a3,a4,a5,_,a7⟩:=take_one (n:=n) (N:=s.N) (l:=s.l) (p:=s.p) h.ln h.np (by omega) (by omega)
 obtain⟨b1,b2,b3,b4,b5,_,b7⟩:=take_one (n:=n) (N:=s.N) (l:=takeL n s.N s.l s.p) (p:=takeP n s.N s.l s.p) a2 a3 a4 (by omega)
 have hA:oneA n s=takeA n s.N s.l s.p:=rfl
 have hB:oneB n s=takeA n s.N (takeL n s.N s.l s.p) (takeP n s.N s.l s.p):=rfl
 rw[<-hA] at a1 a7
 rw[<-hB] at b1 b7
 have hN2:(stepH n s).N=setIn (setIn s.N (oneA n s) (s.N.length:Int)) (oneB n s) (s.N.length:Int)++ [(wt s.N (oneA n s)+wt s.N (oneB n s),0)]:=rfl
 generalize oneA n s=A at *
 generalize oneB n s=B at *
 generalize takeL n s.N s.l s.p=l1 at *
 generalize takeP n s.N s.l s.p=p1 at *
 have hM:(setIn (setIn s.N A (s.N.length:Int)) B (s.N.length:Int)).length=s.N.length:=by rw[setIn_length,setIn_length]
 have hin:∀i,i<s.N.length->inn (stepH n s).N i=if i=B then (s.N.length:Int) else if i=A then (s.N.length:Int) else inn s.N i:=fun i hi=>by
  rw[hN2,inn_app _ _ _ (by rw[hM];exact hi),inn_setIn _ _ _ _ (by rw[setIn_length];exact b1),inn_setIn _ _ _ _ a1]
 refine⟨fun i hi=>?_,?_,?_,fun j hj=>?_,?_⟩
 ·rw[hin i (by omega),if_neg (by omega),if_neg (by omega)]
 ·rw[hin A a1]
  by_cases e:A=B
  ·rw[if_pos e]
  ·rw[if_neg e,if_pos rfl]
 ·rw[hin B b1,if_pos rfl]
 ·rw[hN2,wt_app _ _ _ (by rw[hM];exact hj),wt_setIn,wt_setIn]
 ·rw[hN2]
  have:=wt_last (setIn (setIn s.N A (s.N.length:Int)) B (s.N.length:Int)) (wt s.N A+wt s.N B,0)
  rw[hM] at this
  exact this
theorem inn_end(ws:List Int)(h:∀i,0<=ws.getD i 0):∀(k t:Nat),t+k+1=ws.length->∀i,(i<(treeT ws t).l∨(ws.length<=i∧i<(treeT ws t).p))->inn (treeT ws (ws.length-1)).N i=inn (treeT ws t).N i
 | 0,t,ht,i,_=>by rw[show ws.length-1=t from by omega]
 | k+1,t,ht,i,hi=>by
   have hI:=TI.run ws h t (by omega)
   have hs:=step_inn hI (by omega)
   obtain⟨a1,a2,a3,a4,a5,_,a7⟩:=take_one (n:=ws.length) (N:=(treeT ws t).N) (l:=(treeT ws t).l) (p:=(treeT ws t).p) hI.ln hI.np (by rw[hI.len];exact hI.pl) (by have:=hI.len;have:=hI.cnt;have:=hI.ln;have:=hI.pl;omega)
   obtain⟨b1,b2,b3,b4,b5,_,b7⟩:=take_one (n:=ws.length) (N:=(treeT ws t).N) (l:=takeL ws.length (treeT ws t).N (treeT ws t).l (treeT ws t).p) (p:=takeP ws.length (treeT ws t).N (treeT ws t).l (treeT ws t).p) a2 a3 a4 (by have:=hI.len;have:=hI.cnt;have:=hI.ln;have:=hI.pl;omega)
   have e1:(treeT ws (t+1)).l=takeL ws.length (treeT ws t).N (takeL ws.length (treeT ws t).N (treeT ws t).l (treeT ws t).p) (takeP ws.length (treeT ws t).N (treeT ws t).l (treeT ws t).p):=rfl
   have e2:(treeT ws (t+1)).p=takeP ws.length (treeT ws t).N (takeL ws.length (treeT ws t).N (treeT ws t).l (treeT ws t).p) (takeP ws.length (treeT ws t).N (treeT ws t).l (treeT ws t).p):=rfl
   rw[inn_end ws h k (t+1) (by omega) i (by rw[e1,e2];omega)]
   exact hs.1 i hi
theorem step_two(ws:List Int)(h:∀i,0<=ws.getD i 0)(t:Nat)(ht:t+2<=ws.length)(g:Nat->Int):
 ∃A B,freeG ws.length (ws.length+t) g (treeT ws t).l (treeT ws t).p+g (ws.length+t)=g A+g B+freeG ws.length (ws.length+(t+1)) g (treeT ws (t+1)).l (treeT ws (t+1)).p ∧
  inn (treeT ws (ws.length-1)).N A=((ws.length+t:Nat):Int)∧inn (treeT ws (ws.length-1)).N B=((ws.length+t:Nat):Int)∧A<ws.length+t∧B<ws.length+t:=by
 have hI:=TI.run ws h t (by omega)
 have hs:=step_inn hI (by omega)
 have hlen:=hI.len
 obtain⟨a1,a2,a3,a4,a5,_,a7⟩:=take_one (n:=ws.length) (N:=(treeT ws t).N) (l:=(treeT ws t).l) (p:=(treeT ws t).p) hI.ln hI.np (by rw[hI.len];exact hI.pl) (by have:=hI.cnt;have:=hI.ln;have:=hI.pl;omega)
 have hf1:=freeG_take g (n:=ws.length) (N:=(treeT ws t).N) (l:=(treeT ws t).l) (p:=(treeT ws t).p) hI.ln hI.np (by rw[hI.len];exact hI.pl) (by have:=hI.cnt;have:=hI.ln;have:=hI.pl;omega)
 obtain⟨b1,b2,b3,b4,b5,_,b7⟩:=take_one (n:=ws.length) (N:=(treeT ws t).N) (l:=takeL ws.length (treeT ws t).N (treeT ws t).l (treeT ws t).p) (p:=takeP ws.length (treeT ws t).N (treeT ws t).l (treeT ws t).p) a2 a3 a4 (by have:=hI.cnt;have:=hI.ln;have:=hI.pl;omega)
 have hf2:=freeG_take g (n:=ws.length) (N:=(treeT ws t).N) (l:=takeL ws.length (treeT ws t).N (treeT ws t).l (treeT ws t).p) (p:=takeP ws.length (treeT ws t).N (treeT ws t).l (treeT ws t).p) a2 a3 a4 (by have:=hI.cnt;have:=hI.ln;have:=hI.pl;omega)
 have e1:(treeT ws (t+1)).l=takeL ws.length (treeT ws t).N (takeL ws.length (treeT ws t).N (treeT ws t).l (treeT ws t).p) (takeP ws.length (treeT ws t).N (treeT ws t).l (treeT ws t).p):=rfl
 have e2:(treeT ws (t+1)).p=takeP ws.length (treeT ws t).N (takeL ws.length (treeT ws t).N (treeT ws t).l (treeT ws t).p) (takeP ws.length (treeT ws t).N (treeT ws t).l (treeT ws t).p):=rfl
 have hA:oneA ws.length (treeT ws t)=takeA ws.length (treeT ws t).N (treeT ws t).l (treeT ws t).p:=rfl
 have hB:oneB ws.length (treeT ws t)=takeA ws.length (treeT ws t).N (takeL ws.length (treeT ws t).N (treeT ws t).l (treeT ws t).p) (takeP ws.length (treeT ws t).N (treeT ws t).l (treeT ws t).p):=rfl
 rw[<-hA] at hf1 a1 a7
 rw[<-hB] at hf2 b1 b7
 rw[<-e1,<-e2] at hf2
 rw[<-e2] at b3 b4
 rw[<-e1,<-e2] at b7
 rw[hlen] at hf1 hf2 a1 b1 b4 b7
 have hend:=inn_end ws h (ws.length-1-(t+1)) (t+1) (by omega)
 have tA:oneA ws.length (treeT ws t)<(treeT ws (t+1)).l∨(ws.length<=oneA ws.length (treeT ws t)∧oneA ws.length (treeT ws t)<(treeT ws (t+1)).p):=by
  have h1:=hI.np
  clear hs hf1 hf2 hend e1 e2 hA hB
  generalize oneA ws.length (treeT ws t)=A at *
  generalize oneB ws.length (treeT ws t)=B at *
  generalize takeL ws.length (treeT ws t).N (treeT ws t).l (treeT ws t).p=l1 at *
  generalize takeP ws.length (treeT ws t).N (treeT ws t).l (treeT ws t).p=p1 at *
  omega
 have tB:oneB ws.length (treeT ws t)<(treeT ws (t+1)).l∨(ws.length<=oneB ws.length (treeT ws t)∧oneB ws.length (treeT ws t)<(treeT ws (t+1)).p):=by
  have h1:=hI.np
  clear hs hf1 hf2 hend e1 e2 hA hB
  generalize oneA ws.length (treeT ws t)=A at *
  generalize oneB ws.length (treeT ws t)=B at *
  generalize takeL ws.length (treeT ws t).N (treeT ws t).l (treeT ws t).p=l1 at *
  generalize takeP ws.length (treeT ws t).N (treeT ws t).l (treeT ws t).p=p1 at *
  omega
 refine⟨oneA ws.length (treeT ws t),oneB ws.length (treeT ws t),?_,?_,?_,a1,b1⟩
 ·have e3:freeG ws.length (ws.length+(t+1)) g (treeT ws (t+1)).l (treeT ws (t+1)).p=freeG ws.length (ws.length+t) g (treeT ws (t+1)).l (treeT ws (t+1)).p+g (ws.length+t):=by
   unfold freeG
   rw[show ws.length+(t+1)-(treeT ws (t+1)).p=(ws.length+t-(treeT ws (t+1)).p)+1 from by omega,sumG_snoc,show(treeT ws (t+1)).p+(ws.length+t-(treeT ws (t+1)).p)=ws.length+t from by omega]
   omega
  rw[e3,hf1,hf2];omega
 ·have:=hs.2.1
  rw[hlen] at this
  rw[hend (oneA ws.length (treeT ws t)) tA]
  exact this
 ·have:=hs.2.2.1
  rw[hlen] at this
  rw[hend (oneB ws.length (treeT ws t)) tB]
  exact this
def shr(M:Nat)(N:Nodes)(i:Nat):Int:=2^(M-(dv N i).toNat)
theorem shr_child{N:Nodes}(hu:Ups N)(M i:Nat)(hi:i+1<N.length)(hM:N.length<=M):shr M N (inn N i).toNat=2*shr M N i:=by
 have h1:=dv_step hu i hi
 have h2:=dv_rng N i
 have h3:=dv_rng N (inn N i).toNat
 unfold shr
 rw[show M-(dv N (inn N i).toNat).toNat=(M-(dv N i).toNat)+1 from by omega,Int.pow_succ]
 omega
theorem kraft_free(ws:List Int)(h:∀i,0<=ws.getD i 0)(hn:2<=ws.length)(M:Nat)(hM:2*ws.length<=M):∀(k t:Nat),t+k+1=ws.length->freeG ws.length (ws.length+t) (shr M (treeT ws (ws.length-1)).N) (treeT ws t).l (treeT ws t).p=2^M:=by
 obtain⟨hu,hl⟩:=tree_ups ws h hn
 intro k
 induction k with
 | zero=>
   intro t ht
   have hI:=TI.run ws h t (by omega)
   have h1:=hI.ln
   have h2:=hI.np
   have h3:=hI.pl
   have h4:=hI.cnt
   have h5:=hI.last (by omega)
   unfold freeG
   rw[show ws.length-(treeT ws t).l=0 from by omega,show ws.length+t-(treeT ws t).p=1 from by omega]
   rw[sumG,sumG,sumG]
   unfold shr
   rw[dv_last _ _ (by rw[hl];omega)]
   simp
 | succ k ih=>
   intro t ht
   obtain⟨A,B,e,hA,hB,lA,lB⟩:=step_two ws h t (by omega) (shr M (treeT ws (ws.length-1)).N)
   rw[ih (t+1) (by omega)] at e
   have cA:=shr_child hu M A (by rw[hl];omega) (by rw[hl];omega)
   have cB:=shr_child hu M B (by rw[hl];omega) (by rw[hl];omega)
   rw[hA,Int.toNat_natCast] at cA
   rw[hB,Int.toNat_natCast] at cB
   omega
theorem kraft(ws:List Int)(h:∀i,0<=ws.getD i 0)(hn:2<=ws.length)(M:Nat)(hM:2*ws.length<=M):sumG (shr M (treeT ws (ws.length-1)).N) 0 ws.length=2^M:=by
 have:=kraft_free ws h hn M hM (ws.length-1) 0 (by omega)
 unfold freeG at this
 have e1:(treeT ws 0).l=0:=rfl
 have e2:(treeT ws 0).p=ws.length:=rfl
 rw[e1,e2,Nat.sub_zero,Nat.add_zero,Nat.sub_self,sumG] at this
 omega
end Hf
end Go.Proofs.YtelnefngkdfcoaaGreat
/-
 Plain facts: a tree of at most 512 weights of 1 and 2 is at most 15 deep.
-/
namespace Go.Proofs.YtelnefngkdfcoaaGreat
namespace Hf
theorem take_min{n:Nat}{N:Nodes}{l p:Nat}(hl:∀i j,i<=j->j<n->wt N i<=wt N j)(hp:∀i j,n<=i->i<=j->j<N.length->wt N i<=wt N j)(np:n<=p):
 ∀j,((l<=j∧j<n)∨(p<=j∧j<N.length))->wt N (takeA n N l p)<=wt N j:=by
 intro j hj
 unfold takeA
 cases hu:useLeaf n N l p with
 | true=>
   unfold useLeaf at hu
   rw[Bool.or_eq_true,beq_iff_eq,Bool.and_eq_true,decide_eq_true_eq,decide_eq_true_eq] at hu
   simp only[if_true]
   rcases hj with hj | hj
   ·exact hl l j hj.1 hj.2
   ·rcases hu with hu | hu
    ·omega
    ·have:=hp p j np hj.1 hj.2;omega
 | false=>
   unfold useLeaf at hu
   rw[Bool.or_eq_false_iff,Bool.and_eq_false_iff,decide_eq_false_iff_not,decide_eq_false_iff_not] at hu
   simp only[Bool.false_eq_true,if_false]
   rcases hj with hj | hj
   ·have:=hl l j hj.1 hj.2
    have h2:¬wt N l<=wt N p:=by
     rcases hu.2 with h | h
     ·omega
     ·exact h
    omega
   ·exact hp p j np hj.1 hj.2
structure NI (n t:Nat) (s:TS):Prop where
 leaf:∀i j,i<=j->j<n->wt s.N i<=wt s.N j
 pair:∀i j,n<=i->i<=j->j<n+t->wt s.N i<=wt s.N j
 pos:∀i,i<n+t->1<=wt s.N i
 near:∀i j,((s.l<=i∧i<n)∨(s.p<=i∧i<n+t))->((s.l<=j∧j<n)∨(s.p<=j∧j<n+t))->wt s.N i<=2*wt s.N j
 up:∀i,(i<s.l∨(n<=i∧i<s.p))->3*wt s.N i<=2*wt s.N (inn s.N i).toNat
 low:∀i j,(i<s.l∨(n<=i∧i<s.p))->((s.l<=j∧j<n)∨(s.p<=j∧j<n+t))->wt s.N i<=wt s.N j
 up2:∀i,(i<s.l∨(n<=i∧i<s.p))->((inn s.N i).toNat<s.l∨(n<=(inn s.N i).toNat∧(inn s.N i).toNat<s.p))->5*wt s.N i<=2*wt s.N (inn s.N (inn s.N i).toNat).toNat
set_option maxHeartbeats 1600000 in
theorem NI.step{n:Nat}{C:Int}{t:Nat}{s:TS}(h:TI n C t s)(hN:NI n t s)(ht:t+2<=n):NI n (t+1) (stepH n s):=by
 have hlen:=h.len
 have hln:=h.ln
 have hnp:=h.np
 have hpl:=h.pl
 have hcnt:=h.cnt
 have hlast:=h.last
 obtain⟨s1,s2,s3,s4,s5⟩:=step_inn h ht
 obtain⟨a1,a2,a3,a4,a5,_,a7⟩:=take_one (n:=n) (N:=s.N) (l:=s.l) (p:=s.p) h.ln h.np (by omega) (by omega)
 obtain⟨b1,b2,b3,b4,b5,_,b7⟩:=take_one (n:=n) (N:=s.N) (l:=takeL n s.N s.l s.p) (p:=takeP n s.N s.l s.p) a2 a3 a4 (by omega)
 have m1:=take_min (n:=n) (N:=s.N) (l:=s.l) (p:=s.p) hN.leaf (by rw[hlen];exact hN.pair) h.np
 have m2:=take_min (n:=n) (N:=s.N) (l:=takeL n s.N s.l s.p) (p:=takeP n s.N s.l s.p) hN.leaf (by rw[hlen];exact hN.pair) a3
 have hA:oneA n s=takeA n s.N s.l s.p:=rfl
 have hB:oneB n s=takeA n s.N (takeL n s.N s.l s.p) (takeP n s.N s.l s.p):=rfl
 rw[<-hA] at a1 a7 m1
 rw[<-hB] at b1 b7 m2
 have hl2:(stepH n s).l=takeL n s.N (takeL n s.N s.l s.p) (takeP n s.N s.l s.p):=rfl
 have hp2:(stepH n s).p=takeP n s.N (takeL n s.N s.l s.p) (takeP n s.N s.l s.p):=rfl
 rw[<-hl2,<-hp2] at b5 b7
 rw[<-hl2] at b2
 rw[<-hp2] at b3 b4
 rw[hlen] at a1 a4 a7 b1 b4 b7 m1 m2 s2 s3 s4 s5
 have hpar:=h.par
 have hnear:=hN.near
 clear hA hB hl2 hp2
 generalize oneA n s=A at *
 generalize oneB n s=B at *
 generalize takeL n s.N s.l s.p=l1 at *
 generalize takeP n s.N s.l s.p=p1 at *
 have fA:(s.l<=A∧A<n)∨(s.p<=A∧A<n+t):=by omega
 have fB:(s.l<=B∧B<n)∨(s.p<=B∧B<n+t):=by omega
 have hab:=m1 B fB
 have nAB:=hnear A B fA fB
 have nBA:=hnear B A fB fA
 have pA:=hN.pos A a1
 have pB:=hN.pos B b1
 refine⟨fun i j e1 e2=>?_,fun i j e1 e2 e3=>?_,fun i e1=>?_,fun i j e1 e2=>?_,fun i e1=>?_,fun i j e1 e2=>?_,fun i e1 e2=>?_⟩
 ·rw[s4 i (by omega),s4 j (by omega)];exact hN.leaf i j e1 e2
 ·by_cases c1:j<n+t
  ·rw[s4 i (by omega),s4 j c1];exact hN.pair i j e1 e2 c1
  ·obtain rfl:j=n+t:=by omega
   by_cases c2:i=n+t
   ·rw[c2];omega
   ·rw[s4 i (by omega),s5]
    have h1:=hN.pair i (n+t-1) e1 (by omega) (by omega)
    have h2:=hnear (n+t-1) A (by have:=hlast (by omega);omega) fA
    omega
 ·by_cases c1:i<n+t
  ·rw[s4 i c1];exact hN.pos i c1
  ·obtain rfl:i=n+t:=by omega
   rw[s5];omega
 ·by_cases c1:i<n+t
  ·have fi:(s.l<=i∧i<n)∨(s.p<=i∧i<n+t):=by omega
   rw[s4 i c1]
   by_cases c2:j<n+t
   ·rw[s4 j c2];exact hnear i j fi (by omega)
   ·obtain rfl:j=n+t:=by omega
    rw[s5]
    have:=hnear i A fi fA
    omega
  ·obtain rfl:i=n+t:=by omega
   rw[s5]
   by_cases c2:j<n+t
   ·rw[s4 j c2]
    have:=m2 j (by omega)
    omega
   ·obtain rfl:j=n+t:=by omega
    rw[s5];omega
 ·by_cases c1:i=A
  ·subst c1
   rw[s2,Int.toNat_natCast,s5,s4 i a1];omega
  ·by_cases c2:i=B
   ·subst c2
    rw[s3,Int.toNat_natCast,s5,s4 i b1];omega
   ·have ti:i<s.l∨(n<=i∧i<s.p):=by omega
    have hp:=hpar i ti
    rw[s1 i ti,s4 i (by omega),s4 _ (by omega)]
    exact hN.up i ti
 ·have hj:(j<n+t∧wt s.N B<=wt s.N j∧wt (stepH n s).N j=wt s.N j∧((s.l<=j∧j<n)∨(s.p<=j∧j<n+t)))∨(j=n+t∧wt (stepH n s).N j=wt s.N A+wt s.N B):=by
   by_cases c:j<n+t
   ·exact Or.inl ⟨c,m2 j (by omega),s4 j c,by omega⟩
   ·obtain rfl:j=n+t:=by omega
    exact Or.inr ⟨rfl,s5⟩
  by_cases c1:i=A
  ·rw[c1,s4 A a1];omega
  ·by_cases c2:i=B
   ·rw[c2,s4 B b1];omega
   ·have ti:i<s.l∨(n<=i∧i<s.p):=by omega
    have l1:=hN.low i A ti fA
    rw[s4 i (by omega)]
    rcases hj with ⟨_,_,e,fj⟩ | ⟨_,e⟩
    ·rw[e];exact hN.low i j ti fj
    ·rw[e];omega
 ·by_cases c1:i=A
  ·rw[c1,s2,Int.toNat_natCast] at e2;omega
  ·by_cases c2:i=B
   ·rw[c2,s3,Int.toNat_natCast] at e2;omega
   ·have ti:i<s.l∨(n<=i∧i<s.p):=by omega
    have hp:=hpar i ti
    have hu:=hN.up i ti
    have lA:=hN.low i A ti fA
    have lB:=hN.low i B ti fB
    have hu2:=hN.up2 i ti
    rw[s1 i ti] at e2
    rw[s1 i ti,s4 i (by omega)]
    obtain⟨q,hq⟩:∃q,q=(inn s.N i).toNat:=⟨_,rfl⟩
    rw[<-hq] at e2 hu hu2
    rw[<-hq]
    by_cases d1:q=A
    ·rw[d1] at hu
     rw[d1,s2,Int.toNat_natCast,s5];omega
    ·by_cases d2:q=B
     ·rw[d2] at hu
      rw[d2,s3,Int.toNat_natCast,s5];omega
     ·have tq:q<s.l∨(n<=q∧q<s.p):=by omega
      have hpq:=hpar q tq
      rw[s1 q tq,s4 _ (by omega)]
      exact hu2 tq
theorem wt_start(ws:List Int)(i:Nat):wt (startT ws).N i=ws.getD i 0:=by
 unfold wt startT
 simp only[List.getD,List.getElem?_map]
 cases ws[i]?<;>simp
theorem NI.start(ws:List Int)(hs:∀i j,i<=j->j<ws.length->ws.getD i 0<=ws.getD j 0)(h12:∀i,i<ws.length->1<=ws.getD i 0∧ws.getD i 0<=2):NI ws.length 0 (startT ws):=by
 have e1:(startT ws).l=0:=rfl
 have e2:(startT ws).p=ws.length:=rfl
 refine⟨fun i j a b=>?_,fun i j a b c=>by omega,fun i a=>?_,fun i j a b=>?_,fun i a=>by omega,fun i j a b=>by omega,fun i a=>by omega⟩
 ·rw[wt_start,wt_start];exact hs i j a b
 ·rw[wt_start];exact(h12 i (by omega)).1
 ·rw[wt_start,wt_start]
  have:=h12 i (by omega)
  have:=h12 j (by omega)
  omega
theorem NI.run(ws:List Int)(hs:∀i j,i<=j->j<ws.length->ws.getD i 0<=ws.getD j 0)(h12:∀i,i<ws.length->1<=ws.getD i 0∧ws.getD i 0<=2)(h0:∀i,0<=ws.getD i 0)(t:Nat)(ht:t+1<=ws.length):NI ws.length t (treeT ws t):=by
 induction t with
 | zero=>exact NI.start ws hs h12
 | succ t ih=>exact NI.step (TI.run ws h0 t (by omega)) (ih (by omega)) (by omega)
theorem sumW_le(N:Nodes)(c:Int):∀(k i:Nat),(∀j,i<=j->j<i+k->wt N j<=c)->sumW N i k<=c*(k:Int)
 | 0,_,_=>by simp[sumW]
 | k+1,i,h=>by
   rw[sumW]
   have h1:=h i (Nat.le_refl _) (by omega)
   have h2:=sumW_le N c k (i+1) (fun j a b=>h j (by omega) (by omega))
   have e:c*((k+1:Nat):Int)=c*(k:Int)+c:=by rw[Int.natCast_add,Int.mul_add];simp
   omega
theorem near_flat(ws:List Int)(hs:∀i j,i<=j->j<ws.length->ws.getD i 0<=ws.getD j 0)(h12:∀i,i<ws.length->1<=ws.getD i 0∧ws.getD i 0<=2)(hn:2<=ws.length)(h60:ws.length<=512)(i:Nat)(hi:i<2*ws.length-1):dv (treeT ws (ws.length-1)).N i<=15:=by
 have h0:∀i,0<=ws.getD i 0:=fun i=>by
  by_cases h:i<ws.length
  ·have:=h12 i h;omega
  ·simp[List.getD,List.getElem?_eq_none (show ws.length<=i by omega)]
 obtain⟨hu,hl⟩:=tree_ups ws h0 hn
 have hI:=TI.run ws h0 (ws.length-1) (by omega)
 have hN:=NI.run ws hs h12 h0 (ws.length-1) (by omega)
 have k1:=hI.ln
 have k2:=hI.np
 have k3:=hI.pl
 have k4:=hI.cnt
 have k5:=hI.last (by omega)
 have hsum:=hI.sum
 have hC:freeW ws.length (startT ws).N 0 ws.length<=1024:=by
  unfold freeW
  have e1:(startT ws).N.length=ws.length:=by simp[startT]
  rw[e1,Nat.sub_zero,Nat.sub_self,sumW]
  have:=sumW_le (startT ws).N 2 ws.length 0 (fun j _ b=>by rw[wt_start];exact(h12 j (by omega)).2)
  omega
 unfold freeW at hsum
 rw[hl,show ws.length-(treeT ws (ws.length-1)).l=0 from by omega,show(treeT ws (ws.length-1)).p=2*ws.length-2 from by omega,show 2*ws.length-1-(2*ws.length-2)=1 from by omega,sumW,sumW,sumW] at hsum
 have hroot:wt (treeT ws (ws.length-1)).N (2*ws.length-2)<=1024:=by unfold freeW at hC;omega
 have hup:∀i,i+1<2*ws.length-1->3*wt (treeT ws (ws.length-1)).N i<=2*wt (treeT ws (ws.length-1)).N (inn (treeT ws (ws.length-1)).N i).toNat:=fun i hi=>hN.up i (by omega)
 have hup2:∀i,i+1<2*ws.length-1->(inn (treeT ws (ws.length-1)).N i).toNat+1<2*ws.length-1->5*wt (treeT ws (ws.length-1)).N i<=2*wt (treeT ws (ws.length-1)).N (inn (treeT ws (ws.length-1)).N (inn (treeT ws (ws.length-1)).N i).toNat).toNat:=fun i hi hj=>hN.up2 i (by omega) (by omega)
 have hpos:∀i,i<2*ws.length-1->1<=wt (treeT ws (ws.length-1)).N i:=fun i hi=>hN.pos i (by omega)
 generalize (treeT ws (ws.length-1)).N=N at *
 clear hI hN hsum hC k1 k2 k3 k4 k5
 have htop:∀(k i:Nat),i<N.length->N.length<=i+k->wt N i<=1024:=by
  intro k
  induction k with
  | zero=>intro i h1 h2;omega
  | succ k ih=>
    intro i h1 h2
    by_cases c:i+1<N.length
    ·have hui:=hu i c
     have h3:=ih (inn N i).toNat (by omega) (by omega)
     have h4:=hup i (by omega)
     have h5:=hpos i (by omega)
     omega
    ·rw[show i=2*ws.length-2 from by omega];exact hroot
 have hd:∀(k i:Nat),i<N.length->2*(k:Int)<=dv N i->(5:Int)^k*wt N i<=2^k*1024:=by
  intro k
  induction k with
  | zero=>intro i h1 _;have:=htop N.length i h1 (by omega);simpa using this
  | succ k ih=>
    intro i h1 h2
    have c:i+1<N.length:=by
     by_cases c:i+1<N.length
     ·exact c
     ·rw[dv_last N i c] at h2;omega
    have hui:=hu i c
    have e:=dv_step hu i c
    have c2:(inn N i).toNat+1<N.length:=by
     by_cases c2:(inn N i).toNat+1<N.length
     ·exact c2
     ·rw[dv_last N _ c2] at e;omega
    have hui2:=hu _ c2
    have e2:=dv_step hu _ c2
    have h3:=ih (inn N (inn N i).toNat).toNat (by omega) (by omega)
    have h4:=hup2 i (by omega) (by omega)
    rw[Int.pow_succ,Int.pow_succ]
    have p5:(0:Int)<=5^k:=Int.le_of_lt (Int.pow_pos (by omega))
    have h5:=Int.mul_le_mul_of_nonneg_left h4 p5
    generalize (5:Int)^k=P at *
    generalize (2:Int)^k=Q at *
    generalize wt N (inn N (inn N i).toNat).toNat=y at *
    generalize wt N i=x at *
    have e1:P*5*x=P*(5*x):=by rw[Int.mul_assoc]
    have e2:P*(2*y)=2*(P*y):=by rw[Int.mul_left_comm]
    omega
 have h2:=hpos i hi
 by_cases c:dv N i<=15
 ·exact c
 ·exfalso
  have h1:=hd 8 i (by omega) (by omega)
  have e5:(5:Int)^8=390625:=by decide
  have e2:(2:Int)^8=256:=by decide
  rw[e5,e2] at h1
  omega
end Hf
end Go.Proofs.YtelnefngkdfcoaaGreat
/-
 Plain facts: what was encoded is decoded, whatever stands behind it.
-/
namespace Go.Proofs.YtelnefngkdfcoaaGreat
namespace Hf
theorem vb_div(b:List Int)(at' l d:Nat):vb b at' l=vb b at' (l+d)/2^d:=by
 induction d with
 | zero=>simp
 | succ d ih=>
   have:=bitV_lt b (at'+(l+d))
   rw[ih,<-Nat.add_assoc,vb,Nat.pow_succ,Nat.mul_comm (2^d) 2,<-Nat.div_div_eq_div_mul,show(vb b at' (l+d)*2+bitV b (at'+(l+d)))/2=vb b at' (l+d) from by omega]
theorem first_upB(zs:List Int)(l d:Nat):(first zs l+cnt zs l)*2^(d+1)<=first zs (l+d+1):=by
 induction d with
 | zero=>rw[first];simp
 | succ d ih=>
   rw[Nat.pow_succ,<-Nat.mul_assoc,show l+(d+1)+1=(l+d+1)+1 from by omega,first]
   exact Nat.mul_le_mul_right 2 (Nat.le_trans ih (Nat.le_add_right _ _))
theorem oneG_hit(zs b:List Int)(at' s L:Nat)(hs:s<zs.length)(hz:zs.getD s 0=(L:Int))(hL:L<16)(h0:0<L)(hr:at'+L<=8*b.length)(hv:vb b at' L=codeN zs s):
 ∀f l,0<l->l<=L->L<l+f->oneG zs b at' f l=((s:Int),(L:Int))
 | 0,l,_,h1,h2=>by omega
 | f+1,l,h,h1,h2=>by
   rw[oneG,if_pos ⟨by omega,by omega⟩]
   by_cases he:l=L
   ·subst he;rw[who_some h0 hs hz hv.symm]
   ·have hw:who zs l (vb b at' l)=none:=who_none (fun t ht htz hc=>by
     have c1:=codeN_eq zs t l htz
     have c2:=cnt_take_lt zs t l ht htz h
     have c3:=codeN_eq zs s L hz
     have c4:=first_upB zs l (L-l-1)
     rw[show L-l-1+1=L-l from by omega,show l+(L-l-1)+1=L from by omega] at c4
     have c5:=vb_div b at' l (L-l)
     rw[show l+(L-l)=L from by omega,hv] at c5
     have c6:first zs l+cnt zs l<=codeN zs s/2^(L-l):=by
      rw[Nat.le_div_iff_mul_le (Nat.two_pow_pos _)]
      omega
     omega)
    rw[hw]
    exact oneG_hit zs b at' s L hs hz hL h0 hr hv f (l+1) (by omega) (by omega) (by omega)
theorem oneF_hit(zs b:List Int)(at' s L:Nat)(hs:s<zs.length)(hz:zs.getD s 0=(L:Int))(hL:L<16)(h0:0<L)(hr:at'+L<=8*b.length)(hv:vb b at' L=codeN zs s):oneF zs b at'=((s:Int),(L:Int)):=
 oneG_hit zs b at' s L hs hz hL h0 hr hv 16 1 (by omega) (by omega) (by omega)
end Hf
end Go.Proofs.YtelnefngkdfcoaaGreat
/-
 Bits as the document packs them: bytes whose bits are a row of bits and fewer than eight zeros are the row's packing.
-/
namespace Go.Proofs.YtelnefngkdfcoaaGreat
open Hf
def numG(a:Nat)(l:List Nat):Nat:=l.foldl (fun a b=>a*2+b) a
theorem numG_at:∀(l:List Nat) (a:Nat),numG a l=a*2^l.length+numG 0 l
 | [],a=>by simp[numG]
 | b::l,a=>by
   have h1:=numG_at l (a*2+b)
   have h2:=numG_at l (0*2+b)
   show numG (a*2+b) l=a*2^(l.length+1)+numG (0*2+b) l
   rw[h1,h2,Nat.pow_succ,Nat.add_mul,Nat.zero_mul,Nat.zero_add,Nat.mul_assoc,Nat.mul_comm 2,Nat.add_assoc]
theorem numG_app(l m:List Nat)(a:Nat):numG a (l++m)=numG a l*2^m.length+numG 0 m:=by
 rw[show numG a (l++m)=numG (numG a l) m from by simp[numG,List.foldl_append],numG_at m]
theorem numG_low(x:Nat):∀n,numG 0 (low x n)=x%2^n
 | 0=>by simp[low,numG,Nat.mod_one]
 | n+1=>by
   show numG (0*2+x/2^n%2) (low x n)=_
   rw[numG_at,numG_low x n,low_length,Nat.zero_mul,Nat.zero_add,Nat.pow_succ]
   have h:=Nat.mod_mul (a:=2^n) (b:=2) (x:=x)
   rw[h,Nat.mul_comm,Nat.add_comm]
theorem numG_zeros(p:Nat):numG 0 (List.replicate p 0)=0:=by
 induction p with
 | zero=>rfl
 | succ p ih=>show numG (0*2+0) (List.replicate p 0)=0;exact ih
theorem fullB_snoc(N q:Nat)(z:Nat)(hz:z<256):fullB (N*256+z) (8*(q+1))=fullB N (8*q)++ [(z:Int)]:=by
 refine il_ext (by rw[List.length_append,fullB_length,fullB_length];simp) (fun j hj=>?_)
 rw[fullB_length] at hj
 have hq:8*(q+1)/8=q+1:=by omega
 have hq2:8*q/8=q:=by omega
 rw[hq] at hj
 rw[fullB_getD _ _ _ (by omega)]
 by_cases h:j<q
 ·have e:(fullB N (8*q)++ [(z:Int)]).getD j 0=(fullB N (8*q)).getD j 0:=by
   simp[List.getD,List.getElem?_append_left (show j<(fullB N (8*q)).length from by rw[fullB_length];omega)]
  rw[e,fullB_getD _ _ _ (by omega),show 8*(q+1)-8*(j+1)=8+(8*q-8*(j+1)) from by omega,Nat.pow_add,<-Nat.div_div_eq_div_mul,show(N*256+z)/2^8=N from by omega]
 ·obtain rfl:j=q:=by omega
  have e:(fullB N (8*j)++ [(z:Int)]).getD j 0=(z:Int):=by
   simp[List.getD,fullB_length,hq2]
  rw[e,Nat.sub_self,Nat.pow_zero,Nat.div_one]
  omega
def bytB(M:List Int):List Nat:=M.flatMap fun z=>low z.toNat 8
theorem bytB_length(M:List Int):(bytB M).length=8*M.length:=by
 induction M with
 | nil=>rfl
 | cons z M ih=>rw[show bytB (z::M)=low z.toNat 8++bytB M from rfl,List.length_append,low_length,ih,List.length_cons];omega
theorem bytB_snoc(M:List Int)(z:Int):bytB (M++ [z])=bytB M++low z.toNat 8:=by simp[bytB]
theorem full_bytes:∀(k:Nat) (M:List Int),M.length=k->(∀z∈M,0<=z∧z<=255)->M=fullB (numG 0 (bytB M)) (8*M.length)
 | 0,M,h,_=>by
   obtain rfl:=List.length_eq_zero_iff.1 h
   rfl
 | k+1,M,h,hM=>by
   obtain⟨M',z,rfl⟩:∃M' z,M=M'++ [z]:=⟨M.dropLast,M.getLast (by intro e;subst e;cases h),(List.dropLast_concat_getLast _).symm⟩
   have hl:M'.length=k:=by simpa using h
   have ih:=full_bytes k M' hl (fun y hy=>hM y (by simp[hy]))
   have hz:=hM z (by simp)
   have e:((z.toNat:Nat):Int)=z:=by omega
   rw[bytB_snoc,numG_app,low_length,numG_low,Nat.mod_eq_of_lt (show z.toNat<2^8 from by omega),List.length_append,List.length_singleton,show(2:Nat)^8=256 from rfl,fullB_snoc _ _ _ (by omega),<-ih,e]
theorem pad_of{n p k:Nat}(h:8*k=n+p)(hp:p<8):p=padN n:=by
 unfold padN
 split<;>omega
theorem pack_bytes(M:List Int)(hM:∀z∈M,0<=z∧z<=255)(B:List Nat)(p:Nat)(h:bytB M=B++List.replicate p 0)(hp:p<8):M=packN (numG 0 B) B.length:=by
 have h1:=full_bytes M.length M rfl hM
 have h2:8*M.length=B.length+p:=by rw[<-bytB_length,h];simp
 rw[h1,h,numG_app,List.length_replicate,numG_zeros,Nat.add_zero,h2,pad_of h2 hp]
 rfl
def bitN(b:Bool):Nat:=if b then 1 else 0
theorem nB_num:∀(k:Nat) (bs:List Bool),bs.length=k->nB bs bs.length=numG 0 (bs.map bitN)
 | 0,bs,h=>by
   obtain rfl:=List.length_eq_zero_iff.1 h
   rfl
 | k+1,bs,h=>by
   obtain⟨b',z,rfl⟩:∃M' z,bs=M'++ [z]:=⟨bs.dropLast,bs.getLast (by intro e;subst e;cases h),(List.dropLast_concat_getLast _).symm⟩
   have hl:b'.length=k:=by simpa using h
   have ih:=nB_num k b' hl
   rw[List.length_append,List.length_singleton,nB_append,ih,List.map_append,numG_app]
   simp[nB,numG,bitN]
theorem bits_low(c:Nat):∀n,(bitsL c n).map bitN=low c n
 | 0=>rfl
 | n+1=>by
   have ih:=bits_low c n
   refine List.ext_getElem (by rw[List.length_map,bitsL_length,low_length]) (fun i h1 h2=>?_)
   cases i with
   | zero=>simp[bitsL,bitAt,low,bitN];split<;>omega
   | succ i=>
     have e:(low c n)[i]'(by rw[low_length] at h2|-;omega)=((bitsL c n).map bitN)[i]'(by rw[List.length_map,bitsL_length];rw[low_length] at h2;omega):=by
      simp only[ih]
     simp only[low,List.getElem_cons_succ]
     rw[e]
     simp only[List.getElem_map,bitsL,List.getElem_range,bitAt]
     rw[show n+1-1-(i+1)=n-1-i from by omega]
theorem pack_bits(M:List Int)(hM:∀z∈M,0<=z∧z<=255)(bs:List Bool)(p:Nat)(h:bytB M=bs.map bitN++List.replicate p 0)(hp:p<8):M=packN (nB bs bs.length) bs.length:=by
 have:=pack_bytes M hM _ p h hp
 rwa[<-nB_num _ _ rfl,List.length_map] at this
end Go.Proofs.YtelnefngkdfcoaaGreat
/-
 What the document's reader finds at a place of the bits.
-/
namespace Go.Proofs.YtelnefngkdfcoaaGreat
open Hf
theorem low_getD(x:Nat):∀n i,i<n->(low x n).getD i 0=x/2^(n-1-i)%2
 | 0,_,h=>absurd h (Nat.not_lt_zero _)
 | n+1,0,_=>by simp[low]
 | n+1,i+1,h=>by
   rw[show(low x (n+1)).getD (i+1) 0=(low x n).getD i 0 from by simp[low,List.getD],low_getD x n i (by omega),show n+1-1-(i+1)=n-1-i from by omega]
theorem bytB_bit:∀(b:List Int) (i:Nat),i<8*b.length->(bytB b).getD i 0=bitV b i
 | [],i,h=>absurd h (by simp)
 | z::b,i,h=>by
   rw[show bytB (z::b)=low z.toNat 8++bytB b from rfl]
   by_cases h8:i<8
   ·rw[show(low z.toNat 8++bytB b).getD i 0=(low z.toNat 8).getD i 0 from by simp[List.getD,List.getElem?_append_left (show i<(low z.toNat 8).length by rw[low_length];exact h8)],low_getD _ _ _ h8]
    unfold bitV
    rw[show i/8=0 from by omega,show i%8=i from by omega,show 8-1-i=7-i from by omega]
    rfl
   ·rw[show(low z.toNat 8++bytB b).getD i 0=(bytB b).getD (i-8) 0 from by simp[List.getD,List.getElem?_append_right (show(low z.toNat 8).length<=i by rw[low_length];omega),low_length],bytB_bit b (i-8) (by rw[List.length_cons] at h;omega)]
    unfold bitV
    rw[show i/8=(i-8)/8+1 from by omega,show(i-8)%8=i%8 from by omega]
    rfl
theorem vb_num(b:List Int)(at':Nat):∀l,at'+l<=8*b.length->vb b at' l=numG 0 (((bytB b).drop at').take l)
 | 0,_=>by simp[vb,numG]
 | l+1,h=>by
   have hl:at'+l<(bytB b).length:=by rw[bytB_length];omega
   have e:((bytB b).drop at').take (l+1)=((bytB b).drop at').take l++ [(bytB b).getD (at'+l) 0]:=by
    rw[List.take_succ_eq_append_getElem (by rw[List.length_drop];omega),List.getElem_drop]
    simp[List.getD,List.getElem?_eq_getElem hl]
   rw[e,numG_app,bytB_bit _ _ (by omega),vb,vb_num b at' l (by omega)]
   simp[numG]
theorem vb_low(b:List Int)(at' c l:Nat)(r:List Nat)(h:(bytB b).drop at'=low c l++r):at'+l<=8*b.length∨l=0:=by
 by_cases h0:l=0
 ·exact .inr h0
 ·have:=congrArg List.length h
  rw[List.length_drop,bytB_length,List.length_append,low_length] at this
  exact .inl (by omega)
theorem vb_code(b:List Int)(at' c l:Nat)(r:List Nat)(h:(bytB b).drop at'=low c l++r)(hc:c<2^l):vb b at' l=c:=by
 rcases vb_low b at' c l r h with h1 | h1
 ·rw[vb_num b at' l h1,h,show(low c l++r).take l=low c l from by
   have:=List.take_left (l₁:=low c l) (l₂:=r)
   rwa[low_length] at this,numG_low,Nat.mod_eq_of_lt hc]
 ·subst h1
  have:c=0:=by simpa using hc
  rw[this];rfl
theorem one_low(zs b:List Int)(hc:checkB zs=true)(at' s L:Nat)(r:List Nat)(hs:s<zs.length)(hz:zs.getD s 0=(L:Int))(h0:0<L)(hL:L<=15)(h:(bytB b).drop at'=low (codeN zs s) L++r):oneF zs b at'=((s:Int),(L:Int)):=by
 have hlt:=codeN_lt hc s L hs hz h0 hL
 refine oneF_hit zs b at' s L hs hz (by omega) h0 ?_ (vb_code b at' _ _ r h hlt)
 rcases vb_low b at' _ _ r h with h1 | h1
 ·exact h1
 ·omega
theorem drop_low(b:List Int)(at' c l:Nat)(r:List Nat)(h:(bytB b).drop at'=low c l++r):(bytB b).drop (at'+l)=r:=by
 rw[<-List.drop_drop,h]
 have:=List.drop_left (l₁:=low c l) (l₂:=r)
 rwa[low_length] at this
end Go.Proofs.YtelnefngkdfcoaaGreat
