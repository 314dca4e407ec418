/-
 A symbol out of bits: the contract of the reader's symbol.
-/
import Derived.Test.YtelnefngkdfcoaaGreatPart17
import Derived.Test.YtelnefngkdfcoaaGreatPart08
import Derived.WalkLawsBesides
import Derived.Test.YtelnefngkdfcoaaGreatPart07
import Derived.Test.YtelnefngkdfcoaaGreatPart16
import Derived.Test.YtelnefngkdfcoaaGreatPart13
namespace Go.Proofs.YtelnefngkdfcoaaGreat
open Go.RowKit Hf
def bitLeft(s:Bst):Nat:=8*s.1.length+s.2.2
theorem bitR_some{s s':Bst}{b:Nat}(h:bitR s=some (b,s')):b<2∧bitLeft s'+1=bitLeft s:=by
 obtain⟨zs,l,n⟩:=s
 cases n with
 | zero=>
   cases zs with
   | nil=>simp[bitR] at h
   | cons z zs=>
     simp only[bitR,Option.some.injEq,Prod.mk.injEq] at h
     obtain⟨rfl,rfl⟩:=h
     refine⟨Nat.mod_lt _ (by decide),?_⟩
     simp only[bitLeft,List.length_cons];omega
 | succ n=>
   simp only[bitR,Option.some.injEq,Prod.mk.injEq] at h
   obtain⟨rfl,rfl⟩:=h
   exact⟨Nat.mod_lt _ (by decide),rfl⟩
def symG(T:Tr):Nat->Nat->Bst->Option (Int×Bst)
 | 0,_,_=>none
 | f+1,i,s=>match bitR s with
   | none=>none
   | some (b,s')=>if ent T i b=0 then none else if ent T i b<0 then some (-ent T i b-1,s') else symG T f (ent T i b).toNat s'
def symR(T:Tr)(s:Bst):Option (Int×Bst):=symG T (bitLeft s+1) 0 s
theorem ent_setE_or(T:Tr)(i b:Nat)(x:Int)(hb:b<2)(j d:Nat)(hd:d<2):ent (setE T i b x) j d=x∨ent (setE T i b x) j d=ent T j d:=by
 by_cases hi:i<T.length
 ·rw[ent_setE T i b x hi j d hb hd]
  split
  ·exact .inl rfl
  ·exact .inr rfl
 ·unfold setE
  rw[List.set_eq_of_length_le (by omega)]
  exact .inr rfl
theorem growF_low(s c:Nat)(B:Int)(hB:B<= -(s:Int)-1):∀(m at_:Nat) (T:Tr),(∀i b,b<2->B<=ent T i b)->∀i b,b<2->B<=ent (growF s c m at_ T) i b:=by
 intro m
 induction m with
 | zero=>
   intro at_ T h i b hb
   rw[growF]
   rcases ent_setE_or T at_ (c%2) (-(s:Int)-1) (Nat.mod_lt _ (by decide)) i b hb with e | e
   ·rw[e];exact hB
   ·rw[e];exact h i b hb
 | succ m ih=>
   intro at_ T h
   rw[growF]
   split
   ·refine ih _ _ (fun i b hb=>?_)
    rw[ent_app]
    rcases ent_setE_or T at_ (c/2^(m+1)%2) (T.length:Int) (Nat.mod_lt _ (by decide)) i b hb with e | e
    ·rw[e];omega
    ·rw[e];exact h i b hb
   ·exact ih _ _ h
theorem treeG_low(zs:List Int):∀k n:Nat,k<=n->∀i b,b<2-> -(n:Int)<=ent (treeG zs k) i b:=by
 intro k
 induction k with
 | zero=>
   intro n _ i b _
   have:ent (treeG zs 0) i b=0:=by
    unfold treeG ent
    cases i<;>simp
   rw[this];omega
 | succ k ih=>
   intro n hn i b hb
   rw[treeG]
   split
   ·exact growF_low k _ (-(n:Int)) (by omega) _ _ _ (ih n (by omega)) i b hb
   ·exact ih n (by omega) i b hb
theorem not_neg(s:Nat)(h:s<9223372036854775808):bits .xor .i64 (-1) (-(s:Int)-1)=(s:Int):=by
 have e:=i64_not s h
 show IntKind.i64.wrap ((BitVec.ofInt 64 (-1)^^^BitVec.ofInt 64 (-(s:Int)-1)).toNat:Int)=_
 have h1:BitVec.ofInt 64 (-1)=BitVec.allOnes 64:=by decide
 have h2:BitVec.ofInt 64 (-(s:Int)-1) = ~~~ (BitVec.ofInt 64 (s:Int)):=by
  apply BitVec.eq_of_toNat_eq
  rw[BitVec.toNat_not,ofInt_u64 s (by omega)]
  simp[BitVec.toNat_ofInt]
  omega
 rw[h1,BitVec.allOnes_xor,h2,BitVec.not_not,ofInt_u64 s (by omega)]
 simp[IntKind.wrap,IntKind.bits,IntKind.signed]
 omega
structure Th (g:Nat) (w:World) (v:Value) (T:Tr):Prop where
 ex:∃gt cap,v= .slice (some ⟨gt,0,none⟩) T.length cap∧gt≠g∧T.length<=cap∧∀i b,i<T.length->b<2->w.cell? ⟨gt,i*2+b,none⟩=some (.int .i64 (ent T i b))
theorem Fg.cell{g:Nat}{w w':World}(h:Fg g w w')(p:Addr)(hp:p.block≠g):w'.cell? p=w.cell? p:=World.cell?_of_block (h.same _ hp)
theorem Th.keep{g:Nat}{w w':World}{v:Value}{T:Tr}(h:Th g w v T)(hf:Fg g w w'):Th g w' v T:=by
 obtain⟨gt,cap,h1,h2,h3,h4⟩:=h.ex
 exact⟨gt,cap,h1,h2,h3,fun i b hi hb=>(hf.cell ⟨gt,i*2+b,none⟩ h2).trans (h4 i b hi hb)⟩
structure Tkk (T:Tr):Prop where
 pos:0<T.length
 low:∀i b,b<2-> -100000<=ent T i b
 up:∀i b,i<T.length->b<2->0<ent T i b->(ent T i b).toNat<T.length
theorem treeG_ok{zs:List Int}(hc:checkB zs=true):Tkk (treeG zs zs.length):=by
 have hok:lenOk zs=true:=by unfold checkB at hc;rw[Bool.and_eq_true] at hc;exact hc.1
 have hlen:=(lenOk_all hok).1
 obtain⟨P,h,_⟩:=treeG_tv hc zs.length (Nat.le_refl _)
 refine⟨h.pos,fun i b hb=>?_,fun i b hi hb hx=>(h.up i b hi hb hx).1⟩
 have:=treeG_low zs zs.length zs.length (Nat.le_refl _) i b hb
 omega
def memL(g:Nat)(w:World):Nat:=
 match w.cell? ⟨g,0,none⟩,w.cell? ⟨g,2,none⟩ with
 | some (.slice _ l _),some (.int _ n)=>8*l+n.toNat
 | _,_=>0
theorem Rk.memL{w0 w:World}{g:Nat}{s:Bst}(h:Rk w0 w g s):memL g w=bitLeft s:=by
 obtain⟨_,_,a,cap,hR⟩:=h
 have c0:=Joins.cell_of_block hR.blk 0
 have c2:=Joins.cell_of_block hR.blk 2
 simp only[List.getElem?_toArray,List.getElem?_cons_zero,List.getElem?_cons_succ] at c0 c2
 unfold Go.Proofs.YtelnefngkdfcoaaGreat.memL
 rw[c0,c2]
 simp[bitLeft]
def SymPost(w0 w:World)(g:Nat)(r:Option (Int×Bst))(e:Ending)(w':World):Prop:=
 match r with
 | none=>e= .panicked faultC∧Fg g w w'∧Below w0.heap.size w0 w'
 | some (x,s')=>e= .returned (.int .i64 x)∧Rk w0 w' g s'∧Fg g w w'
set_option maxHeartbeats 6400000 in
set_option maxRecDepth 100000 in
theorem rsym_word(w0 w:World)(g:Nat)(s:Bst)(v:Value)(T:Tr)(h:Rk w0 w g s)(hT:Th g w v T)(hok:Tkk T):
 Calls Tryz.prog 100 #[.pointer (some ⟨g,0,none⟩),v] w (SymPost w0 w g (symR T s)):=by
 obtain⟨gt,cap,rfl,hgt,hcap,hcl⟩:=hT.ex
 have HOK:=hid hok
 have HCL:=hid hcl
 obtain⟨R,hR⟩:∃R,R=symR T s:=⟨_,rfl⟩
 rw[<-hR]
 have HST:Hid (∃s':Bst,Rk w0 w g s'∧Fg g w w∧symG T (bitLeft s'+1) 0 s'=R):=⟨s,h,Fg.refl g w,by rw[hR];rfl⟩
 obtain⟨tl,htl⟩:∃n,n=T.length:=⟨_,rfl⟩
 have HTL:=hid htl
 have htp:0<tl:=by rw[htl];exact hok.pos
 rw[<-htl] at hcap|-
 clear h hT hok hcl hR htl
 go_enter Tryz.func100,Tryz.ntmps100
 go_wp2_with fail
 go_loopw [5] (fun x wr=>∃x':Int,x= .int .i64 x'∧Hid (∃s':Bst,Rk w0 wr g s'∧Fg g w wr∧((0<=x'∧x'.toNat<tl∧symG T (bitLeft s'+1) x'.toNat s'=R)∨(x'<0∧ -100000<=x'∧R=some (-x'-1,s'))))) (fun _ wr=>memL g wr)
 case atStart=>
  obtain⟨s',h1,h2,h3⟩:=HST.out
  exact⟨0,rfl,s',h1,h2,.inl ⟨Int.le_refl _,htp,h3⟩⟩
 case round=>
  clear HST
  obtain⟨x',rfl,HX⟩:=hrel
  obtain⟨s',hRb,hFg,hx⟩:=HX.out
  clear HX
  rcases hx with ⟨hx0,hxl,hsy⟩ | ⟨hx0,hx1,hRR⟩
  ·obtain⟨at_,rfl⟩:=Int.eq_ofNat_of_zero_le hx0
   rw[Int.toNat_natCast] at hxl hsy
   have hati:(at_:Int)<(tl:Int):=by omega
   have HBW:Hid (Calls Tryz.prog 101 #[.pointer (some ⟨g,0,none⟩)] wr.drew (BitPost w0 wr.drew g s')):=by
    refine bit_word w0 wr.drew g s' ?_
    obtain⟨q1,q2,a,c,q3⟩:=hRb
    exact⟨q1,q2,a,c,q3.drew⟩
   have HML:=hid hRb.memL
   have HFG:=hid hFg.drew
   have hS0:∀b,b<2->wr.drew.cell? ⟨gt,at_*2+b,none⟩=some (.int .i64 (ent T at_ b)):=fun b hb=>(hFg.drew.cell ⟨gt,at_*2+b,none⟩ hgt).trans (HCL.out at_ b (by rw[<-HTL.out];exact hxl) hb)
   have HS0:=hid hS0
   have HBL:Hid (Below w0.heap.size w0 wr.drew):=by obtain⟨_,_,a,c,q3⟩:=hRb;exact q3.drew.bel
   have HSY:=hid hsy
   clear hRb hFg hS0 hsy hx0
   go_wp2_with fail
   refine wp_region_held_drew (S:=fun W=>∀b,b<2->W.cell? ⟨gt,at_*2+b,none⟩=some (.int .i64 (ent T at_ b))) (by kernel_rfl) HS0.out (fun hS=>?_)
   clear HS0
   have HWD:Hid (wr.drew=wr.drew):=rfl
   generalize hWD:wr.drew=wD at *
   clear hWD HWD
   refine Ord.take (i:=0) (d:=8) (v:=?v0) rfl rfl (by as_aux_lemma=>kernel_rfl) (by as_aux_lemma=>kernel_rfl) (by as_aux_lemma=>kernel_rfl) (fun _ _ _ h=>h) (by rfl) ?h0 (by assumption) ?_
   case h0=>intro w hSw;go_simp;try with_reducible rfl
   simp only[List.setIfInBounds_toArray,List.set_cons_zero,List.set_cons_succ]
   refine Ord.take (i:=1) (d:=9) (v:=?v1) rfl rfl (by as_aux_lemma=>kernel_rfl) (by as_aux_lemma=>kernel_rfl) (by as_aux_lemma=>kernel_rfl) (fun _ _ _ h=>h) (by rfl) ?h1 (by assumption) ?_
   case h1=>intro w hSw;go_simp;try with_reducible rfl
   simp only[List.setIfInBounds_toArray,List.set_cons_zero,List.set_cons_succ]
   refine Ord.take (i:=2) (d:=10) (v:=?v2) rfl rfl (by as_aux_lemma=>kernel_rfl) (by as_aux_lemma=>kernel_rfl) (by as_aux_lemma=>kernel_rfl) (fun _ _ _ h=>h) (by rfl) ?h2 (by assumption) ?_
   case h2=>intro w hSw;go_simp;try with_reducible rfl
   simp only[List.setIfInBounds_toArray,List.set_cons_zero,List.set_cons_succ]
   refine Ord.take (i:=4) (d:=12) (v:=?v4) rfl rfl (by as_aux_lemma=>kernel_rfl) (by as_aux_lemma=>kernel_rfl) (by as_aux_lemma=>kernel_rfl) (fun _ _ _ h=>h) (by rfl) ?h4 (by assumption) ?_
   case h4=>intro w hSw;go_simp;try with_reducible rfl
   simp only[List.setIfInBounds_toArray,List.set_cons_zero,List.set_cons_succ]
   refine wpAnyH_ready (rs:= [3]) (by as_aux_lemma=>kernel_rfl) (by simp) (AllReadyH.cons rfl (fun K hK=>?_) AllReadyH.nil)
   go_simp
   refine HBW.out.mono ?_
   intro e w1 he
   unfold BitPost at he
   cases hb:bitR s' with
   | none=>
     rw[hb] at he
     obtain⟨rfl,hw⟩:=he
     obtain rfl:=hw.symm
     have hRn:R=none:=by rw[<-HSY.out,symG,hb]
     subst hRn
     exact⟨rfl,rfl,HFG.out,HBL.out⟩
   | some bs=>
     obtain⟨b,s2⟩:=bs
     rw[hb] at he
     obtain⟨rfl,hR1,hF1⟩:=he
     obtain⟨hb2,hbl⟩:=bitR_some hb
     have hbi:(b:Int)<2:=by omega
     have hS1:∀b,b<2->w1.cell? ⟨gt,at_*2+b,none⟩=some (.int .i64 (ent T at_ b)):=fun b hb=>(hF1.cell ⟨gt,at_*2+b,none⟩ hgt).trans (hS b hb)
     have hsy2:R=if ent T at_ b=0 then none else if ent T at_ b<0 then some (-ent T at_ b-1,s2) else symG T (bitLeft s') (ent T at_ b).toNat s2:=by rw[<-HSY.out,symG,hb]
     have HSY2:=hid hsy2
     have HR1:=hid hR1
     have HF1:=hid (HFG.out.trans hF1)
     have HM1:=hid hR1.memL
     have HBL2:=hid hbl
     refine hK.out _ _ hS1 (fun _=>?_)
     clear hK K hS hsy2 hR1 hF1 HSY hb hbl HBW
     refine Ord.take (i:=5) (d:=13) (v:=?v5) rfl rfl (by as_aux_lemma=>kernel_rfl) (by as_aux_lemma=>kernel_rfl) (by as_aux_lemma=>kernel_rfl) (fun _ _ _ h=>h) (by rfl) ?h5 (by assumption) ?_
     case h5=>intro w hSw;go_simp;try with_reducible rfl
     simp only[List.setIfInBounds_toArray,List.set_cons_zero,List.set_cons_succ]
     refine Ord.take (i:=6) (d:=14) (v:= .int .i64 (ent T at_ b)) rfl rfl (by as_aux_lemma=>kernel_rfl) (by as_aux_lemma=>kernel_rfl) (by as_aux_lemma=>kernel_rfl) (fun _ _ _ h=>h) (by rfl) ?h6 (by assumption) ?_
     case h6=>intro w hSw;have e:=hSw b hb2;go_simp;try with_reducible rfl
     simp only[List.setIfInBounds_toArray,List.set_cons_zero,List.set_cons_succ]
     refine Ord.take (i:=7) (d:=5) (v:=?v7) rfl rfl (by as_aux_lemma=>kernel_rfl) (by as_aux_lemma=>kernel_rfl) (by as_aux_lemma=>kernel_rfl) (fun _ _ _ h=>h) (by rfl) ?h7 (by assumption) ?_
     case h7=>intro w hSw;go_simp;try with_reducible rfl
     simp only[List.setIfInBounds_toArray,List.set_cons_zero,List.set_cons_succ]
     refine wpAnyH_done (by as_aux_lemma=>kernel_rfl) ?_ _
     have hlow:=HOK.out.low at_ b hb2
     have hup:=HOK.out.up at_ b (by rw[<-HTL.out];exact hxl) hb2
     rw[<-HTL.out] at hup
     by_cases he0:ent T at_ b=0
     ·rw[he0,if_pos rfl] at HSY2
      have hRn:=HSY2.out
      subst hRn
      rw[he0]
      clear hup hlow hS1
      go_wp2_with fail
      refine(need_no w1).mono ?_
      rintro _ w2 ⟨rfl,rfl⟩
      obtain⟨_,_,_,_,q3⟩:=HR1.out
      exact⟨rfl,rfl,HF1.out,q3.bel⟩
     ·rw[if_neg he0] at HSY2
      have HNX:Hid ((0<=ent T at_ b∧(ent T at_ b).toNat<tl∧symG T (bitLeft s2+1) (ent T at_ b).toNat s2=R)∨(ent T at_ b<0∧ -100000<=ent T at_ b∧R=some (-ent T at_ b-1,s2))):=by
       by_cases hn:ent T at_ b<0
       ·exact .inr ⟨hn,hlow,by rw[HSY2.out,if_pos hn]⟩
       ·exact .inl ⟨by omega,hup (by omega),by rw[HSY2.out,if_neg hn,HBL2.out]⟩
      clear hup hS1 HSY2 hlow
      generalize ent T at_ b=x2 at *
      have hbne:(x2 != 0)=true:=bne_iff_ne.2 he0
      go_wp2_with fail
      refine(need_yes w1).mono ?_
      rintro _ w2 ⟨rfl,hw2⟩
      obtain rfl:=hw2.symm
      clear hw2
      go_wp2_with fail
      refine⟨⟨x2,rfl,s2,HR1.out,HF1.out,HNX.out⟩,?_⟩
      have h1:=HM1.out
      have h2:=HML.out
      have h3:=HBL2.out
      show memL g w1<memL g wr
      omega
  ·obtain⟨y,hy⟩:∃y:Nat,x'= -(y:Int)-1:=⟨(-x'-1).toNat,by omega⟩
   subst hy
   have hnn:=not_neg y (by omega)
   have HRR:=hid hRR
   have HQ:=hid hRb
   have HF:=hid hFg
   clear hRR hRb hFg
   go_wp2_with fail
   go_ret
   have hR:=HRR.out
   subst hR
   refine⟨?_,HQ.out,HF.out⟩
   rw[show -(-(y:Int)-1)-1=(y:Int) from by omega]
   rfl
end Go.Proofs.YtelnefngkdfcoaaGreat
/-
 The contracts of codec's symbol and distance.
-/
namespace Go.Proofs.YtelnefngkdfcoaaGreat
open Go.RowKit Lz
def symZ(t:Tkz):Int:=if t.1=0 then t.2.2 else 252+t.2.1
theorem symbol_word(t:Tkz)(w:World)(h:t.1=0∨(0<=t.2.1∧t.2.1<=258))(h8:0<=t.2.2∧t.2.2<=255):Calls Tryz.prog 56 #[.agg (zC t)] w fun e w'=>e= .returned (.int .i64 (symZ t))∧Below w.heap.size w w':=by
 obtain⟨d,n,x⟩:=t
 have hx0:=h8.1
 have hx1:=h8.2
 clear h8
 simp only at hx0 hx1
 unfold zC
 by_cases hl:d=0
 ·subst hl
  have HK:Hid (symZ (0,n,x)=x):=rfl
  go_enter Tryz.func56,Tryz.ntmps56
  go_wp2
  go_ret
  exact⟨by rw[HK.out];rfl,bel_allocZ _ _⟩
 ·have HK:Hid (symZ (d,n,x)=252+n):=by show symZ (d,n,x)=252+n;unfold symZ;rw[if_neg hl]
  have hd:(d==0)=false:=by rw[beq_eq_false_iff_ne];exact hl
  have h1:0<=n∧n<=258:=by
   rcases h with h | h
   ·exact absurd h hl
   ·exact h
  have h2:=h1.1
  have h3:=h1.2
  clear h h1
  go_enter Tryz.func56,Tryz.ntmps56
  go_wp2
  go_ret
  exact⟨by rw[HK.out];rfl,bel_allocZ _ _⟩
def blN(x:Nat):Int:=if x=0 then 0 else (Nat.log2 x:Int)+1
theorem bl_high(x:Nat)(h:256<=x):blN x=8+blN (x/256):=by
 unfold blN
 rw[if_neg (by omega),if_neg (by omega)]
 have e:Nat.log2 x=Nat.log2 (x/256)+8:=by
  have h1:∀y,2<=y->Nat.log2 y=Nat.log2 (y/2)+1:=fun y hy=>by rw[Nat.log2_def,if_pos hy]
  rw[h1 x (by omega),h1 (x/2) (by omega),h1 (x/2/2) (by omega),h1 (x/2/2/2) (by omega),h1 (x/2/2/2/2) (by omega),h1 (x/2/2/2/2/2) (by omega),h1 (x/2/2/2/2/2/2) (by omega),h1 (x/2/2/2/2/2/2/2) (by omega)]
  rw[show x/2/2/2/2/2/2/2/2=x/256 from by omega]
 omega
set_option maxRecDepth 100000 in
theorem len64_low(x:Nat)(w:World)(h:x<256):Calls Tryz.prog 110 #[.int .u64 (x:Int)] w fun e w'=>e= .returned (.int .i64 (blN x))∧w'=w:=by
 have h1:¬(4294967296:Int)<=(x:Int):=by omega
 have h2:¬(65536:Int)<=(x:Int):=by omega
 have h3:¬(256:Int)<=(x:Int):=by omega
 go_enter Tryz.func110,Tryz.ntmps110
 go_wp2
 go_ret
 refine⟨congrArg (fun z=>Ending.returned (Value.int .i64 z)) ?_,rfl⟩
 clear h1 h2
 revert x
 decide +kernel
set_option maxRecDepth 100000 in
theorem len64_high(z:Int)(y:Nat)(w:World)(h3:256<=z)(h:z<65536)(hy:z/256=(y:Int)):Calls Tryz.prog 110 #[.int .u64 z] w fun e w'=>e= .returned (.int .i64 (8+blN y))∧w'=w:=by
 have h1:¬(4294967296:Int)<=z:=by omega
 have h2:¬(65536:Int)<=z:=by omega
 have hy2:y<256:=by omega
 have hw:IntKind.u8.wrap (z/256)=(y:Int):=by rw[hy,IntKind.wrap_u8];omega
 clear h
 go_enter Tryz.func110,Tryz.ntmps110
 go_wp2
 go_ret
 refine⟨congrArg (fun z=>Ending.returned (Value.int .i64 z)) ?_,rfl⟩
 clear hw hy h1 h2 h3 z
 revert y
 decide +kernel
theorem len_word(x:Nat)(w:World)(h:x<65536):Calls Tryz.prog 87 #[.int .u64 (x:Int)] w fun e w'=>e= .returned (.int .i64 (blN x))∧w'=w:=by
 have HC:Hid (Calls Tryz.prog 110 #[.int .u64 (x:Int)] w fun e w'=>e= .returned (.int .i64 (blN x))∧w'=w):=by
  by_cases c:x<256
  ·exact len64_low x w c
  ·have:=len64_high (x:Int) (x/256) w (by omega) (by omega) (by omega)
   rw[<-bl_high x (by omega)] at this
   exact this
 clear h
 generalize blN x=z at *
 go_enter Tryz.func87,Tryz.ntmps87
 go_wp2_with fail
 refine HC.out.mono ?_
 rintro _ w1 ⟨rfl,hw⟩
 obtain rfl:=hw.symm
 clear hw
 go_wp2
 go_ret
 exact⟨rfl,rfl⟩
def dstZ(d:Int):Int:=(Nat.log2 d.toNat:Int)
theorem dst_rng{d:Int}(h1:1<=d)(h2:d<=4096):0<=dstZ d∧dstZ d<=12:=by
 unfold dstZ
 refine⟨by omega,?_⟩
 have:Nat.log2 d.toNat<13:=(Nat.log2_lt (by omega)).2 (by omega)
 omega
theorem distance_word(d:Int)(w:World)(h1:1<=d)(h2:d<=4096):Calls Tryz.prog 57 #[.int .i64 d] w fun e w'=>e= .returned (.int .i64 (dstZ d))∧w'=w:=by
 obtain⟨x,rfl⟩:=Int.eq_ofNat_of_zero_le (show 0<=d by omega)
 have hr:=dst_rng h1 h2
 have e:blN x=dstZ (x:Int)+1:=by unfold blN dstZ;rw[if_neg (by omega),Int.toNat_natCast]
 have HC:=hid (len_word x w (by omega))
 rw[e] at HC
 generalize dstZ (x:Int)=z at *
 have hz0:=hr.1
 have hz1:=hr.2
 clear hr e
 go_enter Tryz.func57,Tryz.ntmps57
 go_wp2_with fail
 refine HC.out.mono ?_
 rintro _ w1 ⟨rfl,hw⟩
 obtain rfl:=hw.symm
 clear hw HC
 go_wp2
 go_ret
 refine⟨congrArg (fun z=>Ending.returned (Value.int .i64 z)) ?_,rfl⟩
 omega
end Go.Proofs.YtelnefngkdfcoaaGreat
/-
 How often each symbol comes: the contract of codec's counts.
-/
namespace Go.Proofs.YtelnefngkdfcoaaGreat
open Go.RowKit Lz Hf
def upL(l:List Nat)(i:Nat):List Nat:=l.set i (l.getD i 0+1)
theorem upL_length(l:List Nat)(i:Nat):(upL l i).length=l.length:=by simp[upL]
theorem upL_le(l:List Nat)(i k:Nat)(h:∀j,l.getD j 0<=k)(j:Nat):(upL l i).getD j 0<=k+1:=by
 unfold upL
 have h1:=h j
 have h2:=h i
 simp only[List.getD,List.getElem?_set] at h1 h2|-
 split
 ·split
  ·simp only[Option.getD_some];omega
  ·simp
 ·omega
def kindsN(l:List Tkz):Nat->List Nat
 | 0=>List.replicate 511 0
 | k+1=>upL (kindsN l k) (symZ (l.getD k tk0)).toNat
def distsN(l:List Tkz):Nat->List Nat
 | 0=>List.replicate 13 0
 | k+1=>if 0<(l.getD k tk0).1 then upL (distsN l k) (dstZ (l.getD k tk0).1).toNat else distsN l k
theorem kinds_length(l:List Tkz):∀k,(kindsN l k).length=511
 | 0=>by rw[kindsN,List.length_replicate]
 | k+1=>by rw[kindsN,upL_length,kinds_length l k]
theorem dists_length(l:List Tkz):∀k,(distsN l k).length=13
 | 0=>by rw[distsN,List.length_replicate]
 | k+1=>by
   rw[distsN]
   split
   ·rw[upL_length,dists_length l k]
   ·exact dists_length l k
theorem rep_zero(n j:Nat):(List.replicate n (0:Nat)).getD j 0=0:=by
 simp only[List.getD,List.getElem?_replicate]
 split<;>simp
theorem kinds_le(l:List Tkz):∀k j,(kindsN l k).getD j 0<=k
 | 0,j=>by rw[kindsN,rep_zero];omega
 | k+1,j=>upL_le _ _ _ (kinds_le l k) j
theorem dists_le(l:List Tkz):∀k j,(distsN l k).getD j 0<=k
 | 0,j=>by rw[distsN,rep_zero];omega
 | k+1,j=>by
   rw[distsN]
   split
   ·exact upL_le _ _ _ (dists_le l k) j
   ·have:=dists_le l k j;omega
theorem Tryz.zero47:∀w,(zeroValue 47).run Tryz.prog w= .ok (.agg (arr .i64 (List.replicate 511 0))) w:=(zero_of_info (t:=47) (n:=511) (by kernel_rfl)).1
theorem Tryz.size47:(Tryz.prog.info? 47).map (·.size)=some 511:=by kernel_rfl
theorem Tryz.zero48:∀w,(zeroValue 48).run Tryz.prog w= .ok (.agg (arr .i64 (List.replicate 13 0))) w:=(zero_of_info (t:=48) (n:=13) (by kernel_rfl)).1
theorem Tryz.size48:(Tryz.prog.info? 48).map (·.size)=some 13:=by kernel_rfl
structure MemK (w wr:World) (K D:List Nat):Prop where
 ks:wr.heap[w.heap.size]?=some (.cells (arr .i64 K) 47 (0,0))
 ds:wr.heap[w.heap.size+1]?=some (.cells (arr .i64 D) 48 (0,0))
 bel:Below w.heap.size w wr
theorem MemK.later{w wr w':World}{K D:List Nat}(h:MemK w wr K D)(hb:Below wr.heap.size wr w'):MemK w w' K D:=by
 have hlt:∀ {g:Nat} {o:Obj},wr.heap[g]?=some o->g<wr.heap.size:=fun {g o} e=>by
  by_cases c:g<wr.heap.size
  ·exact c
  ·rw[Array.getElem?_eq_none (by omega)] at e;cases e
 exact⟨(hb.block _ (hlt h.ks)).trans h.ks,(hb.block _ (hlt h.ds)).trans h.ds,Bn h.bel hb⟩
theorem MemK.putK{w wr:World}{K D:List Nat}(h:MemK w wr K D)(i v:Nat):MemK w (wr.setCell ⟨w.heap.size,i,none⟩ (.int .i64 (v:Int))) (K.set i v) D:=by
 refine⟨?_,?_,h.bel.setCell (Nat.le_refl _) _⟩
 ·rw[Joins.block_setCell h.ks,arr_set]
 ·rw[heap_put_other h.ks (by omega)];exact h.ds
theorem MemK.putD{w wr:World}{K D:List Nat}(h:MemK w wr K D)(i v:Nat):MemK w (wr.setCell ⟨w.heap.size+1,i,none⟩ (.int .i64 (v:Int))) K (D.set i v):=by
 refine⟨?_,?_,h.bel.setCell (by simp) _⟩
 ·rw[heap_put_other h.ds (by omega)];exact h.ks
 ·rw[Joins.block_setCell h.ds,arr_set]
theorem MemK.drew{w wr:World}{K D:List Nat}(h:MemK w wr K D):MemK w wr.drew K D:=⟨h.ks,h.ds,h.bel.drew⟩
theorem MemK.row{w wr:World}{K D K' D':List Nat}(h:MemK w wr K D)(hk:K'=K)(hd:D'=D):MemK w wr K' D':=by subst hk hd;exact h
theorem run_load_op{P:Program}{ρ:Operand->Value}{o:Oper}{t:TypeId}{x:Operand}{p v:Value}{w:World}(ho:o.op= .load t x)(hx:ρ x=p)(h:(Instr.loadAt t p).run P w= .ok v w):(execOp ρ o).run P w= .ok (.value v) w:=by
 unfold execOp
 rw[ho]
 simp[hx,h,Result.andThen]
theorem run_loadAt_row{P:Program}(w:World)(g:Nat)(t ty:TypeId)(cs:Array Value)(fr:Nat×Nat)(d:TypeDesc)(hg:w.heap[g]?=some (.cells cs t fr))(hu:P.underlying ty=some d)(hd:(match d with | .struct _ | .array _ _=>true | _=>false)=true)(hi:(P.info? ty).map (·.size)=some cs.size):
 (Instr.loadAt ty (.pointer (some ⟨g,0,none⟩))).run P w= .ok (.agg cs) w:=by
 simp[Instr.loadAt,Instr.sureAddr,run_loadVar_row w g t ty cs fr d hg hu hd hi]
theorem results_two_rows{P:Program}{fn:Func}{p q:Tmp}{ty ty2:TypeId}(h:fn.results= #[.cell p ty,.cell q ty2])(tmps:Array Value)(w:World)(g g2:Nat)(v v2:Value)(hp:tmps.getD p undef= .pointer (some ⟨g,0,none⟩))(hq:tmps.getD q undef= .pointer (some ⟨g2,0,none⟩))
 (hl:(loadVar ty ⟨g,0,none⟩).run P w= .ok v w) (hl2:(loadVar ty2 ⟨g2,0,none⟩).run P w= .ok v2 w):(results fn tmps).run P w= .ok (.tuple #[v,v2]) w:=by
 have hp':tmps[p]?.getD undef= .pointer (some ⟨g,0,none⟩):=by simpa using hp
 have hq':tmps[q]?.getD undef= .pointer (some ⟨g2,0,none⟩):=by simpa using hq
 simp[results,h,hp',hq',asAddr,hl,hl2]
theorem MemK.same1{w wr:World}{K D:List Nat}(h:MemK w wr K D):MemK w (wr.setRow w.heap.size (arr .i64 K)) K D:=
 ⟨setRow_heap _ _ _ _ _ _ h.ks,(setRow_other _ _ _ _ (by omega)).trans h.ds,below_setRow h.bel (Nat.le_refl _) _⟩
theorem MemK.same2{w wr:World}{K D:List Nat}(h:MemK w wr K D):MemK w (wr.setRow (w.heap.size+1) (arr .i64 D)) K D:=
 ⟨(setRow_other _ _ _ _ (by omega)).trans h.ks,setRow_heap _ _ _ _ _ _ h.ds,below_setRow h.bel (by omega) _⟩
theorem chk_two{t:Tkz}(h:chkZ t=0)(h8:0<=t.2.2∧t.2.2<=255):(t.1=0∧0<=symZ t∧symZ t<511)∨(1<=t.1∧t.1<=4096∧0<=t.2.1∧t.2.1<=258∧0<=symZ t∧symZ t<511):=by
 have hk:kindZ t≠0:=fun e=>by unfold chkZ at h;rw[if_pos e] at h;omega
 have hf:=flt_kind t
 unfold symZ
 rcases kind_three t with k | k | k
 ·exact absurd k hk
 ·have:=hf.1 k
  left;rw[if_pos (by omega)];omega
 ·have:=hf.2 k
  right;rw[if_neg (by omega)];omega
set_option maxHeartbeats 3200000 in
set_option maxRecDepth 100000 in
theorem counts_word(a:Option Addr)(cap:Nat)(l:List Tkz)(w:World)(hr:Rt w a cap l)(hn:l.length<=100000)(hall:∀j,j<l.length->chkZ (l.getD j tk0)=0):
 Calls Tryz.prog 22 #[.slice a l.length cap] w fun e w'=>e= .returned (.tuple #[.agg (arr .i64 (kindsN l l.length)),.agg (arr .i64 (distsN l l.length))])∧Below w.heap.size w w':=by
 have hroom:=hr.room
 have hmost:=hr.most
 unfold maxLen at hmost
 have HR:=hid hr
 have HALL:=hid hall
 obtain⟨len,hle⟩:∃n,n=l.length:=⟨_,rfl⟩
 have HL:=hid hle
 rw[<-hle] at hn hroom|-
 have b1:=bel_alloc w (.cells (arr .i64 (List.replicate 511 0)) 47)
 have s1:(w.alloc (.cells (arr .i64 (List.replicate 511 0)) 47)).heap.size=w.heap.size+1:=by simp
 have e1:=heap_new w (.cells (arr .i64 (List.replicate 511 0)) 47)
 have b2:=bel_alloc (w.alloc (.cells (arr .i64 (List.replicate 511 0)) 47)) (.cells (arr .i64 (List.replicate 13 0)) 48)
 have e2:=heap_new (w.alloc (.cells (arr .i64 (List.replicate 511 0)) 47)) (.cells (arr .i64 (List.replicate 13 0)) 48)
 rw[s1] at e2
 have HM:Hid (MemK w ((w.alloc (.cells (arr .i64 (List.replicate 511 0)) 47)).alloc (.cells (arr .i64 (List.replicate 13 0)) 48)) (kindsN l 0) (distsN l 0)):=⟨(b2.block _ (by omega)).trans e1,e2,Bn b1 b2⟩
 clear hr hle hall b1 s1 e1 b2 e2
 have HZ43:=hid Tryz.zero47
 have HZ44:=hid Tryz.zero48
 generalize List.replicate 511 0=Z1 at *
 generalize List.replicate 13 0=Z2 at *
 go_enter Tryz.func22,Tryz.ntmps22
 go_wp2_with (first
  | (refine wpList_alloc_at rfl 47 rfl (some 2) rfl (arr .i64 Z1) HZ43.out (w.heap.size) rfl ?_)
  | (refine wpList_alloc_at rfl 48 rfl (some 3) rfl (arr .i64 Z2) HZ44.out (w.heap.size+1) (by simp) ?_))
 generalize (w.alloc (.cells (arr .i64 Z1) 47)).alloc (.cells (arr .i64 Z2) 48)=w3 at *
 clear HZ43 HZ44
 go_loopw [8] (fun x wr=>∃k:Nat,k<=len∧x= .int .i64 (k:Int)∧Hid (MemK w wr (kindsN l k) (distsN l k))) (fun x _=>len-(intOf x).toNat)
 case atStart=>exact⟨0,by omega,rfl,HM.out⟩
 case round=>
  obtain⟨k,hk,rfl,HMK⟩:=hrel
  clear HM
  by_cases hlt:k<len
  ·have hkz:(k:Int)<(len:Int):=by omega
   have hbel:=HMK.out.bel
   obtain⟨b,off,rfl,hbw,hc⟩:=HR.out.cells (by rw[<-HL.out];omega)
   obtain⟨c0,c1,c2⟩:=hc k (by rw[<-HL.out];exact hlt)
   have d0:=(hbel.cell (p:=⟨b,off+k*3,none⟩) hbw).trans c0
   have d1:=(hbel.cell (p:=⟨b,off+k*3+1,none⟩) hbw).trans c1
   have d2:=(hbel.cell (p:=⟨b,off+k*3+2,none⟩) hbw).trans c2
   have h8:=wf_u8 (HR.out.fits k (by rw[<-HL.out];exact hlt)).2.2
   have htwo:=chk_two (HALL.out k (by rw[<-HL.out];exact hlt)) h8
   have HKN:Hid (kindsN l (k+1)=upL (kindsN l k) (symZ (l.getD k tk0)).toNat):=rfl
   have HDN:Hid (distsN l (k+1)=if 0<(l.getD k tk0).1 then upL (distsN l k) (dstZ (l.getD k tk0).1).toNat else distsN l k):=rfl
   have HKL:=hid (kinds_length l k)
   have HDL:=hid (dists_length l k)
   have HKE:=hid (kinds_le l k)
   have HDE:=hid (dists_le l k)
   have HCK:=hid (symbol_word (l.getD k tk0) (wr.alloc (.cells (zC (l.getD k tk0)) 63)) (by rcases htwo with h | h;exact Or.inl h.1;exact Or.inr ⟨h.2.2.1,h.2.2.2.1⟩) h8)
   generalize kindsN l k=KK at *
   generalize distsN l k=DD at *
   obtain⟨KK1,hk1⟩:∃x,x=kindsN l (k+1):=⟨_,rfl⟩
   obtain⟨DD1,hd1⟩:∃x,x=distsN l (k+1):=⟨_,rfl⟩
   rw[<-hk1] at HKN
   rw[<-hd1] at HDN
   have HK1:=hid hk1
   have HDD1:=hid hd1
   clear hk1 hd1
   clear hc c0 c1 c2 h8
   generalize l.getD k tk0=t at *
   have hsr:0<=symZ t∧symZ t<511:=by rcases htwo with h | h;exact h.2;exact h.2.2.2.2
   obtain⟨s,hs⟩:=Int.eq_ofNat_of_zero_le hsr.1
   rw[hs] at HCK HKN
   rw[Int.toNat_natCast] at HKN
   have hs511:(s:Int)<511:=by omega
   have hd:t.1=0∨(1<=t.1∧t.1<=4096):=by rcases htwo with h | h;exact Or.inl h.1;exact Or.inr ⟨h.1,h.2.1⟩
   clear htwo hs hsr
   obtain⟨d,n,x⟩:=t
   unfold zC at HCK
   dsimp only at *
   have hB1:=bel_alloc wr (.cells #[.int .i64 d,.int .i64 n,.int .u8 x] 63)
   have e0:(wr.alloc (.cells #[.int .i64 d,.int .i64 n,.int .u8 x] 63)).heap[wr.heap.size]?=some (.cells #[.int .i64 d,.int .i64 n,.int .u8 x] 63 (0,0)):=heap_new _ _
   have HE0:=hid e0
   have HM1:=hid (HMK.out.later hB1)
   have HSZ:=hid (show w.heap.size+1<wr.heap.size from by
    by_cases c:w.heap.size+1<wr.heap.size
    ·exact c
    ·have:=HMK.out.ds;rw[Array.getElem?_eq_none (by omega)] at this;cases this)
   clear hB1 e0 hbel HMK
   go_wp2_with fail
   refine HCK.out.mono ?_
   rintro _ w2 ⟨rfl,hb2⟩
   have e2:=(hb2.block wr.heap.size (by simp)).trans HE0.out
   have HE2:=hid e2
   have HM2:=hid (HM1.out.later hb2)
   clear hb2 HCK HE0 HM1 e2
   have ck:=(Joins.cell_of_block HM2.out.ks s).trans (arr_get .i64 _ s (by rw[HKL.out];omega))
   have fk:=Joins.unfrozen_of_block HM2.out.ks s
   have hv:=HKE.out s
   have HM3:=hid (HM2.out.putK s (KK.getD s 0+1))
   have HE3:Hid ((w2.setCell ⟨w.heap.size,s,none⟩ (.int .i64 ((KK.getD s 0+1:Nat):Int))).heap[wr.heap.size]?=some (.cells #[.int .i64 d,.int .i64 n,.int .u8 x] 63 (0,0))):=by
    show _=_
    rw[heap_put_other HM2.out.ks (by have:=HSZ.out;omega)];exact HE2.out
   have hup:KK.set s (KK.getD s 0+1)=KK1:=by rw[HKN.out];rfl
   rw[hup] at HM3
   clear hup
   generalize KK.getD s 0=v at *
   have hv1:((v+1:Nat):Int)=(v:Int)+1:=by omega
   rw[hv1] at HM3 HE3
   clear hv1 HM2 HE2
   have m0:=Joins.cell_of_block HE3.out 0
   simp only[List.getElem?_toArray,List.getElem?_cons_zero] at m0
   rcases hd with hd | hd
   ·subst hd
    have HD1:Hid (DD1=DD):=by show _=_;rw[HDN.out,if_neg (by omega)]
    rw[<-HD1.out] at HM3
    clear HD1 HDN HDE HDL HE3
    go_wp2
    exact⟨⟨k+1,by omega,by go_num,by rw[<-HK1.out,<-HDD1.out];exact HM3.out⟩,by simp[intOf];omega⟩
   ·obtain⟨hd1,hd2⟩:=hd
    have hdr:=dst_rng hd1 hd2
    obtain⟨q,hq⟩:=Int.eq_ofNat_of_zero_le hdr.1
    have hq13:(q:Int)<13:=by omega
    have hpos:0<d:=by omega
    have HDW:=hid (distance_word d (w2.setCell ⟨w.heap.size,s,none⟩ (.int .i64 ((v:Int)+1))) hd1 hd2)
    rw[hq] at HDW
    have HDN2:Hid (DD1=upL DD q):=by show _=_;rw[HDN.out,if_pos hpos,hq];rfl
    clear HDN hdr hq HE3
    go_wp2_with fail
    go_at_call 57
    refine HDW.out.mono ?_
    rintro _ w4 ⟨rfl,hw⟩
    obtain rfl:=hw.symm
    clear hw HDW m0 ck fk
    generalize w2.setCell ⟨w.heap.size,s,none⟩ (.int .i64 ((v:Int)+1))=W3 at *
    have cd:=(Joins.cell_of_block HM3.out.ds q).trans (arr_get .i64 _ q (by rw[HDL.out];omega))
    have fd:=Joins.unfrozen_of_block HM3.out.ds q
    have hu:=HDE.out q
    have HM4:=hid (HM3.out.putD q (DD.getD q 0+1))
    have hup:DD.set q (DD.getD q 0+1)=DD1:=by rw[HDN2.out];rfl
    rw[hup] at HM4
    clear hup HDN2 HM3
    generalize DD.getD q 0=u at *
    have hu1:((u+1:Nat):Int)=(u:Int)+1:=by omega
    rw[hu1] at HM4
    clear hu1
    go_wp2
    exact⟨⟨k+1,by omega,by go_num,by rw[<-HK1.out,<-HDD1.out];exact HM4.out⟩,by simp[intOf];omega⟩
  ·obtain rfl:k=len:=by omega
   have HK2:=hid (kinds_length l k)
   have HD2:=hid (dists_length l k)
   obtain⟨KK,hKK⟩:∃x,x=kindsN l k:=⟨_,rfl⟩
   obtain⟨DD,hDD⟩:∃x,x=distsN l k:=⟨_,rfl⟩
   have HKK:=hid hKK
   have HDD:=hid hDD
   rw[<-hKK] at HK2 HMK
   rw[<-hDD] at HD2 HMK
   clear hKK hDD
   have hzk:(Tryz.prog.info? 47).map (·.size)=some (arr .i64 KK).size:=by rw[arr_size,HK2.out];exact Tryz.size47
   have hzd:(Tryz.prog.info? 48).map (·.size)=some (arr .i64 DD).size:=by rw[arr_size,HD2.out];exact Tryz.size48
   clear HR HALL HL
   go_wp2_with fail
   refine wp_region_held_drew (S:=fun W=>MemK w W KK DD) (by kernel_rfl) HMK.out.drew (fun hS=>?_)
   generalize wr.drew=wD at *
   clear HMK
   refine Ord.take (i:=0) (d:=29) (v:= .agg (arr .i64 KK)) rfl rfl (by as_aux_lemma=>kernel_rfl) (by as_aux_lemma=>kernel_rfl) (by as_aux_lemma=>kernel_rfl) (fun _ _ _ h=>h) (by rfl) ?h0 hS ?_
   case h0=>intro W hW;exact run_load_op rfl rfl (run_loadAt_row W _ 47 47 _ _ _ hW.ks Tryz.underlying47 rfl hzk)
   simp only[List.setIfInBounds_toArray,List.set_cons_zero,List.set_cons_succ]
   refine Ord.take (i:=1) (d:=30) (v:= .agg (arr .i64 DD)) rfl rfl (by as_aux_lemma=>kernel_rfl) (by as_aux_lemma=>kernel_rfl) (by as_aux_lemma=>kernel_rfl) (fun _ _ _ h=>h) (by rfl) ?h1 hS ?_
   case h1=>intro W hW;exact run_load_op rfl rfl (run_loadAt_row W _ 48 48 _ _ _ hW.ds Tryz.underlying48 rfl hzd)
   simp only[List.setIfInBounds_toArray,List.set_cons_zero,List.set_cons_succ]
   refine wpAnyH_ready (rs:= [2]) (by as_aux_lemma=>kernel_rfl) (by simp) (AllReadyH.cons rfl (fun K hK=>?_) AllReadyH.nil)
   rw[if_pos (by rfl)]
   refine wp_store_row 47 _ _ rfl w.heap.size (arr .i64 KK) rfl rfl 47 _ hS.ks hzk rfl (arr_one _ _) ?_
   refine hK.out _ _ hS.same1 (fun hS2=>?_)
   clear hK K
   generalize wD.setRow w.heap.size (arr .i64 KK)=W2 at *
   refine wpAnyH_ready (rs:= [3]) (by as_aux_lemma=>kernel_rfl) (by simp) (AllReadyH.cons rfl (fun K hK=>?_) AllReadyH.nil)
   rw[if_pos (by rfl)]
   refine wp_store_row 48 _ _ rfl (w.heap.size+1) (arr .i64 DD) rfl rfl 48 _ hS2.ds hzd rfl (arr_one _ _) ?_
   refine hK.out _ _ hS2.same2 (fun hS3=>?_)
   clear hK K
   generalize W2.setRow (w.heap.size+1) (arr .i64 DD)=W3 at *
   have HS3:=hid hS3
   clear hS3 hS2 hS
   refine wpAnyH_done (by as_aux_lemma=>kernel_rfl) ?_ _
   go_wp2
   refine bodyPost_ret (results_two_rows (p:=2) (q:=3) (ty:=47) (ty2:=48) rfl _ _ w.heap.size (w.heap.size+1) (.agg (arr .i64 KK)) (.agg (arr .i64 DD)) rfl rfl (run_loadVar_row _ _ 47 47 _ _ _ HS3.out.ks Tryz.underlying47 rfl hzk) (run_loadVar_row _ _ 48 48 _ _ _ HS3.out.ds Tryz.underlying48 rfl hzd)) rfl ?_
   exact⟨by rw[HKK.out,HDD.out],HS3.out.bel⟩
end Go.Proofs.YtelnefngkdfcoaaGreat
