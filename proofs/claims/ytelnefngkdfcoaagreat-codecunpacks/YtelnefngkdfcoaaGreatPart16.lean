/-
 The contract of huff.Lengths at any counts of at most 512 symbols, nil among them.
-/
import Derived.Test.YtelnefngkdfcoaaGreatPart15
import Derived.Test.YtelnefngkdfcoaaGreatPart08
import Derived.Test.YtelnefngkdfcoaaGreatPart07
import Derived.Lib.AppendZerosOnto
import Derived.Lib.SliceRun
import Derived.Lib.Walk
import Derived.Laws.AppendOwnNone
import Derived.RegionTactic
namespace Go.Proofs.YtelnefngkdfcoaaGreat
open Go.RowKit Hf
set_option maxRecDepth 100000 in
theorem clone_nil(cap:Nat)(w:World):Calls Tryz.prog 89 #[.slice none 0 cap] w fun e w'=>(∃c,e= .returned (.slice none 0 c)∧c<=cap)∧w'=w:=by
 have q22:∀(w:World) (a:Option Addr) (n c n' c':Nat),(binOp .eql 51 (.slice a n c) (.slice none n' c')).run Tryz.prog w= .ok (.bool a.isNone) w:=fun w a n c n' c'=>Lib.run_eql_slice_nil w _ _ a n c n' c' Tryz.underlying51
 go_enter Tryz.func89,Tryz.ntmps89
 go_wp2
 go_ret
 exact⟨⟨_,rfl,by omega⟩,rfl⟩
set_option maxRecDepth 100000 in
theorem ri_nil(W:World)(c:Nat)(h:c<=maxLen):Ri W .i64 none c []:=⟨Nat.zero_le _,h,fun h=>absurd h (by simp),fun j=>by simp;exact wf_zero .i64⟩
set_option maxRecDepth 100000 in
theorem dep_nil:depthsL []= []:=by decide
set_option maxRecDepth 100000 in
set_option maxHeartbeats 800000 in
theorem lengths_nil(cap:Nat)(w:World)(hm:cap<=maxLen):
 Calls Tryz.prog 58 #[.slice none 0 cap] w fun e w'=>∃a2 c2,e= .returned (.tuple #[.slice a2 0 c2,.int .i64 0])∧c2<=maxLen∧Below w.heap.size w w':=by
 have HA:=hid (are_word none cap [] w (ri_nil w cap hm))
 rw[show areC []=true from by decide] at HA
 have HC:=hid (clone_nil cap w)
 have HD:Hid (∀c,c<=maxLen->Calls Tryz.prog 90 #[.slice none 0 c] w fun e w'=>∃v,e= .returned v∧w'.ownsRow w.heap.size 3 1 v 0 []∧Below w.heap.size w w'):=fun c hcm=>by
  have h:=depths_word none c [] w (ri_nil w c hcm) (by simp) (fun k=>by simp) (by unfold mostS;simp[nz])
  rw[dep_nil] at h
  exact h
 have HX:Hid (∀W c a2,Ri W .i64 a2 c []->Calls Tryz.prog 91 #[.slice a2 0 c,.func (.func 92) #[] #[]] W fun e w'=>e= .returned (.bool false)∧w'=W):=fun W c a2 h2=>contains_29 a2 c [] W h2
 have HM:=hid hm
 clear hm
 go_enter Tryz.func58,Tryz.ntmps58
 go_wp2_with fail
 refine HA.out.mono ?_
 rintro _ w1 ⟨rfl,hw⟩
 obtain rfl:=hw.symm
 clear hw
 go_wp2_with fail
 refine HC.out.mono ?_
 rintro _ w1 ⟨⟨c1,rfl,hc1⟩,hw⟩
 obtain rfl:=hw.symm
 have HD1:=hid (HD.out c1 (Nat.le_trans hc1 HM.out))
 clear hw hc1 HD HA HC
 go_wp2_with fail
 refine HD1.out.mono ?_
 rintro _ w2 ⟨v2,rfl,ho2,hb2⟩
 obtain⟨a2,c2,rfl,hr2⟩:=Ri.own (zs:= []) (kd:= .i64) ho2 (fun j=>by simp;exact wf_zero .i64)
 have HX2:=hid (HX.out w2 c2 a2 hr2)
 have HB2:=hid hb2
 have HC2:=hid hr2.most
 clear ho2 hb2 hr2 HD1 HX
 go_wp2
 refine wp_loop_rounds 1 ?_
 rw[rounds_succ]
 go_wp2_with fail
 refine HX2.out.mono ?_
 rintro _ w3 ⟨rfl,hw⟩
 obtain rfl:=hw.symm
 clear hw
 go_wp2
 go_ret2
 exact⟨_,_,rfl,HC2.out,HB2.out⟩
def LenPost(cs:List Int)(w:World)(e:Ending)(w':World):Prop:=
 (areC cs=false∧e= .returned (.tuple #[.slice none 0 0,.int .i64 50])∧Below w.heap.size w w') ∨
 (areC cs=true∧∃k a2 c2,e= .returned (.tuple #[.slice a2 cs.length c2,.int .i64 0])∧(∀j,j<k->(depthsL (flats cs j)).any deepC=true)∧(depthsL (flats cs k)).any deepC=false∧Ri w' .i64 a2 c2 (depthsL (flats cs k))∧Below w.heap.size w w')
set_option maxRecDepth 100000 in
theorem lengths_any(a:Option Addr)(cap:Nat)(cs:List Int)(w:World)(hr:Ri w .i64 a cap cs)(h60:cs.length<=512):
 Calls Tryz.prog 58 #[.slice a cs.length cap] w (LenPost cs w):=by
 cases hc:areC cs with
 | false=>
   refine(lengths_no a cap cs w hr hc).mono ?_
   rintro e w' ⟨he,rfl⟩
   exact Or.inl ⟨hc,he,Below.refl _ _⟩
 | true=>
   have hcr:=areC_rng hc
   by_cases h0:0<cs.length
   ·obtain⟨b,off,rfl,_,_⟩:=hr.cells h0
    refine(lengths_all _ cap cs w hr hc h60 h0).mono ?_
    rintro e w' ⟨v,k,he,h1,h2,ho,hb⟩
    have hdl:(depthsL (flats cs k)).length=cs.length:=by rw[dep_long,flats_length]
    rw[<-hdl] at ho
    obtain⟨a2,c2,rfl,hr2⟩:=Ri.own ho (fun j=>by have:=dep_top (flats cs k) (by rw[flats_length];omega) (flats_rng hcr.2 k) j;exact wf_mk_i64 (by omega) (by omega))
    rw[hdl] at he
    exact Or.inr ⟨hc,k,a2,c2,he,h1,h2,hr2,hb⟩
   ·have hnil:cs= []:=List.length_eq_zero_iff.1 (by omega)
    subst hnil
    have hd0:(depthsL ([]:List Int)).any deepC=false:=by rw[dep_nil];rfl
    cases a with
    | none=>
      refine(lengths_nil cap w hr.most).mono ?_
      rintro e w' ⟨a2,c2,he,hm2,hb⟩
      refine Or.inr ⟨hc,0,a2,c2,he,fun j hj=>by omega,hd0,?_,hb⟩
      show Ri w' .i64 a2 c2 (depthsL [])
      rw[dep_nil]
      exact⟨Nat.zero_le _,hm2,fun h=>absurd h (by simp),fun j=>by simp;exact wf_zero .i64⟩
    | some ad=>
      refine(lengths_flat ad cap [] w hr hc (by unfold mostS;simp[nz]) hd0 (fun j=>by rw[dep_nil];simp;exact wf_zero .i64)).mono ?_
      rintro e w' ⟨v,he,ho,hb⟩
      obtain⟨a2,c2,rfl,hr2⟩:=Ri.own ho (fun j=>by rw[dep_nil];simp;exact wf_zero .i64)
      exact Or.inr ⟨hc,0,a2,c2,he,fun j hj=>by omega,hd0,hr2,hb⟩
end Go.Proofs.YtelnefngkdfcoaaGreat
/-
 The lengths of counts as a function, and the contract of codec's codeOf.
-/
namespace Go.Proofs.YtelnefngkdfcoaaGreat
open Go.RowKit Hf
def goL:Nat->List Int->List Int
 | 0,cs=>depthsL cs
 | n+1,cs=>if (depthsL cs).any deepC=true then goL n (cs.map flatC) else depthsL cs
def lenF(cs:List Int):List Int:=goL 31 cs
theorem flats_shift(cs:List Int):∀j,flats (cs.map flatC) j=flats cs (j+1)
 | 0=>rfl
 | j+1=>by rw[flats,flats_shift cs j];rfl
theorem goL_eq:∀(k n:Nat) (cs:List Int),k<=n->(∀j,j<k->(depthsL (flats cs j)).any deepC=true)->(depthsL (flats cs k)).any deepC=false->goL n cs=depthsL (flats cs k)
 | 0,0,_,_,_,_=>rfl
 | 0,n+1,cs,_,_,h=>by
   rw[flats] at h|-
   rw[goL,if_neg (by rw[h];decide)]
 | k+1,0,_,h,_,_=>by omega
 | k+1,n+1,cs,hk,h1,h2=>by
   have h0:=h1 0 (by omega)
   rw[flats] at h0
   rw[goL,if_pos h0,goL_eq k n (cs.map flatC) (by omega) (fun j hj=>by rw[flats_shift];exact h1 (j+1) (by omega)) (by rw[flats_shift];exact h2),flats_shift]
def bndH:Nat->Int
 | 0=>1073741824
 | j+1=>bndH j/2+1
theorem flats_bnd{cs:List Int}(hc:∀k,0<=cs.getD k 0∧cs.getD k 0<=1073741824):∀j i,(flats cs j).getD i 0<=bndH j
 | 0,i=>(hc i).2
 | j+1,i=>by
   have h1:=flats_bnd hc j i
   have h2:=flats_rng hc j i
   rw[flats,bndH]
   simp only[List.getD,List.getElem?_map] at h1 h2|-
   generalize (flats cs j)[i]?=o at *
   cases o with
   | none=>simp only[Option.map_none,Option.getD_none] at h1|-;omega
   | some x=>
     simp only[Option.map_some,Option.getD_some] at h1 h2|-
     unfold flatC
     split<;>omega
theorem lenF_eq{cs:List Int}(hn:cs.length<=512)(hc:∀k,0<=cs.getD k 0∧cs.getD k 0<=1073741824){k:Nat}(h1:∀j,j<k->(depthsL (flats cs j)).any deepC=true)(h2:(depthsL (flats cs k)).any deepC=false):depthsL (flats cs k)=lenF cs:=by
 have hk:k<=31:=by
  by_cases c:k<=31
  ·exact c
  ·exfalso
   have h:=h1 31 (by omega)
   have e:bndH 31=2:=by decide
   have hb:∀i,0<=(flats cs 31).getD i 0∧(flats cs 31).getD i 0<=2:=fun i=>by
    have h3:=flats_bnd hc 31 i
    have h4:=flats_rng hc 31 i
    omega
   rw[dep_flat (flats cs 31) (by rw[flats_length];exact hn) hb] at h
   cases h
 exact(goL_eq k 31 cs hk h1 h2).symm
theorem flats_some(cs:List Int)(hn:cs.length<=512)(hc:∀k,0<=cs.getD k 0∧cs.getD k 0<=1073741824):∃k,(∀j,j<k->(depthsL (flats cs j)).any deepC=true)∧(depthsL (flats cs k)).any deepC=false:=by
 have hend:(depthsL (flats cs 31)).any deepC=false:=dep_flat (flats cs 31) (by rw[flats_length];exact hn) (fun i=>by
  have e:bndH 31=2:=by decide
  have h3:=flats_bnd hc 31 i
  have h4:=flats_rng hc 31 i
  omega)
 have key:∀n,(∃k,(∀j,j<k->(depthsL (flats cs j)).any deepC=true)∧(depthsL (flats cs k)).any deepC=false)∨(∀j,j<n->(depthsL (flats cs j)).any deepC=true):=by
  intro n
  induction n with
  | zero=>right;intro j hj;omega
  | succ n ih=>
    rcases ih with h | h
    ·exact Or.inl h
    ·cases c:(depthsL (flats cs n)).any deepC with
     | false=>exact Or.inl ⟨n,h,c⟩
     | true=>
       right
       intro j hj
       by_cases e:j=n
       ·rw[e];exact c
       ·exact h j (by omega)
 rcases key 32 with h | h
 ·exact h
 ·have:=h 31 (by omega)
  rw[hend] at this
  cases this
theorem lenF_facts{cs:List Int}(hn:cs.length<=512)(hc:∀k,0<=cs.getD k 0∧cs.getD k 0<=1073741824){k:Nat}(h1:∀j,j<k->(depthsL (flats cs j)).any deepC=true)(h2:(depthsL (flats cs k)).any deepC=false):(lenF cs).length=cs.length∧checkB (lenF cs)=true:=by
 rw[<-lenF_eq hn hc h1 h2]
 exact⟨by rw[dep_long,flats_length],dep_code (flats cs k) (by rw[flats_length];exact hn) (flats_rng hc k) h2⟩
theorem cell_congr{w w':World}{b i:Nat}(h:w'.heap[b]?=w.heap[b]?):w'.cell? ⟨b,i,none⟩=w.cell? ⟨b,i,none⟩:=by
 unfold World.cell?
 simp only[h]
theorem Ri.apart{w:World}{kd:IntKind}{a:Option Addr}{cap:Nat}{zs:List Int}{g:Nat}{cs:Array Value}{t:TypeId}{fr:Nat×Nat}(h:Ri w kd a cap zs)(hg:w.heap[g]?=some (.cells cs t fr))(hno:∀(i:Nat) (x:Int),cs[i]?≠some (Value.int kd x))(cs':Array Value):Ri (w.setRow g cs') kd a cap zs:=by
 refine⟨h.room,h.most,fun h0=>?_,h.fits⟩
 obtain⟨b,off,ha,hbw,hc⟩:=h.cells h0
 have hne:b≠g:=fun e=>by
  subst e
  have h1:=hc 0 h0
  rw[Joins.cell_of_block hg] at h1
  exact hno _ _ h1
 have hs:b<(w.setRow g cs').heap.size:=by
  have:=(below_setRow (Below.refl g w) (Nat.le_refl _) cs').size
  by_cases c:b<(w.setRow g cs').heap.size
  ·exact c
  ·have e1:=setRow_other w g b cs' hne
   rw[Array.getElem?_eq_none (by omega),Array.getElem?_eq_getElem hbw] at e1
   cases e1
 exact⟨b,off,ha,hs,fun j hj=>(cell_congr (setRow_other w g b cs' hne)).trans (hc j hj)⟩
def CodPost(cs:List Int)(w:World)(e:Ending)(w':World):Prop:=
 ∃a1 c1 a2 c2,e= .returned (.agg #[.slice a1 cs.length c1,.slice a2 cs.length c2])∧Ri w' .i64 a1 c1 (lenF cs)∧Ri w' .u16 a2 c2 (codesL (lenF cs))∧(lenF cs).length=cs.length∧checkB (lenF cs)=true∧Below w.heap.size w w'
set_option maxHeartbeats 1600000 in
set_option maxRecDepth 100000 in
theorem codeOf_word(a:Option Addr)(cap:Nat)(cs:List Int)(w:World)(hr:Ri w .i64 a cap cs)(hn:cs.length<=512)(hc:areC cs=true):Calls Tryz.prog 23 #[.slice a cs.length cap] w (CodPost cs w):=by
 have hb0:=bel_alloc w (.cells #[.slice none 0 0,.slice none 0 0] 54)
 have e0:=heap_new w (.cells #[.slice none 0 0,.slice none 0 0] 54)
 have HLEN:=hid (lengths_any a cap cs (w.alloc (.cells #[.slice none 0 0,.slice none 0 0] 54)) (hr.later hb0) hn)
 have HB0:=hid hb0
 have HE0:=hid e0
 have HN:=hid hn
 have HC:=hid hc
 clear hr hb0 e0
 obtain⟨len,hle⟩:∃n,n=cs.length:=⟨_,rfl⟩
 have HL:=hid hle
 unfold CodPost
 rw[<-hle] at HLEN|-
 clear hle hn hc
 go_enter Tryz.func23,Tryz.ntmps23
 go_wp2_with fail
 refine HLEN.out.mono ?_
 rintro _ w1 (⟨hc2,_⟩ | ⟨_,k,a2,c2,rfl,hk1,hk2,hr2,hb1⟩)
 ·rw[HC.out] at hc2
  exact Bool.noConfusion hc2
 ·have hcr:=(areC_rng HC.out).2
  have hf:=lenF_facts HN.out hcr hk1 hk2
  rw[lenF_eq HN.out hcr hk1 hk2] at hr2
  have HF:=hid hf
  have HR2:=hid hr2
  have HB1:=hid hb1
  have HE1:=hid ((hb1.block w.heap.size (by simp)).trans HE0.out)
  have HCD:Hid (Calls Tryz.prog 59 #[.slice a2 len c2] w1 fun e w'=>∃a3 c3,e= .returned (.tuple #[.slice a3 len c3,.int .i64 0])∧Ri w' .u16 a3 c3 (codesL (lenF cs))∧Below w1.heap.size w1 w'):=by
   have h:=codes_word a2 c2 (lenF cs) w1 hr2 hf.2
   rw[hf.1,<-HL.out] at h
   refine h.mono ?_
   rintro e w' ⟨v,rfl,ho,hb⟩
   obtain⟨a3,c3,rfl,hr3⟩:=Ri.own ho (fun j=>by
    have:=codesL_rng (lenF cs) j
    exact wf_mk_u16 this.1 this.2)
   exact⟨a3,c3,by rw[codesL_length,hf.1,<-HL.out],hr3,hb⟩
  clear hcr hf hr2 hb1 hk1 hk2 HLEN HE0
  rw[<-HL.out]
  go_wp2_with fail
  refine HCD.out.mono ?_
  rintro _ w2 ⟨a3,c3,rfl,hr3,hb2⟩
  have HR3:=hid hr3
  have HR22:=hid (HR2.out.later hb2)
  have HB2:=hid (Bn (Bn HB0.out HB1.out) hb2)
  have he2:=(hb2.block w.heap.size (by have:=HE1.out;rw[Array.getElem?_eq_some_iff] at this;exact this.1)).trans HE1.out
  clear hr3 hb2 HCD HR2 HB0 HB1 HE1
  have q50:(Tryz.prog.info? 54).map (·.size)=some (#[Value.slice a2 len c2,Value.slice a3 len c3]:Array Value).size:=by kernel_rfl
  have o50:(#[Value.slice a2 len c2,Value.slice a3 len c3]:Array Value).all (·.oneCell')=true:=by simp[Value.oneCell']
  go_wp2_with (refine wpList_store_rowTo rfl 54 _ _ rfl rfl w.heap.size #[.slice a2 len c2,.slice a3 len c3] rfl rfl 54 _ he2 q50 rfl o50 ?_)
  have hl2:=below_setRow HB2.out (Nat.le_refl _) #[.slice a2 len c2,.slice a3 len c3]
  have hno:∀(kd:IntKind) (i:Nat) (x:Int),(#[Value.slice none 0 0,Value.slice none 0 0]:Array Value)[i]?≠some (Value.int kd x):=fun kd i x h=>by
   match i,h with
   | 0,h=>simp at h
   | 1,h=>simp at h
   | i+2,h=>simp at h
  have hr22:=HR22.out.apart he2 (hno _) #[.slice a2 len c2,.slice a3 len c3]
  have hr33:=HR3.out.apart he2 (hno _) #[.slice a2 len c2,.slice a3 len c3]
  refine bodyPost_ret (results_cell_row (p:=2) (ty:=54) rfl _ _ w.heap.size 54 #[.slice a2 len c2,.slice a3 len c3] (0,0) _ rfl (setRow_heap _ _ _ _ _ _ he2) Tryz.underlying54 rfl (by kernel_rfl)) rfl ?_
  exact⟨a2,c2,a3,c3,rfl,hr22,hr33,HF.out.1.trans HL.out.symm,HF.out.2,hl2⟩
end Go.Proofs.YtelnefngkdfcoaaGreat
/-
 How many bytes tokens make: the contracts of lz's Size and of the document's.
-/
namespace Go.Proofs.YtelnefngkdfcoaaGreat
open Go.RowKit Lz
def sumZ:List Tkz->Int
 | []=>0
 | t::l=>t.2.1+sumZ l
def allB(l:List Tkz):Bool:=l.all fun t=>chkZ t==0
def sizeO(l:List Tkz):Int×Int:=if allB l=true then (if 65536<sumZ l then (0,2) else (sumZ l,0)) else (0,60)
theorem sumZ_append(a b:List Tkz):sumZ (a++b)=sumZ a+sumZ b:=by
 induction a with
 | nil=>simp[sumZ]
 | cons t a ih=>simp only[List.cons_append,sumZ,ih];omega
theorem chk_or(t:Tkz):chkZ t=0∨chkZ t=60:=by unfold chkZ;split<;>simp
theorem chk_len{t:Tkz}(h:chkZ t=0):1<=t.2.1∧t.2.1<=258:=by
 have hk:kindZ t≠0:=fun e=>by unfold chkZ at h;rw[if_pos e] at h;omega
 have hf:=flt_kind t
 rcases kind_three t with k | k | k
 ·exact absurd k hk
 ·have:=hf.1 k;omega
 ·have:=hf.2 k;omega
theorem take_getD(l:List Tkz)(k:Nat)(h:k<l.length):l.take (k+1)=l.take k++ [l.getD k tk0]:=by
 rw[List.take_succ_eq_append_getElem h]
 simp[List.getD,h]
theorem sum_bound(l:List Tkz)(h:∀t∈l,chkZ t=0):0<=sumZ l∧sumZ l<=258*l.length:=by
 induction l with
 | nil=>simp[sumZ]
 | cons t l ih=>
   have h1:=chk_len (h t (by simp))
   have h2:=ih (fun x hx=>h x (by simp[hx]))
   simp only[sumZ,List.length_cons]
   omega
theorem sum_take_le(l:List Tkz)(h:∀t∈l,chkZ t=0)(k:Nat):sumZ (l.take k)<=sumZ l:=by
 have e:sumZ l=sumZ (l.take k)+sumZ (l.drop k):=by rw[<-sumZ_append,List.take_append_drop]
 have:=(sum_bound (l.drop k) (fun t ht=>h t (List.mem_of_mem_drop ht))).1
 omega
theorem getD_memZ(l:List Tkz)(k:Nat)(h:k<l.length):l.getD k tk0∈l:=by
 simp only[List.getD,List.getElem?_eq_getElem h,Option.getD_some]
 exact List.getElem_mem h
theorem all_of{l:List Tkz}(h:∀j,j<l.length->chkZ (l.getD j tk0)=0):allB l=true:=by
 unfold allB
 rw[List.all_eq_true]
 intro t ht
 obtain⟨j,hj,rfl⟩:=List.getElem_of_mem ht
 have:=h j hj
 simp only[List.getD,List.getElem?_eq_getElem hj,Option.getD_some] at this
 simpa using this
theorem all_not{l:List Tkz}{k:Nat}(hk:k<l.length)(h:chkZ (l.getD k tk0)≠0):allB l=false:=by
 rw[Bool.eq_false_iff]
 intro ha
 unfold allB at ha
 rw[List.all_eq_true] at ha
 exact h (by simpa using ha _ (getD_memZ l k hk))
theorem all_mem{l:List Tkz}(h:allB l=true):∀t∈l,chkZ t=0:=by
 unfold allB at h
 rw[List.all_eq_true] at h
 exact fun t ht=>by simpa using h t ht
set_option maxHeartbeats 1600000 in
set_option maxRecDepth 100000 in
theorem size_word(a:Option Addr)(cap:Nat)(l:List Tkz)(w:World)(hr:Rt w a cap l)(hn:l.length<=100000):
 Calls Tryz.prog 21 #[.slice a l.length cap] w fun e w'=>e= .returned (.tuple #[.int .i64 (sizeO l).1,.int .i64 (sizeO l).2])∧Below w.heap.size w w':=by
 have hroom:=hr.room
 have hmost:=hr.most
 unfold maxLen at hmost
 have HR:=hid hr
 obtain⟨len,hle⟩:∃n,n=l.length:=⟨_,rfl⟩
 have HL:=hid hle
 rw[<-hle] at hn hroom|-
 clear hr hle
 go_enter Tryz.func21,Tryz.ntmps21
 go_wp2
 go_loopw [4,10] (fun x4 x10 wr=>∃k:Nat,k<=len∧x10= .int .i64 (k:Int)∧x4= .int .i64 (sumZ (l.take k))∧Below w.heap.size w wr∧Hid (∀j,j<k->chkZ (l.getD j tk0)=0)) (fun _ x10 _=>len-(intOf x10).toNat)
 case atStart=>exact⟨0,by omega,rfl,rfl,Below.refl _ _,fun j hj=>absurd hj (by omega)⟩
 case round=>
  obtain⟨k,hk,rfl,rfl,hbel,HA⟩:=hrel
  have hsb:0<=sumZ (l.take k)∧sumZ (l.take k)<=258*100000:=by
   have h:=sum_bound (l.take k) (fun t ht=>by
    obtain⟨j,hj,rfl⟩:=List.getElem_of_mem ht
    have hj':j<k:=by simp at hj;omega
    have:=HA.out j hj'
    simp only[List.getElem_take]
    rw[List.getD,List.getElem?_eq_getElem (by rw[<-HL.out];omega)] at this
    exact this)
   have:((l.take k).length:Int)<=100000:=by simp;omega
   omega
  by_cases hlt:k<len
  ·have hkz:(k:Int)<(len:Int):=by omega
   obtain⟨b,off,rfl,hbw,hc⟩:=HR.out.cells (by rw[<-HL.out];omega)
   obtain⟨c0,c1,c2⟩:=hc k (by rw[<-HL.out];exact hlt)
   have d0:=(hbel.cell (p:=⟨b,off+k*3,none⟩) hbw).trans c0
   have d1:=(hbel.cell (p:=⟨b,off+k*3+1,none⟩) hbw).trans c1
   have d2:=(hbel.cell (p:=⟨b,off+k*3+2,none⟩) hbw).trans c2
   have HCK:=hid (check_word (l.getD k tk0) (wr.alloc (.cells (zC (l.getD k tk0)) 63)))
   have HTK:=hid (take_getD l k (by rw[<-HL.out];exact hlt))
   have HNOT:=hid (fun h=>all_not (l:=l) (k:=k) (by rw[<-HL.out];exact hlt) h)
   have HLEN:=hid (fun h=>chk_len (t:=l.getD k tk0) h)
   have hor:=chk_or (l.getD k tk0)
   have HAK:Hid (chkZ (l.getD k tk0)=0->∀j,j<k+1->chkZ (l.getD j tk0)=0):=fun h j hj=>by
    by_cases e:j=k
    ·subst e;exact h
    ·exact HA.out j (by omega)
   have HS:Hid (sumZ (l.take (k+1))=sumZ (l.take k)+(l.getD k tk0).2.1):=by
    show _=_
    rw[HTK.out,sumZ_append]
    simp[sumZ]
   generalize sumZ (l.take k)=s at *
   clear hc c0 c1 c2
   generalize l.getD k tk0=t at *
   obtain⟨d,n,x⟩:=t
   unfold zC at HCK
   dsimp only at *
   have hB1:=bel_allocZ wr (.cells #[.int .i64 d,.int .i64 n,.int .u8 x] 63)
   have HB1:=hid (Bn hbel hB1)
   have e0:(wr.alloc (.cells #[.int .i64 d,.int .i64 n,.int .u8 x] 63)).heap[wr.heap.size]?=some (.cells #[.int .i64 d,.int .i64 n,.int .u8 x] 63 (0,0)):=heap_newZ _ _
   have HE0:=hid e0
   clear hB1 e0 hbel
   go_wp2_with fail
   refine HCK.out.mono ?_
   rintro _ w2 ⟨rfl,hb2⟩
   have e2:=(hb2.block wr.heap.size (by simp)).trans HE0.out
   have m1:=Joins.cell_of_block e2 1
   simp only[List.getElem?_toArray,List.getElem?_cons_zero,List.getElem?_cons_succ] at m1
   have HB2:=hid (Bn HB1.out hb2)
   clear hb2 HB1 HCK e2 HE0
   rcases hor with hor | hor
   ·obtain⟨hn1,hn2⟩:=HLEN.out hor
    have HAK2:=hid (HAK.out hor)
    rw[hor]
    clear hor HNOT
    go_wp2
    exact⟨⟨k+1,by omega,by go_num,by rw[HS.out],HB2.out,HAK2⟩,by simp[intOf];omega⟩
   ·have HO:Hid (sizeO l=(0,60)):=by
     show _=_
     unfold sizeO
     rw[HNOT.out (by omega),if_neg (by simp)]
    rw[hor]
    clear hor HNOT
    go_wp2
    go_ret2
    exact⟨by rw[HO.out];rfl,HB2.out⟩
  ·obtain rfl:k=len:=by omega
   have hkz:¬(k:Int)<(k:Int):=by omega
   have HT:Hid (l.take k=l):=List.take_of_length_le (by rw[<-HL.out];omega)
   have HAL:Hid (allB l=true):=all_of (fun j hj=>HA.out j (by rw[HL.out];exact hj))
   rw[HT.out] at hsb|-
   have HO:Hid (sizeO l=if 65536<sumZ l then (0,2) else (sumZ l,0)):=by show _=_;unfold sizeO;rw[HAL.out,if_pos rfl]
   generalize sumZ l=s at *
   by_cases hs:65536<s
   ·rw[if_pos hs] at HO
    go_wp2
    go_ret2
    exact⟨by rw[HO.out];rfl,hbel⟩
   ·rw[if_neg hs] at HO
    go_wp2
    go_ret2
    exact⟨by rw[HO.out];rfl,hbel⟩
end Go.Proofs.YtelnefngkdfcoaaGreat
/-
 The contract of the document's Size.
-/
namespace Go.Proofs.YtelnefngkdfcoaaGreat
open Go.RowKit Lz
end Go.Proofs.YtelnefngkdfcoaaGreat
/-
 The bytes of a token: the contract of lz's grown.
-/
namespace Go.Proofs.YtelnefngkdfcoaaGreat
open Go.RowKit Lz Go.ChangeShapes Go.WideShapes
def cpyL(b:List Int)(d:Nat):Nat->List Int
 | 0=>b
 | n+1=>cpyL b d n++ [(cpyL b d n).getD ((cpyL b d n).length-d) 0]
theorem cpyL_len(b:List Int)(d:Nat):∀n,(cpyL b d n).length=b.length+n
 | 0=>rfl
 | n+1=>by simp only[cpyL,List.length_append,cpyL_len b d n,List.length_singleton];omega
def growZ(b:List Int)(t:Tkz):List Int:=if t.1=0 then b++ [t.2.2] else cpyL b t.1.toNat t.2.1.toNat
theorem getD_append_lt(b c:List Int){j:Nat}(h:j<b.length):(b++c).getD j 0=b.getD j 0:=by
 simp only[List.getD,List.getElem?_append_left h]
theorem bytes8_snoc{b:List Int}(h:Bytes8 b){x:Int}(hx:(Lit.int .u8 x).wf=true):Bytes8 (b++ [x]):=by
 intro j
 rcases Nat.lt_trichotomy j b.length with hj | hj | hj
 ·rw[getD_append_lt b [x] hj];exact h j
 ·subst hj;simpa [List.getD] using hx
 ·rw[getD_out _ _ (by simp;omega)];exact wf_zero _
theorem bytes8_cpy{b:List Int}(h:Bytes8 b)(d:Nat):∀n,Bytes8 (cpyL b d n)
 | 0=>h
 | n+1=>bytes8_snoc (bytes8_cpy h d n) (bytes8_cpy h d n _)
theorem bytes8_grow{b:List Int}(h:Bytes8 b){t:Tkz}(ht:(Lit.int .u8 t.2.2).wf=true):Bytes8 (growZ b t):=by
 unfold growZ
 split
 ·exact bytes8_snoc h ht
 ·exact bytes8_cpy h _ _
abbrev Ob (w:World) (base:Nat) (v:Value) (b:List Int):Prop:=w.ownsRow base 5 1 v b.length (b.map (Value.int .u8))
theorem ob_nil(w:World)(base:Nat):Ob w base (.slice none 0 0) []:=⟨rfl,.inl ⟨rfl,rfl⟩⟩
theorem Tryz.info5Z:(Tryz.prog.info? 5).map (fun i=>(i.zero,i.size,i.bytes))=some (some (.int .u8 0),1,1):=by kernel_rfl
theorem one_new(w:World)(x:Value)(t:TypeId)(j:Nat)(u:Value)(h: [x][j]?=some u):(w.alloc (.cells #[x] t)).cell? ((⟨w.heap.size,0,none⟩:Addr).add j)=some u:=by
 have e:=Joins.cell_of_block (heap_newZ w (.cells #[x] t)) j
 rw[add_plain,Nat.zero_add,e,List.getElem?_toArray]
 exact h
theorem one_cellZ(k:IntKind)(x:Int):∀u ∈ [Value.int k x],u.oneCell'=true:=by
 intro u hu
 simp at hu
 subst hu
 rfl
theorem flt_zero{t:Tkz}{m:Int}(h:fltZ t m=0):(t.1=0∧t.2.1=1∧m+1<=65536)∨(1<=t.1∧t.1<=4096∧4<=t.2.1∧t.2.1<=258∧t.1<=m∧m+t.2.1<=65536):=by
 have hf:=flt_kind t
 unfold fltZ at h
 rcases kind_three t with k | k | k
 ·rw[if_pos k] at h;omega
 ·have h1:=hf.1 k
  rw[if_neg (by omega),if_neg (by omega)] at h
  split at h
  ·omega
  ·left;omega
 ·have h1:=hf.2 k
  rw[if_neg (by omega)] at h
  split at h
  ·omega
  ·rename_i hn
   split at h
   ·omega
   ·right
    have:¬m<t.1:=fun h'=>hn ⟨k,h'⟩
    omega
set_option maxHeartbeats 1600000 in
set_option maxRecDepth 100000 in
theorem grown_word(t:Tkz)(b:List Int)(v:Value)(base:Nat)(w:World)(hown:Ob w base v b)(hf:fltZ t b.length=0)(hb:base<=w.heap.size):
 Calls Tryz.prog 107 #[v,.agg (zC t)] w fun e w'=>∃v',e= .returned v'∧Ob w' base v' (growZ b t)∧Below base w w':=by
 have hz:=flt_zero hf
 have HG:Hid (growZ b t=if t.1=0 then b++ [t.2.2] else cpyL b t.1.toNat t.2.1.toNat):=rfl
 obtain⟨d,n,x⟩:=t
 unfold zC
 dsimp only at *
 clear hf
 obtain⟨i0,hi,hi0,hi1,hi2⟩:=info_parts Tryz.info5Z
 have HBA:=hid (bel_allocZ w (.cells #[.int .i64 d,.int .i64 n,.int .u8 x] 63))
 have hownA:=hown.alloc (.cells #[.int .i64 d,.int .i64 n,.int .u8 x] 63)
 rcases hz with ⟨hd0,hn1,hm⟩ | ⟨hd1,hd2,hn1,hn2,hdm,hm⟩
 ·rw[if_pos hd0] at HG
  have hdb:(d==0)=true:=by simpa using hd0
  have hob:=own_block hown
  clear hd0 hn1
  go_enter Tryz.func107,Tryz.ntmps107
  go_wp2_with (at_builtin;refine wpList_append_own _ rfl _ _ 24 rfl base 5 i0 (.int .u8 0) 1 1 Tryz.underlying24 hi hi0 hi1 hi2 rfl (by decide) _ _ _ rfl (hownA.alloc _) ⟨w.heap.size+1,0,none⟩ 1 1 [.int .u8 x] rfl rfl (by have:=one_new (w.alloc (.cells #[.int .i64 d,.int .i64 n,.int .u8 x] 63)) (.int .u8 x) 5;simpa only[World.size_alloc] using this) (one_cellZ _ _) (by unfold maxLen;omega) (by omega) (by simp;omega) ?_)
  intro v' w3 hown3 hgrow3 _
  have HB3:Hid (Below base w w3):=((HBA.out.mono hb).trans ((bel_allocZ _ (.cells #[.int .u8 x] 5)).mono (by simp;omega))).grown hgrow3 (by simp;omega) (fun g hg=>(hob g hg).1)
  have HO3:Hid (Ob w3 base v' (growZ b (d,n,x))):=by
   show World.ownsRow _ _ _ _ _ _ _
   rw[HG.out,List.length_append,List.map_append]
   exact hown3
  clear hown3 hgrow3 hownA hown hob
  go_wp2
  go_ret
  exact⟨_,rfl,HO3.out,HB3.out⟩
 ·rw[if_neg (by omega)] at HG
  have hdb:(d==0)=false:=by simp;omega
  obtain⟨D,hD⟩:∃D:Nat,d=(D:Int):=⟨d.toNat,by omega⟩
  obtain⟨N,hN⟩:∃N:Nat,n=(N:Int):=⟨n.toNat,by omega⟩
  subst hD
  subst hN
  simp only[Int.toNat_natCast] at HG
  have hDb:D<=b.length:=by omega
  have hD1:1<=D:=by omega
  have hNm:b.length+N<=65536:=by omega
  have HLEN:Hid (∀j,(cpyL b D j).length=b.length+j):=fun j=>cpyL_len b D j
  have e0:(w.alloc (.cells #[.int .i64 (D:Int),.int .i64 (N:Int),.int .u8 x] 63)).heap[w.heap.size]?=some (.cells #[.int .i64 (D:Int),.int .i64 (N:Int),.int .u8 x] 63 (0,0)):=heap_newZ _ _
  have HE0:=hid e0
  have HOA:Hid (Ob (w.alloc (.cells #[.int .i64 (D:Int),.int .i64 (N:Int),.int .u8 x] 63)) base v (cpyL b D 0)):=hownA
  have hwA:base<=w.heap.size:=hb
  obtain⟨bl,hbl⟩:∃bl,bl=b.length:=⟨_,rfl⟩
  rw[<-hbl] at hDb hNm
  rw[<-hbl] at HLEN
  clear hownA hown hbl hdm hm hd1 hd2 hn1 hn2 e0
  go_enter Tryz.func107,Tryz.ntmps107
  go_wp2_with fail
  go_loopw [0,15] (fun x0 x15 wr=>∃j:Nat,j<=N∧x15= .int .i64 (j:Int)∧Ob wr base x0 (cpyL b D j)∧wr.heap[w.heap.size]?=some (.cells #[.int .i64 (D:Int),.int .i64 (N:Int),.int .u8 x] 63 (0,0))∧Below base w wr) (fun _ x15 _=>N-(intOf x15).toNat)
  case atStart=>exact⟨0,by omega,rfl,HOA.out,HE0.out,HBA.out.mono hb⟩
  case round=>
   clear HOA HE0 HBA
   obtain⟨j,hj,rfl,hown,htb,hbel⟩:=hrel
   have hlen:=HLEN.out j
   have hlt0:=(Array.getElem?_eq_some_iff.1 htb).1
   by_cases hlt:j<N
   ·have hjz:(j:Int)<(N:Int):=by omega
    have HST:Hid (cpyL b D (j+1)=cpyL b D j++ [(cpyL b D j).getD ((cpyL b D j).length-D) 0]):=rfl
    have hob:=own_block hown
    have hne:u0.ownBlock≠some w.heap.size:=fun e=>by
     rcases hown.2 with ⟨hv,_⟩ | ⟨g',cap',cur',hv,_,hg',_⟩
     ·rw[hv] at e;cases e
     ·rw[hv] at e
      simp only[Value.ownBlock,Option.some.injEq] at e
      rw[e,htb] at hg'
      cases hg'
    obtain⟨L,hL⟩:∃L,L+1=(cpyL b D j).length:=⟨bl+j-1,by omega⟩
    obtain⟨g,cap,rfl⟩:=ownsRow_succ (k:=L) (by rw[hL];exact hown)
    obtain⟨i,hi'⟩:∃i,i=(cpyL b D j).length-D:=⟨_,rfl⟩
    rw[<-hi'] at HST
    have hcap:(cpyL b D j).length<=cap∧cap<=maxLen:=by
     rcases hown.2 with ⟨hv,_⟩ | ⟨g',cap',cur',hv,_,_,h1,h2,_⟩
     ·cases hv
     ·injection hv with _ _ h3
      rw[h3]
      exact⟨h1,h2⟩
    unfold maxLen at hcap
    have hLb:L+1=bl+j:=by omega
    have ci:wr.cell? ⟨g,i,none⟩=some (.int .u8 ((cpyL b D j).getD i 0)):=by
     rw[hL] at hown
     rw[hown.cellAt i (by omega),List.getElem?_map,List.getElem?_eq_getElem (by omega)]
     simp[List.getD,List.getElem?_eq_getElem (show i<(cpyL b D j).length by omega)]
    obtain⟨M,hM⟩:∃M,M=L+1:=⟨_,rfl⟩
    rw[<-hM] at hown hL hLb hob hne|-
    have hiz:(M:Int)-(D:Int)=(i:Int):=by omega
    have hiM:i<M:=by omega
    have m0:=Joins.cell_of_block htb 0
    have m1:=Joins.cell_of_block htb 1
    simp only[List.getElem?_toArray,List.getElem?_cons_zero,List.getElem?_cons_succ] at m0 m1
    have hMl:M<=65536:=by omega
    have HTB:=hid htb
    have HBEL:=hid hbel
    have HOB:=hid hob
    have HNE:=hid hne
    have hwb:=hbel.size
    have HLM:Hid ((cpyL b D j).length=M):=hL.symm
    generalize (cpyL b D j).getD i 0=y at *
    have hown2:wr.ownsRow base 5 1 (.slice (some ⟨g,0,none⟩) M cap) M ((cpyL b D j).map (Value.int .u8)):=by
     have h:wr.ownsRow base 5 1 (.slice (some ⟨g,0,none⟩) M cap) (cpyL b D j).length ((cpyL b D j).map (Value.int .u8)):=hown
     rwa[HLM.out] at h
    clear hM hL hLb hob hne htb hbel hown hcap hlen hi' HLEN
    go_wp2_with (at_builtin;refine wpList_append_own _ rfl _ _ 24 rfl base 5 i0 (.int .u8 0) 1 1 Tryz.underlying24 hi hi0 hi1 hi2 rfl (by decide) _ _ _ rfl (hown2.alloc _) ⟨wr.heap.size,0,none⟩ 1 1 [.int .u8 y] rfl rfl (one_new wr (.int .u8 y) 5) (one_cellZ _ _) (by unfold maxLen;omega) (by omega) (by simp;omega) ?_)
    intro v' w3 hown3 hgrow3 _
    have HB3:Hid (Below base w w3):=(HBEL.out.trans ((bel_allocZ wr (.cells #[.int .u8 y] 5)).mono (by omega))).grown hgrow3 (by simp;omega) (fun g hg=>(HOB.out g hg).1)
    have HT3:Hid (w3.heap[w.heap.size]?=some (.cells #[.int .i64 (D:Int),.int .i64 (N:Int),.int .u8 x] 63 (0,0))):=
     (hgrow3.block w.heap.size (by simp;omega) (fun e=>HNE.out e.symm)).trans (heap_old _ _ HTB.out)
    have HO3:Hid (Ob w3 base v' (cpyL b D (j+1))):=by
     show World.ownsRow _ _ _ _ _ _ _
     rw[HST.out,List.length_append,List.map_append,HLM.out]
     exact hown3
    clear hown3 hgrow3 hown2 ci m0 m1 HOB HNE HBEL HTB
    go_wp2
    exact⟨⟨j+1,by omega,by go_num,HO3.out,HT3.out,HB3.out⟩,by simp[intOf];omega⟩
   ·obtain rfl:j=N:=by omega
    have hjz:¬(j:Int)<(j:Int):=by omega
    go_wp2
    go_ret
    exact⟨_,rfl,by rw[HG.out];exact hown,hbel⟩
end Go.Proofs.YtelnefngkdfcoaaGreat
/-
 append of bytes, whatever slice they lie in, behind a row that the call owns; the contracts of slices.Grow and slices.Concat at bytes.
-/
namespace Go.Proofs.YtelnefngkdfcoaaGreat
open Go.RowKit
theorem run_append_nil{P:Program}{w:World}(base:Nat)(t ty e:TypeId)(i:TypeInfo)(size cp:Nat)(ht:P.underlying t=some (.slice e))(hi:P.info? e=some i)
 (v:Value) (n:Nat) (xs:List Value) (hown:w.ownsRow base e size v n xs):(Builtin.append_ #[t,t] ty #[v,.slice none 0 cp]).run P w= .ok v w:=by
 rcases hown.2 with ⟨rfl,rfl⟩ | ⟨g,cap,cur,rfl,_,_,hnc,_⟩
 ·simp[Builtin.append_,run_underlying ht,sizeOf,typeInfo,hi,Builtin.lenOf,Builtin.firstCells]
 ·simp[Builtin.append_,run_underlying ht,sizeOf,typeInfo,hi,Builtin.lenOf,Builtin.firstCells,hnc,storeCells]
theorem wpList_append_nil{P:Program}{w:World}{ops:Array Oper}{rest:List Oper}{o:Oper}{a:Act}{Q:Exit->Act->World->Prop}(hgd:o.guard=none)(s x:Operand)(t:TypeId)
 (ho:o.op= .call {callee:= .builtin .append,args:= #[s,x],argTypes:= #[t,t]}) (base:Nat) (e:TypeId) (i:TypeInfo) (size cp:Nat) (ht:P.underlying t=some (.slice e)) (hi:P.info? e=some i)
 (v:Value) (n:Nat) (xs:List Value) (hs:a.eval s=v) (hown:w.ownsRow base e size v n xs) (hx:a.eval x= .slice none 0 cp)
 (h:wpList P ops Q rest (a.put o.dst v) w):wpList P ops Q (o::rest) a w:=by
 refine wpList_plain hgd fun K hK=>?_
 have hrun:=run_append_nil (P:=P) (w:=w) base t o.type e i size cp ht hi v n xs hown
 unfold Oper.wp
 simp[execOp,ho,resolve,invoke,builtin,hs,hx,hrun,Result.andThen]
 exact hK _ _ h
theorem app_any(w:World){ops:Array Oper}{rest:List Oper}{o:Oper}{ac:Act}{Q:Exit->Act->World->Prop}(hgd:o.guard=none)(s x:Operand)
 (ho:o.op= .call {callee:= .builtin .append,args:= #[s,x],argTypes:= #[24,24]}) (B:Nat) (v:Value) (l:List Int) (hs:ac.eval s=v) (hown:w.ownsRow B 5 1 v l.length (l.map (Value.int .u8)))
 (a:Option Addr) (cap:Nat) (zs:List Int) (hx:ac.eval x= .slice a zs.length cap) (hrd:Ri w .u8 a cap zs) (hbd:l.length+zs.length<=10000000) (hB:B<=w.heap.size)
 (h:∀v' w',w'.ownsRow B 5 1 v' (l++zs).length ((l++zs).map (Value.int .u8))->w.grownBy w' v.ownBlock->wpList Tryz.prog ops Q rest (ac.put o.dst v') w'):wpList Tryz.prog ops Q (o::rest) ac w:=by
 obtain⟨i0,hi,hz0,hz1,hz2⟩:=info_parts Tryz.info5Z
 cases a with
 | none=>
   have hz:zs= []:=by
    apply List.length_eq_zero_iff.1
    rcases Nat.eq_zero_or_pos zs.length with h | h
    ·exact h
    ·obtain⟨_,_,h',_⟩:=hrd.cells h
     cases h'
   subst hz
   refine wpList_append_nil hgd s x 24 ho B 5 i0 1 cap Tryz.underlying24 hi v l.length _ hs hown hx ?_
   have:=h v w (by simpa using hown) (World.grownBy.refl _ _)
   exact this
 | some ad=>
   refine wpList_append_own w hgd s x 24 ho B 5 i0 (.int .u8 0) 1 1 Tryz.underlying24 hi hz0 hz1 hz2 rfl (by decide) v l.length _ hs hown ad zs.length cap (zs.map (Value.int .u8)) hx (by simp) ?_ (fun u hu=>by obtain⟨y,_,rfl⟩:=List.mem_map.1 hu;rfl) (by unfold maxLen;omega) (by omega) hB ?_
   ·intro j u hj
    have hjl:j<zs.length:=by
     have:=(List.getElem?_eq_some_iff.1 hj).1
     simpa using this
    obtain⟨b,off,hb,_,hc⟩:=hrd.cells (by omega)
    have hb':=Option.some.inj hb
    subst hb'
    rw[Go.WideShapes.add_plain,hc j hjl,<-hj]
    simp[List.getD,List.getElem?_eq_getElem hjl]
   ·intro v' w' h1 h2 _
    refine h v' w' ?_ h2
    rw[List.length_append,List.map_append]
    exact h1
end Go.Proofs.YtelnefngkdfcoaaGreat
/-
 Lengths as bytes, run by run: the contract of codec's runs.
-/
namespace Go.Proofs.YtelnefngkdfcoaaGreat
open Go.RowKit
def runN(z:Int)(l:List Int):Nat:=(l.takeWhile (· == z)).length
def runsF:Nat->List Int->List Int
 | 0,_=> []
 | _+1,[]=> []
 | f+1,z::l=>z::(vint ((runN z l+1:Nat):Int)++runsF f (l.drop (runN z l)))
def runsL(zs:List Int):List Int:=runsF zs.length zs
theorem runN_of{z:Int}:∀(k:Nat) (l:List Int),k<=l.length->(∀p,p<k->l.getD p 0=z)->(k=l.length∨l.getD k 0≠z)->runN z l=k
 | 0,[],_,_,_=>rfl
 | 0,x::l,_,_,h=>by
   rcases h with h | h
   ·simp at h
   ·unfold runN
    rw[List.takeWhile_cons_of_neg (by simpa using h)];rfl
 | k+1,[],h,_,_=>by simp at h
 | k+1,x::l,hk,h1,h2=>by
   have hx:x=z:=by have:=h1 0 (by omega);simpa using this
   have ih:=runN_of k l (by simpa using hk) (fun p hp=>by have:=h1 (p+1) (by omega);simpa using this) (by
    rcases h2 with h2 | h2
    ·left;simpa using h2
    ·right;simpa using h2)
   unfold runN at ih|-
   rw[List.takeWhile_cons_of_pos (by simpa using hx),List.length_cons,ih]
theorem getD_drop0(l:List Int)(n p:Nat):(l.drop n).getD p 0=l.getD (n+p) 0:=by simp[List.getD]
theorem drop_at(zs:List Int)(k:Nat)(hk:k<zs.length):zs.drop k=zs.getD k 0::zs.drop (k+1):=by
 rw[List.drop_eq_getElem_cons hk]
 simp[List.getD,List.getElem?_eq_getElem hk]
theorem runs_step(zs:List Int)(i j f:Nat)(hi:i<j)(hj:j<=zs.length)(hsame:∀p,i<p->p<j->zs.getD p 0=zs.getD i 0)(hend:j=zs.length∨zs.getD j 0≠zs.getD i 0):
 runsF (f+1) (zs.drop i)=zs.getD i 0::(vint ((j-i:Nat):Int)++runsF f (zs.drop j)):=by
 have hr:runN (zs.getD i 0) (zs.drop (i+1))=j-i-1:=runN_of _ _ (by simp;omega) (fun p hp=>by rw[getD_drop0];exact hsame _ (by omega) (by omega)) (by
  rcases hend with h | h
  ·left;simp;omega
  ·right;rw[getD_drop0,show i+1+(j-i-1)=j from by omega];exact h)
 rw[drop_at zs i (by omega),runsF,hr,List.drop_drop,show i+1+(j-i-1)=j from by omega,show j-i-1+1=j-i from by omega]
theorem runs_done(f:Nat)(zs:List Int)(i:Nat)(h:zs.length<=i):runsF f (zs.drop i)= []:=by
 rw[List.drop_eq_nil_of_le h]
 cases f<;>rfl
theorem vint_short(x:Int)(h0:0<=x)(h1:x<16384):(vint x).length<=2:=by
 unfold vint
 rw[vintL]
 split
 ·simp
 ·rw[vintL,if_pos (by omega)];simp
theorem vint_mid(x:Int)(h0:0<=x)(h1:x<2097152):(vint x).length<=3:=by
 unfold vint
 rw[vintL]
 split
 ·simp
 ·rw[vintL]
  split
  ·simp
  ·rw[vintL,if_pos (by omega)];simp
theorem vintL_u8:∀(f:Nat) (x:Int),0<=x->x<128^(f+1)->∀y∈vintL f x,0<=y∧y<=255
 | 0,x,h0,h1,y,hy=>by
   simp[vintL] at hy
   subst hy
   simp at h1;omega
 | f+1,x,h0,h1,y,hy=>by
   rw[vintL] at hy
   split at hy
   ·simp at hy;subst hy;omega
   ·rcases List.mem_cons.1 hy with rfl | hy
    ·omega
    ·exact vintL_u8 f (x/128) (by omega) (by rw[Int.ediv_lt_iff_lt_mul (by decide),<-Int.pow_succ];exact h1) y hy
theorem vint_u8(x:Int)(h0:0<=x)(h1:x<18446744073709551616)(j:Nat):0<=(vint x).getD j 0∧(vint x).getD j 0<=255:=by
 by_cases h:j<(vint x).length
 ·have:=vintL_u8 9 x h0 (by omega) _ (List.getElem_mem h)
  simpa [List.getD,List.getElem?_eq_getElem h] using this
 ·simp[List.getD,List.getElem?_eq_none (show(vint x).length<=j by omega)]
theorem runsF_len:∀(f:Nat) (zs:List Int),zs.length<=1000->(runsF f zs).length<=3*zs.length
 | 0,_,_=>by simp[runsF]
 | _+1,[],_=>by simp[runsF]
 | f+1,z::l,hl=>by
   rw[List.length_cons] at hl
   have hr:runN z l<=l.length:=by unfold runN;exact(List.takeWhile_sublist _).length_le
   have h1:=runsF_len f (l.drop (runN z l)) (by rw[List.length_drop];omega)
   have h2:=vint_short ((runN z l+1:Nat):Int) (by omega) (by omega)
   rw[List.length_drop] at h1
   rw[runsF,List.length_cons,List.length_append,List.length_cons]
   omega
theorem runs_len(zs:List Int)(h:zs.length<=1000):(runsL zs).length<=3*zs.length:=runsF_len zs.length zs h
theorem own_later2{w w':World}{B n:Nat}{v:Value}{xs:List Value}{e s:Nat}(h:w.ownsRow B e s v n xs)(hb:Below w.heap.size w w'):w'.ownsRow B e s v n xs:=own_laterZ h hb
theorem runsF_u8:∀(f:Nat) (zs:List Int),zs.length<=1000->(∀z∈zs,0<=z∧z<=255)->∀y∈runsF f zs,0<=y∧y<=255
 | 0,_,_,_,y,hy=>by cases hy
 | _+1,[],_,_,y,hy=>by cases hy
 | f+1,z::l,hl,hz,y,hy=>by
   rw[runsF] at hy
   rcases List.mem_cons.1 hy with rfl | hy
   ·exact hz _ List.mem_cons_self
   ·rcases List.mem_append.1 hy with hy | hy
    ·have hr:runN z l<=l.length:=by unfold runN;exact(List.takeWhile_sublist _).length_le
     rw[List.length_cons] at hl
     exact vintL_u8 9 _ (by omega) (by omega) y hy
    ·exact runsF_u8 f _ (by rw[List.length_cons] at hl;rw[List.length_drop];omega) (fun x hx=>hz x (List.mem_cons_of_mem _ (List.mem_of_mem_drop hx))) y hy
theorem runs_u8(zs:List Int)(hn:zs.length<=1000)(hz:∀j,0<=zs.getD j 0∧zs.getD j 0<=15)(j:Nat):0<=(runsL zs).getD j 0∧(runsL zs).getD j 0<=255:=by
 by_cases h:j<(runsL zs).length
 ·have:=runsF_u8 zs.length zs hn (fun z hm=>by
   obtain⟨i,hi,rfl⟩:=List.getElem_of_mem hm
   have:=hz i
   simp[List.getD,List.getElem?_eq_getElem hi] at this
   omega) _ (List.getElem_mem h)
  simpa [List.getD,List.getElem?_eq_getElem h] using this
 ·simp[List.getD,List.getElem?_eq_none (show(runsL zs).length<=j by omega)]
theorem varint_ri(x:Int)(w:World)(h0:0<=x)(h1:x<18446744073709551616):
 Calls Tryz.prog 26 #[.int .u64 x] w fun e w'=>∃a c,e= .returned (.slice a (vint x).length c)∧Ri w' .u8 a c (vint x)∧Below w.heap.size w w':=by
 refine(var_word x w h0 h1).mono ?_
 rintro e w' ⟨v,rfl,ho,hb⟩
 obtain⟨a,c,rfl,hr⟩:=Ri.own ho (fun j=>wf_mk_u8 (vint_u8 x h0 h1 j).1 (vint_u8 x h0 h1 j).2)
 exact⟨a,c,rfl,hr,hb⟩
set_option maxHeartbeats 3200000 in
set_option maxRecDepth 100000 in
theorem runs_word(a:Option Addr)(cap:Nat)(zs:List Int)(w:World)(hr:Ri w .i64 a cap zs)(hn:zs.length<=1000)(hz:∀j,0<=zs.getD j 0∧zs.getD j 0<=255):
 Calls Tryz.prog 25 #[.slice a zs.length cap] w fun e w'=>∃v,e= .returned v∧w'.ownsRow w.heap.size 5 1 v (runsL zs).length ((runsL zs).map (Value.int .u8))∧Below w.heap.size w w':=by
 obtain⟨i0,hi,hz0,hz1,hz2⟩:=info_parts Tryz.info5Z
 have HR:=hid hr
 have HZ:=hid hz
 have hroom:=hr.room
 obtain⟨len,hle⟩:∃n,n=zs.length:=⟨_,rfl⟩
 have HL:=hid hle
 rw[<-hle] at hn hroom|-
 clear hr hle hz
 go_enter Tryz.func25,Tryz.ntmps25
 go_wp2_with fail
 go_loopw [3,4,5] (fun v i _ wr=>∃(k f:Nat) (acc:List Int),k<=len∧i= .int .i64 (k:Int)∧Hid (len-k<=f)∧Hid (acc++runsF f (zs.drop k)=runsL zs)∧Hid (acc.length<=3*k)∧Hid (wr.ownsRow w.heap.size 5 1 v acc.length (acc.map (Value.int .u8)))∧Hid (Below w.heap.size w wr)) (fun _ i _ _=>len-(intOf i).toNat)
 case atStart=>exact⟨0,len,[],by omega,rfl,by show len-0<=len;omega,by rw[HL.out];rfl,by show 0<=3*0;omega,World.ownsRow_nil _ _ _ _,Below.refl _ _⟩
 case round=>
  obtain⟨k,f,acc,hk,rfl,HF,HACC,HAL,HO,HB⟩:=hrel
  by_cases hlt:k<len
  ·have hkl:(k:Int)<(len:Int):=by omega
   go_wp2_with fail
   go_loopw [5] (fun j wr2=>∃p:Nat,j= .int .i64 (p:Int)∧k<p∧p<=len∧Hid (∀q,k<q->q<p->zs.getD q 0=zs.getD k 0)∧Hid (wr2.ownsRow w.heap.size 5 1 u3 acc.length (acc.map (Value.int .u8)))∧Hid (Below w.heap.size w wr2)) (fun j _=>len-(intOf j).toNat)
   case atStart=>exact⟨k+1,by go_num,by omega,by omega,fun q h1 h2=>by omega,HO.out,HB.out⟩
   case round=>
    obtain⟨p,rfl,hp1,hp2,HS,HO2,HB2⟩:=hrel
    by_cases hpl:p<len
    ·have hpi:(p:Int)<(len:Int):=by omega
     obtain⟨b,off,rfl,hbw,hc⟩:=HR.out.cells (by rw[<-HL.out];omega)
     have cp:=(HB2.out.cell (p:=⟨b,off+p,none⟩) hbw).trans (hc p (by rw[<-HL.out];exact hpl))
     have ck:=(HB2.out.cell (p:=⟨b,off+k,none⟩) hbw).trans (hc k (by rw[<-HL.out];exact hlt))
     clear hc
     have HB3:=hid HB2.out.drew
     have HO3:=hid HO2.out.drew
     by_cases hq:zs.getD p 0=zs.getD k 0
     ·have HS2:Hid (∀q,k<q->q<p+1->zs.getD q 0=zs.getD k 0):=fun q h1 h2=>by
       by_cases e:q=p
       ·rw[e];exact hq
       ·exact HS.out q h1 (by omega)
      rw[hq] at cp
      clear HS hq HB2 HO2
      generalize zs.getD k 0=z at *
      go_wp2_with fail
      go_region
      clear cp ck
      generalize wr.drew=W at *
      go_wp2
      exact⟨⟨p+1,by go_num,by omega,by omega,HS2.out,HO3.out,HB3.out⟩,by simp[intOf];omega⟩
     ·have HEND:p=zs.length∨zs.getD p 0≠zs.getD k 0:=Or.inr hq
      have hqb:(zs.getD p 0==zs.getD k 0)=false:=by rw[beq_eq_false_iff_ne];exact hq
      clear hq
      clear HO2 HB2 HO HB
      have hzr:=HZ.out k
      have HST:=hid (runs_step zs k p (f-1) hp1 (by rw[<-HL.out];exact hp2) HS.out HEND)
      have HF1:Hid (f-1+1=f):=by show f-1+1=f;have:=HF.out;omega
      rw[HF1.out] at HST
      have HVI:=hid (fun W=>varint_ri ((p:Int)-(k:Int)) W (by omega) (by omega))
      have HVL:=hid (vint_short ((p:Int)-(k:Int)) (by omega) (by omega))
      have hpk:((p-k:Nat):Int)=(p:Int)-(k:Int):=by omega
      rw[hpk] at HST
      have HF2:Hid (len-p<=f-1):=by show len-p<=f-1;have:=HF.out;omega
      have hz256:zs.getD k 0%256=zs.getD k 0:=by omega
      have hal:=HAL.out
      clear hpk HF HF1 HEND HS
      generalize zs.getD p 0=y at *
      generalize zs.getD k 0=z at *
      have hz9:=hzr.1
      have hz8:=hzr.2
      clear hzr
      obtain⟨W,hW⟩:∃x,x=wr.drew:=⟨_,rfl⟩
      have HC0:Hid (W.cell? ⟨b,off+k,none⟩=some (.int .i64 z)):=by rw[hW];exact ck
      go_wp2_with fail
      go_region
      rw[<-hW] at HO3 HB3|-
      have ck2:=HC0.out
      clear cp ck hW HC0
      go_wp2_with (at_builtin;refine wpList_append_own _ rfl _ _ 24 rfl w.heap.size 5 i0 (.int .u8 0) 1 1 Tryz.underlying24 hi hz0 hz1 hz2 rfl (by decide) _ _ _ rfl (HO3.out.alloc _) ⟨W.heap.size,0,none⟩ 1 1 [.int .u8 z] rfl rfl ?c1 ?c2 ?c3 ?c4 ?c5 ?_)
      case c1=>
       intro j u hj
       match j,hj with
       | 0,hj=>simp at hj;subst hj;simp[Addr.add]
      case c2=>intro u hu;simp at hu;subst hu;rfl
      case c3=>unfold maxLen;omega
      case c4=>omega
      case c5=>have:=HB3.out.size;simp;omega
      intro v' w1 hown' hgrow _
      have R:=own_snocW HB3.out.size HO3.out HB3.out hown' hgrow
      have HO4:=hid R.1
      have HB4:=hid R.2
      clear hown' hgrow R HO3 HB3 ck2
      go_wp2_with fail
      go_at_call 26
      refine(HVI.out w1).mono ?_
      rintro _ w2 ⟨va,vc,rfl,hvr,hvb⟩
      have HO5:=hid (own_later2 HO4.out hvb)
      have HB5:=hid (Bn HB4.out hvb)
      have HVR:=hid hvr
      have hsz:=HB5.out.size
      clear hvb hvr HVI HO4 HB4
      generalize vint ((p:Int)-(k:Int))=vi at *
      have hbd:(acc++ [z]).length+vi.length<=10000000:=by have:=HVL.out;simp;omega
      go_wp2_with (at_builtin;refine app_any _ rfl _ _ rfl w.heap.size _ (acc++ [z]) rfl HO5.out va vc vi rfl HVR.out hbd hsz ?_)
      intro v' w3 hown' hgrow
      have HB6:=hid (HB5.out.grown hgrow (by omega) (fun j hj=>(HO5.out.lt j hj).1))
      have HO6:Hid (w3.ownsRow w.heap.size 5 1 v' (acc++ [z]++vi).length ((acc++ [z]++vi).map (Value.int .u8))):=by
       show World.ownsRow _ _ _ _ _ _ _
       have e1:(acc++ [z]++vi).length=acc.length+(vi.length+1):=by simp
       have e2:(acc++ [z]++vi).map (Value.int .u8)=acc.map (Value.int .u8)++Value.int .u8 z::vi.map (Value.int .u8):=by simp
       rw[e1,e2];exact hown'
      have HAC:Hid ((acc++ [z]++vi)++runsF (f-1) (zs.drop p)=runsL zs):=by show _=_;rw[<-HACC.out,HST.out];simp
      have HLE:Hid ((acc++ [z]++vi).length<=3*p):=by show _<=_;have:=HVL.out;simp;omega
      clear hgrow hown' HO5 HB5 HVR hbd HST HACC HVL HAL
      go_wp2
      exact⟨⟨p,f-1,acc++ [z]++vi,by omega,rfl,HF2.out,HAC.out,HLE.out,HO6.out,HB6.out⟩,by simp[intOf];omega⟩
    ·have HEND:p=zs.length∨zs.getD p 0≠zs.getD k 0:=Or.inl (by rw[<-HL.out];omega)
     have hpi:¬(p:Int)<(len:Int):=by omega
     obtain⟨b,off,rfl,hbw,hc⟩:=HR.out.cells (by rw[<-HL.out];omega)
     have ck:=(HB2.out.cell (p:=⟨b,off+k,none⟩) hbw).trans (hc k (by rw[<-HL.out];exact hlt))
     clear hc
     have HB3:=hid HB2.out.drew
     have HO3:=hid HO2.out.drew
     clear HO2 HB2 HO HB
     have hzr:=HZ.out k
     have HST:=hid (runs_step zs k p (f-1) hp1 (by rw[<-HL.out];exact hp2) HS.out HEND)
     have HF1:Hid (f-1+1=f):=by show f-1+1=f;have:=HF.out;omega
     rw[HF1.out] at HST
     have HVI:=hid (fun W=>varint_ri ((p:Int)-(k:Int)) W (by omega) (by omega))
     have HVL:=hid (vint_short ((p:Int)-(k:Int)) (by omega) (by omega))
     have hpk:((p-k:Nat):Int)=(p:Int)-(k:Int):=by omega
     rw[hpk] at HST
     have HF2:Hid (len-p<=f-1):=by show len-p<=f-1;have:=HF.out;omega
     have hz256:zs.getD k 0%256=zs.getD k 0:=by omega
     have hal:=HAL.out
     clear hpk HF HF1 HEND HS
     generalize zs.getD k 0=z at *
     have hz9:=hzr.1
     have hz8:=hzr.2
     clear hzr
     obtain⟨W,hW⟩:∃x,x=wr.drew:=⟨_,rfl⟩
     have HC0:Hid (W.cell? ⟨b,off+k,none⟩=some (.int .i64 z)):=by rw[hW];exact ck
     go_wp2_with fail
     go_region
     rw[<-hW] at HO3 HB3|-
     have ck2:=HC0.out
     clear ck hW HC0
     go_wp2_with (at_builtin;refine wpList_append_own _ rfl _ _ 24 rfl w.heap.size 5 i0 (.int .u8 0) 1 1 Tryz.underlying24 hi hz0 hz1 hz2 rfl (by decide) _ _ _ rfl (HO3.out.alloc _) ⟨W.heap.size,0,none⟩ 1 1 [.int .u8 z] rfl rfl ?d1 ?d2 ?d3 ?d4 ?d5 ?_)
     case d1=>
      intro j u hj
      match j,hj with
      | 0,hj=>simp at hj;subst hj;simp[Addr.add]
     case d2=>intro u hu;simp at hu;subst hu;rfl
     case d3=>unfold maxLen;omega
     case d4=>omega
     case d5=>have:=HB3.out.size;simp;omega
     intro v' w1 hown' hgrow _
     have R:=own_snocW HB3.out.size HO3.out HB3.out hown' hgrow
     have HO4:=hid R.1
     have HB4:=hid R.2
     clear hown' hgrow R HO3 HB3 ck2
     go_wp2_with fail
     go_at_call 26
     refine(HVI.out w1).mono ?_
     rintro _ w2 ⟨va,vc,rfl,hvr,hvb⟩
     have HO5:=hid (own_later2 HO4.out hvb)
     have HB5:=hid (Bn HB4.out hvb)
     have HVR:=hid hvr
     have hsz:=HB5.out.size
     clear hvb hvr HVI HO4 HB4
     generalize vint ((p:Int)-(k:Int))=vi at *
     have hbd:(acc++ [z]).length+vi.length<=10000000:=by have:=HVL.out;simp;omega
     go_wp2_with (at_builtin;refine app_any _ rfl _ _ rfl w.heap.size _ (acc++ [z]) rfl HO5.out va vc vi rfl HVR.out hbd hsz ?_)
     intro v' w3 hown' hgrow
     have HB6:=hid (HB5.out.grown hgrow (by omega) (fun j hj=>(HO5.out.lt j hj).1))
     have HO6:Hid (w3.ownsRow w.heap.size 5 1 v' (acc++ [z]++vi).length ((acc++ [z]++vi).map (Value.int .u8))):=by
      show World.ownsRow _ _ _ _ _ _ _
      have e1:(acc++ [z]++vi).length=acc.length+(vi.length+1):=by simp
      have e2:(acc++ [z]++vi).map (Value.int .u8)=acc.map (Value.int .u8)++Value.int .u8 z::vi.map (Value.int .u8):=by simp
      rw[e1,e2];exact hown'
     have HAC:Hid ((acc++ [z]++vi)++runsF (f-1) (zs.drop p)=runsL zs):=by show _=_;rw[<-HACC.out,HST.out];simp
     have HLE:Hid ((acc++ [z]++vi).length<=3*p):=by show _<=_;have:=HVL.out;simp;omega
     clear hgrow hown' HO5 HB5 HVR hbd HST HACC HVL HAL
     go_wp2
     exact⟨⟨p,f-1,acc++ [z]++vi,by omega,rfl,HF2.out,HAC.out,HLE.out,HO6.out,HB6.out⟩,by simp[intOf];omega⟩
  ·obtain rfl:k=len:=by omega
   have HE:Hid (acc=runsL zs):=by show _=_;rw[<-HACC.out,runs_done f zs k (by rw[<-HL.out];omega)];simp
   go_wp2
   go_ret
   exact⟨_,rfl,by rw[<-HE.out];exact HO.out,HB.out⟩
end Go.Proofs.YtelnefngkdfcoaaGreat
