/-
 The contracts of slices.IndexFunc and slices.ContainsFunc at the two predicates of huff, and of areCounts; the document's Counted.
-/
import Derived.Test.YtelnefngkdfcoaaGreatPart08
import Derived.Test.YtelnefngkdfcoaaGreatPart01
namespace Go.Proofs.YtelnefngkdfcoaaGreat
open Go.RowKit Hf
def wrongC(z:Int):Bool:=decide (z<0)||decide (1073741824<z)
def deepC(z:Int):Bool:=decide (15<z)
theorem wrong_word(z:Int)(w:World):Calls Tryz.prog 111 #[.int .i64 z] w fun e w'=>e= .returned (.bool (wrongC z))∧w'=w:=by
 by_cases h:z<0
 ·have e:wrongC z=true:=by simp[wrongC,h]
  rw[e]
  go_enter Tryz.func111,Tryz.ntmps111
  go_wp2
  go_ret
  exact⟨rfl,rfl⟩
 ·have e:wrongC z=decide (1073741824<z):=by simp[wrongC,h]
  rw[e]
  go_enter Tryz.func111,Tryz.ntmps111
  go_wp2
  go_ret
  exact⟨rfl,rfl⟩
theorem deepC_word(z:Int)(w:World):Calls Tryz.prog 92 #[.int .i64 z] w fun e w'=>e= .returned (.bool (deepC z))∧w'=w:=by
 unfold deepC
 go_enter Tryz.func92,Tryz.ntmps92
 go_wp2
 go_ret
 exact⟨rfl,rfl⟩
set_option maxHeartbeats 800000 in
theorem index_43(a:Option Addr)(cap:Nat)(zs:List Int)(w:World)(hr:Ri w .i64 a cap zs):
 Calls Tryz.prog 114 #[.slice a zs.length cap,.func (.func 111) #[] #[]] w fun e w'=>(∃r,e= .returned (.int .i64 r)∧(0<=r↔zs.any wrongC=true)∧ -1<=r)∧w'=w:=by
 have HR:=hid hr
 have hmax:=hr.most
 have hroom:=hr.room
 unfold maxLen at hmax
 obtain⟨len,hl⟩:∃n,n=zs.length:=⟨_,rfl⟩
 have HL:=hid hl
 rw[<-hl] at hroom|-
 clear hr hl
 go_enter Tryz.func114,Tryz.ntmps114
 go_wp2
 go_loop [8] (fun i=>∃k:Nat,k<=len∧i= .int .i64 k∧Hid (∀j,j<k->wrongC (zs.getD j 0)=false)) (fun i=>len-(intOf i).toNat)
 case atStart=>exact⟨0,by omega,rfl,fun j hj=>absurd hj (by omega)⟩
 case round=>
  obtain⟨k,hk,rfl,HA⟩:=hrel
  by_cases hlt:k<len
  ·have hkl:(k:Int)<(len:Int):=by omega
   have HZ:Hid (k<zs.length):=by show _<_;rw[<-HL.out];exact hlt
   obtain⟨b,off,rfl,hbw,hc⟩:=(HR.out).cells (by rw[<-HL.out];omega)
   have ck:=hc k HZ.out
   have HW:=hid (wrong_word (zs.getD k 0))
   clear hc
   cases hq:wrongC (zs.getD k 0) with
   | true=>
     have HQ:=hid hq
     rw[hq] at HW
     clear hq
     generalize hzz:zs.getD k 0=z at *
     have HZZ:=hid hzz
     clear hzz
     go_wp2_with fail
     refine(HW.out _).mono ?_
     rintro _ w1 ⟨rfl,hw⟩
     obtain rfl:=hw.symm
     clear hw
     go_wp2
     go_ret
     refine⟨⟨_,rfl,⟨fun _=>?_,fun _=>by omega⟩,by omega⟩,rfl⟩
     rw[List.any_eq_true]
     exact⟨zs.getD k 0,getD_mem zs k HZ.out,by rw[HZZ.out];exact HQ.out⟩
   | false=>
     have HQ:=hid hq
     rw[hq] at HW
     clear hq
     have HA2:Hid (∀j,j<k+1->wrongC (zs.getD j 0)=false):=fun j hj=>by
      by_cases e:j=k
      ·subst e;exact HQ.out
      ·exact HA.out j (by omega)
     generalize zs.getD k 0=z at *
     go_wp2_with fail
     refine(HW.out _).mono ?_
     rintro _ w1 ⟨rfl,hw⟩
     obtain rfl:=hw.symm
     clear hw
     go_wp2
     exact⟨⟨k+1,by omega,by go_num,HA2⟩,by simp[intOf];omega⟩
  ·obtain rfl:k=len:=by omega
   go_wp2
   go_ret
   refine⟨⟨_,rfl,⟨fun h=>absurd h (by decide),fun h=>?_⟩,by omega⟩,rfl⟩
   obtain⟨x,hx,hpx⟩:=h
   obtain⟨i,hi,rfl⟩:=List.getElem_of_mem hx
   have:=HA.out i (by rw[HL.out];exact hi)
   simp only[List.getD,List.getElem?_eq_getElem hi,Option.getD_some] at this
   rw[this] at hpx
   cases hpx
theorem contains_43(a:Option Addr)(cap:Nat)(zs:List Int)(w:World)(hr:Ri w .i64 a cap zs):
 Calls Tryz.prog 91 #[.slice a zs.length cap,.func (.func 111) #[] #[]] w fun e w'=>e= .returned (.bool (zs.any wrongC))∧w'=w:=by
 have HI:=hid (index_43 a cap zs w hr)
 clear hr
 generalize zs.any wrongC=q at *
 generalize zs.length=len at *
 go_enter Tryz.func91,Tryz.ntmps91
 go_wp2_with fail
 refine HI.out.mono ?_
 rintro _ w1 ⟨⟨r,rfl,hiff,hr1⟩,hw⟩
 obtain rfl:=hw.symm
 clear hw
 have HF:=hid hiff
 clear hiff
 go_wp2
 go_ret
 refine⟨?_,rfl⟩
 have:decide (0<=r)=q:=by
  have:=HF.out
  cases q
  ·simp at this|-;omega
  ·simp at this|-;omega
 rw[<-this];rfl
set_option maxHeartbeats 800000 in
theorem index_29(a:Option Addr)(cap:Nat)(zs:List Int)(w:World)(hr:Ri w .i64 a cap zs):
 Calls Tryz.prog 114 #[.slice a zs.length cap,.func (.func 92) #[] #[]] w fun e w'=>(∃r,e= .returned (.int .i64 r)∧(0<=r↔zs.any deepC=true)∧ -1<=r)∧w'=w:=by
 have HR:=hid hr
 have hmax:=hr.most
 have hroom:=hr.room
 unfold maxLen at hmax
 obtain⟨len,hl⟩:∃n,n=zs.length:=⟨_,rfl⟩
 have HL:=hid hl
 rw[<-hl] at hroom|-
 clear hr hl
 go_enter Tryz.func114,Tryz.ntmps114
 go_wp2
 go_loop [8] (fun i=>∃k:Nat,k<=len∧i= .int .i64 k∧Hid (∀j,j<k->deepC (zs.getD j 0)=false)) (fun i=>len-(intOf i).toNat)
 case atStart=>exact⟨0,by omega,rfl,fun j hj=>absurd hj (by omega)⟩
 case round=>
  obtain⟨k,hk,rfl,HA⟩:=hrel
  by_cases hlt:k<len
  ·have hkl:(k:Int)<(len:Int):=by omega
   have HZ:Hid (k<zs.length):=by show _<_;rw[<-HL.out];exact hlt
   obtain⟨b,off,rfl,hbw,hc⟩:=(HR.out).cells (by rw[<-HL.out];omega)
   have ck:=hc k HZ.out
   have HW:=hid (deepC_word (zs.getD k 0))
   clear hc
   cases hq:deepC (zs.getD k 0) with
   | true=>
     have HQ:=hid hq
     rw[hq] at HW
     clear hq
     generalize hzz:zs.getD k 0=z at *
     have HZZ:=hid hzz
     clear hzz
     go_wp2_with fail
     refine(HW.out _).mono ?_
     rintro _ w1 ⟨rfl,hw⟩
     obtain rfl:=hw.symm
     clear hw
     go_wp2
     go_ret
     refine⟨⟨_,rfl,⟨fun _=>?_,fun _=>by omega⟩,by omega⟩,rfl⟩
     rw[List.any_eq_true]
     exact⟨zs.getD k 0,getD_mem zs k HZ.out,by rw[HZZ.out];exact HQ.out⟩
   | false=>
     have HQ:=hid hq
     rw[hq] at HW
     clear hq
     have HA2:Hid (∀j,j<k+1->deepC (zs.getD j 0)=false):=fun j hj=>by
      by_cases e:j=k
      ·subst e;exact HQ.out
      ·exact HA.out j (by omega)
     generalize zs.getD k 0=z at *
     go_wp2_with fail
     refine(HW.out _).mono ?_
     rintro _ w1 ⟨rfl,hw⟩
     obtain rfl:=hw.symm
     clear hw
     go_wp2
     exact⟨⟨k+1,by omega,by go_num,HA2⟩,by simp[intOf];omega⟩
  ·obtain rfl:k=len:=by omega
   go_wp2
   go_ret
   refine⟨⟨_,rfl,⟨fun h=>absurd h (by decide),fun h=>?_⟩,by omega⟩,rfl⟩
   obtain⟨x,hx,hpx⟩:=h
   obtain⟨i,hi,rfl⟩:=List.getElem_of_mem hx
   have:=HA.out i (by rw[HL.out];exact hi)
   simp only[List.getD,List.getElem?_eq_getElem hi,Option.getD_some] at this
   rw[this] at hpx
   cases hpx
theorem contains_29(a:Option Addr)(cap:Nat)(zs:List Int)(w:World)(hr:Ri w .i64 a cap zs):
 Calls Tryz.prog 91 #[.slice a zs.length cap,.func (.func 92) #[] #[]] w fun e w'=>e= .returned (.bool (zs.any deepC))∧w'=w:=by
 have HI:=hid (index_29 a cap zs w hr)
 clear hr
 generalize zs.any deepC=q at *
 generalize zs.length=len at *
 go_enter Tryz.func91,Tryz.ntmps91
 go_wp2_with fail
 refine HI.out.mono ?_
 rintro _ w1 ⟨⟨r,rfl,hiff,hr1⟩,hw⟩
 obtain rfl:=hw.symm
 clear hw
 have HF:=hid hiff
 clear hiff
 go_wp2
 go_ret
 refine⟨?_,rfl⟩
 have:decide (0<=r)=q:=by
  have:=HF.out
  cases q
  ·simp at this|-;omega
  ·simp at this|-;omega
 rw[<-this];rfl
def areC(zs:List Int):Bool:=decide (zs.length<=512) && !(zs.any wrongC)
theorem are_word(a:Option Addr)(cap:Nat)(zs:List Int)(w:World)(hr:Ri w .i64 a cap zs):
 Calls Tryz.prog 88 #[.slice a zs.length cap] w fun e w'=>e= .returned (.bool (areC zs))∧w'=w:=by
 have HI:=hid (contains_43 a cap zs w hr)
 clear hr
 unfold areC
 generalize zs.any wrongC=q at *
 generalize zs.length=len at *
 by_cases h:len<=512
 ·have h':(len:Int)<=512:=by omega
  rw[decide_eq_true h]
  go_enter Tryz.func88,Tryz.ntmps88
  go_wp2_with fail
  refine HI.out.mono ?_
  rintro _ w1 ⟨rfl,hw⟩
  obtain rfl:=hw.symm
  clear hw
  go_wp2
  go_ret
  exact⟨rfl,rfl⟩
 ·have h':¬(len:Int)<=512:=by omega
  rw[decide_eq_false h]
  go_enter Tryz.func88,Tryz.ntmps88
  go_wp2
  go_ret
  exact⟨rfl,rfl⟩
end Go.Proofs.YtelnefngkdfcoaaGreat
/-
 The contracts of Cost, the code's and the document's, and of the document's Counted and Deep.
-/
namespace Go.Proofs.YtelnefngkdfcoaaGreat
open Go.RowKit Hf
theorem areC_bad(cs:List Int)(k:Nat)(hk:k<cs.length)(h:512<=k∨cs.getD k 0<0∨1073741824<cs.getD k 0):areC cs=false:=by
 unfold areC
 rcases h with h | h
 ·rw[decide_eq_false (by omega)];rfl
 ·have:cs.any wrongC=true:=by
   rw[List.any_eq_true]
   refine⟨_,getD_mem cs k hk,?_⟩
   unfold wrongC
   rw[Bool.or_eq_true,decide_eq_true_eq,decide_eq_true_eq];exact h
  rw[this];simp
theorem areC_good(cs:List Int)(h:∀k,k<cs.length->¬(512<=k∨cs.getD k 0<0∨1073741824<cs.getD k 0)):areC cs=true:=by
 unfold areC
 rw[Bool.and_eq_true,decide_eq_true_eq,Bool.not_eq_true']
 refine⟨?_,?_⟩
 ·by_cases hl:cs.length<=512
  ·exact hl
  ·exact absurd (Or.inl (by omega)) (h 512 (by omega))
 ·cases hq:cs.any wrongC with
  | false=>rfl
  | true=>
    rw[List.any_eq_true] at hq
    obtain⟨x,hx,hp⟩:=hq
    obtain⟨i,hi,rfl⟩:=List.getElem_of_mem hx
    have:=h i hi
    simp only[List.getD,List.getElem?_eq_getElem hi,Option.getD_some] at this
    unfold wrongC at hp
    rw[Bool.or_eq_true,decide_eq_true_eq,decide_eq_true_eq] at hp
    exact absurd (Or.inr hp) this
theorem areC_rng{cs:List Int}(h:areC cs=true):cs.length<=512∧∀k,0<=cs.getD k 0∧cs.getD k 0<=1073741824:=by
 unfold areC at h
 rw[Bool.and_eq_true,decide_eq_true_eq,Bool.not_eq_true'] at h
 refine⟨h.1,fun k=>?_⟩
 by_cases hk:k<cs.length
 ·have h2:=h.2
  rw[List.any_eq_false] at h2
  have:=h2 _ (getD_mem cs k hk)
  unfold wrongC at this
  rw[Bool.or_eq_true,decide_eq_true_eq,decide_eq_true_eq] at this
  omega
 ·rw[getD_out cs k (by omega)];omega
theorem len_rng{zs:List Int}(h:checkB zs=true):zs.length<=512∧∀k,0<=zs.getD k 0∧zs.getD k 0<=15:=by
 unfold checkB at h
 rw[Bool.and_eq_true] at h
 refine⟨(lenOk_all h.1).1,fun k=>?_⟩
 by_cases hk:k<zs.length
 ·exact(lenOk_all h.1).2 _ (getD_mem zs k hk)
 ·rw[getD_out zs k (by omega)];omega
end Go.Proofs.YtelnefngkdfcoaaGreat
/-
 The contracts of cmp.Compare, of the comparison by counts, and of slices' insertion sort.
-/
namespace Go.Proofs.YtelnefngkdfcoaaGreat
open Go.RowKit Hf
theorem nan_word(x:Int)(w:World):Calls Tryz.prog 125 #[.int .i64 x] w fun e w'=>e= .returned (.bool false)∧w'=w:=by
 have h:(x != x)=false:=by simp
 go_enter Tryz.func125,Tryz.ntmps125
 go_wp2
 go_ret
 exact⟨rfl,rfl⟩
def cmpI(x y:Int):Int:=if x<y then -1 else if y<x then 1 else 0
theorem cmpI_neg(x y:Int):cmpI x y<0↔x<y:=by
 unfold cmpI;split
 ·simp[*]
 ·split<;>simp[*]
theorem compare_word(x y:Int)(w:World):Calls Tryz.prog 120 #[.int .i64 x,.int .i64 y] w fun e w'=>e= .returned (.int .i64 (cmpI x y))∧w'=w:=by
 have H1:=hid (nan_word x w)
 have H2:=hid (nan_word y w)
 by_cases h1:x<y
 ·have e:cmpI x y= -1:=by unfold cmpI;rw[if_pos h1]
  rw[e]
  go_enter Tryz.func120,Tryz.ntmps120
  go_wp2_with fail
  refine H1.out.mono ?_
  rintro _ w1 ⟨rfl,hw⟩
  obtain rfl:=hw.symm
  clear hw
  go_wp2_with fail
  refine H2.out.mono ?_
  rintro _ w1 ⟨rfl,hw⟩
  obtain rfl:=hw.symm
  clear hw
  go_wp2
  go_ret
  exact⟨rfl,rfl⟩
 ·by_cases h2:y<x
  ·have e:cmpI x y=1:=by unfold cmpI;rw[if_neg h1,if_pos h2]
   rw[e]
   go_enter Tryz.func120,Tryz.ntmps120
   go_wp2_with fail
   refine H1.out.mono ?_
   rintro _ w1 ⟨rfl,hw⟩
   obtain rfl:=hw.symm
   clear hw
   go_wp2_with fail
   refine H2.out.mono ?_
   rintro _ w1 ⟨rfl,hw⟩
   obtain rfl:=hw.symm
   clear hw
   go_wp2
   go_ret
   exact⟨rfl,rfl⟩
  ·have e:cmpI x y=0:=by unfold cmpI;rw[if_neg h1,if_neg h2]
   rw[e]
   go_enter Tryz.func120,Tryz.ntmps120
   go_wp2_with fail
   refine H1.out.mono ?_
   rintro _ w1 ⟨rfl,hw⟩
   obtain rfl:=hw.symm
   clear hw
   go_wp2_with fail
   refine H2.out.mono ?_
   rintro _ w1 ⟨rfl,hw⟩
   obtain rfl:=hw.symm
   clear hw
   go_wp2
   go_ret
   exact⟨rfl,rfl⟩
structure Cts (w:World) (gb gs:Nat) (gc oc cap:Nat) (cs:List Int):Prop where
 box:w.cell? ⟨gb,0,none⟩=some (.slice (some ⟨gc,oc,none⟩) cs.length cap)
 cells:∀j,j<cs.length->w.cell? ⟨gc,oc+j,none⟩=some (.int .i64 (cs.getD j 0))
 small:cs.length<=1000000
 ne1:gb≠gs
 ne2:gc≠gs
theorem Cts.kept{w w':World}{gb gs gc oc cap:Nat}{cs:List Int}(h:Cts w gb gs gc oc cap cs)(hg:w.grownBy w' (some gs)):Cts w' gb gs gc oc cap cs:=
 ⟨hg.cell h.box (by simp;exact h.ne1),fun j hj=>hg.cell (h.cells j hj) (by simp;exact h.ne2),h.small,h.ne1,h.ne2⟩
set_option maxHeartbeats 800000 in
set_option maxRecDepth 100000 in
theorem cmp_word(i j:Nat)(gb gs gc oc cap:Nat)(cs:List Int)(w:World)(h:Cts w gb gs gc oc cap cs)(hi:i<cs.length)(hj:j<cs.length):
 Calls Tryz.prog 119 #[.int .i64 (i:Int),.int .i64 (j:Int),.pointer (some ⟨gb,0,none⟩)] w fun e w'=>e= .returned (.int .i64 (cmpI (key cs (i:Int)) (key cs (j:Int))))∧w'=w.drew:=by
 have c0:=h.box
 have c1:=h.cells i hi
 have c2:=h.cells j hj
 have hsm:=h.small
 have e1:key cs (i:Int)=cs.getD i 0:=by unfold key;rw[Int.toNat_natCast]
 have e2:key cs (j:Int)=cs.getD j 0:=by unfold key;rw[Int.toNat_natCast]
 rw[e1,e2]
 clear h e1 e2
 generalize cs.getD i 0=x at *
 generalize cs.getD j 0=y at *
 generalize cs.length=len at *
 have HC:=hid (compare_word x y w.drew)
 generalize cmpI x y=z at *
 have hi':(i:Int)<(len:Int):=by omega
 have hj':(j:Int)<(len:Int):=by omega
 go_enter Tryz.func119,Tryz.ntmps119
 go_wp2_with fail
 refine wp_region_held_drew (S:=fun W=>W.cell? ⟨gb,0,none⟩=some (.slice (some ⟨gc,oc,none⟩) len cap)∧W.cell? ⟨gc,oc+i,none⟩=some (.int .i64 x)∧W.cell? ⟨gc,oc+j,none⟩=some (.int .i64 y)) (by kernel_rfl) ⟨c0,c1,c2⟩ (fun hS=>?_)
 refine Ord.take (i:=0) (d:=6) (v:= .slice (some ⟨gc,oc,none⟩) len cap) rfl rfl (by as_aux_lemma=>kernel_rfl) (by as_aux_lemma=>kernel_rfl) (by as_aux_lemma=>kernel_rfl) (fun _ _ _ h=>h) (by rfl) ?h0 (by assumption) ?_
 case h0=>intro w hSw;have e:=hSw.1;go_simp;try with_reducible rfl
 simp only[List.setIfInBounds_toArray,List.set_cons_zero,List.set_cons_succ]
 refine Ord.take (i:=1) (d:=7) (v:=?v1) rfl rfl (by as_aux_lemma=>kernel_rfl) (by as_aux_lemma=>kernel_rfl) (by as_aux_lemma=>kernel_rfl) (fun _ _ _ h=>h) (by rfl) ?h1 (by assumption) ?_
 case h1=>intro w hSw;go_simp;try with_reducible rfl
 simp only[List.setIfInBounds_toArray,List.set_cons_zero,List.set_cons_succ]
 refine Ord.take (i:=2) (d:=8) (v:=?v2) rfl rfl (by as_aux_lemma=>kernel_rfl) (by as_aux_lemma=>kernel_rfl) (by as_aux_lemma=>kernel_rfl) (fun _ _ _ h=>h) (by rfl) ?h2 (by assumption) ?_
 case h2=>intro w hSw;go_simp;try with_reducible rfl
 simp only[List.setIfInBounds_toArray,List.set_cons_zero,List.set_cons_succ]
 refine Ord.take (i:=3) (d:=9) (v:= .int .i64 x) rfl rfl (by as_aux_lemma=>kernel_rfl) (by as_aux_lemma=>kernel_rfl) (by as_aux_lemma=>kernel_rfl) (fun _ _ _ h=>h) (by rfl) ?h3 (by assumption) ?_
 case h3=>intro w hSw;have e:=hSw.2.1;go_simp;try with_reducible rfl
 simp only[List.setIfInBounds_toArray,List.set_cons_zero,List.set_cons_succ]
 refine Ord.take (i:=4) (d:=10) (v:= .slice (some ⟨gc,oc,none⟩) len cap) rfl rfl (by as_aux_lemma=>kernel_rfl) (by as_aux_lemma=>kernel_rfl) (by as_aux_lemma=>kernel_rfl) (fun _ _ _ h=>h) (by rfl) ?h4 (by assumption) ?_
 case h4=>intro w hSw;have e:=hSw.1;go_simp;try with_reducible rfl
 simp only[List.setIfInBounds_toArray,List.set_cons_zero,List.set_cons_succ]
 refine Ord.take (i:=5) (d:=11) (v:=?v5) rfl rfl (by as_aux_lemma=>kernel_rfl) (by as_aux_lemma=>kernel_rfl) (by as_aux_lemma=>kernel_rfl) (fun _ _ _ h=>h) (by rfl) ?h5 (by assumption) ?_
 case h5=>intro w hSw;go_simp;try with_reducible rfl
 simp only[List.setIfInBounds_toArray,List.set_cons_zero,List.set_cons_succ]
 refine Ord.take (i:=6) (d:=12) (v:=?v6) rfl rfl (by as_aux_lemma=>kernel_rfl) (by as_aux_lemma=>kernel_rfl) (by as_aux_lemma=>kernel_rfl) (fun _ _ _ h=>h) (by rfl) ?h6 (by assumption) ?_
 case h6=>intro w hSw;go_simp;try with_reducible rfl
 simp only[List.setIfInBounds_toArray,List.set_cons_zero,List.set_cons_succ]
 refine Ord.take (i:=7) (d:=13) (v:= .int .i64 y) rfl rfl (by as_aux_lemma=>kernel_rfl) (by as_aux_lemma=>kernel_rfl) (by as_aux_lemma=>kernel_rfl) (fun _ _ _ h=>h) (by rfl) ?h7 (by assumption) ?_
 case h7=>intro w hSw;have e:=hSw.2.2;go_simp;try with_reducible rfl
 simp only[List.setIfInBounds_toArray,List.set_cons_zero,List.set_cons_succ]
 refine wpAnyH_ready (rs:= [8]) (by as_aux_lemma=>kernel_rfl) (by simp) (AllReadyH.cons rfl (fun K hK=>?_) AllReadyH.nil)
 go_simp
 refine HC.out.mono ?_
 rintro _ w1 ⟨rfl,hw⟩
 obtain rfl:=hw.symm
 clear hw
 refine hK.out _ _ hS (fun _=>?_)
 clear hK K
 refine Ord.take (i:=9) (d:=5) (v:=?v9) rfl rfl (by as_aux_lemma=>kernel_rfl) (by as_aux_lemma=>kernel_rfl) (by as_aux_lemma=>kernel_rfl) (fun _ _ _ h=>h) (by rfl) ?h9 (by assumption) ?_
 case h9=>intro w hSw;go_simp;try with_reducible rfl
 simp only[List.setIfInBounds_toArray,List.set_cons_zero,List.set_cons_succ]
 refine wpAnyH_done (by as_aux_lemma=>kernel_rfl) ?_ _
 go_wp2
 go_ret
 exact⟨rfl,rfl⟩
end Go.Proofs.YtelnefngkdfcoaaGreat
/-
 The contract of slices' insertion sort, by counts.
-/
namespace Go.Proofs.YtelnefngkdfcoaaGreat
open Go.RowKit Hf
theorem grown_drew{w w1:World}{r:Option Nat}(h:w.grownBy w1 r):w.grownBy w1.drew r:=⟨h.os,h.tape,h.output,h.size,h.block⟩
theorem grown_trans{w w1 w2:World}{g:Nat}(h:w.grownBy w1 (some g))(h2:w1.grownBy w2 (some g)):w.grownBy w2 (some g):=
 ⟨h2.os.trans h.os,h2.tape.trans h.tape,h2.output.trans h.output,Nat.le_trans h.size h2.size,fun k hk hne=>(h2.block k (Nat.lt_of_lt_of_le hk h.size) hne).trans (h.block k hk hne)⟩
theorem own_cell{w:World}{B g n cap e:Nat}{X:List Int}(h:w.ownsRow B e 1 (.slice (some ⟨g,0,none⟩) n cap) n (X.map (Value.int .i64)))(hl:X.length=n)(j:Nat)(hj:j<n):w.cell? ⟨g,j,none⟩=some (.int .i64 (X.getD j 0)):=by
 rw[h.cellAt j (by omega),List.getElem?_map]
 simp[List.getD,List.getElem?_eq_getElem (show j<X.length from by omega)]
theorem own_swap{w:World}{B g n cap e:Nat}{X:List Int}(h:w.ownsRow B e 1 (.slice (some ⟨g,0,none⟩) n cap) n (X.map (Value.int .i64)))(i j:Nat):
 ((w.setCell ⟨g,i,none⟩ (.int .i64 (X.getD j 0))).setCell ⟨g,j,none⟩ (.int .i64 (X.getD i 0))).ownsRow B e 1 (.slice (some ⟨g,0,none⟩) n cap) n ((swapL X i j).map (Value.int .i64))∧w.grownBy ((w.setCell ⟨g,i,none⟩ (.int .i64 (X.getD j 0))).setCell ⟨g,j,none⟩ (.int .i64 (X.getD i 0))) (some g):=by
 have h1:=h.stored i (.int .i64 (X.getD j 0))
 have h2:=h1.1.stored j (.int .i64 (X.getD i 0))
 refine⟨?_,grown_trans h1.2 h2.2⟩
 have e2:(swapL X i j).map (Value.int .i64)=((X.map (Value.int .i64)).set i (.int .i64 (X.getD j 0))).set j (.int .i64 (X.getD i 0)):=by
  unfold swapL;rw[List.map_set,List.map_set]
 rw[e2];exact h2.1
set_option maxHeartbeats 3200000 in
set_option maxRecDepth 100000 in
theorem ins_word(a b n cap B gb gs gc oc capc:Nat)(cs o:List Int)(w:World)(hcts:Cts w gb gs gc oc capc cs)(hab:a<=b)(hb:b<=n)(hn:n<=100000)(hl:o.length=n)
 (hown:w.ownsRow B 3 1 (.slice (some ⟨gs,0,none⟩) n cap) n (o.map (Value.int .i64))) (_hcap:n<=cap) (ho:∀u∈o,0<=u∧u<(cs.length:Int)) (hinc:∀p q,a<=p->p<q->q<b->o.getD p 0<o.getD q 0) :
 Calls Tryz.prog 126 #[.slice (some ⟨gs,0,none⟩) n cap,.int .i64 (a:Int),.int .i64 (b:Int),.func (.func 119) #[] #[.pointer (some ⟨gb,0,none⟩)]] w fun e w'=>e= .returned (.tuple #[])∧(∃X,Sorted cs a b o X∧w'.ownsRow B 3 1 (.slice (some ⟨gs,0,none⟩) n cap) n (X.map (Value.int .i64)))∧w.grownBy w' (some gs):=by
 have HO:=hid hown
 have HCT:=hid hcts
 have HOO:=hid ho
 have HIN:=hid hinc
 have HL:=hid hl
 have HEMP:Hid (b<=a+1->Sorted cs a b o o):=fun h=>⟨List.Perm.refl _,fun _ _=>rfl,fun p q h1 h2 h3=>by omega⟩
 clear hown hcts ho hinc hl
 go_enter Tryz.func126,Tryz.ntmps126
 go_wp2
 go_loopw [8] (fun y wr=>∃(i:Nat) (X:List Int),y= .int .i64 i∧a<i∧(i<=b∨i=a+1)∧Hid (InsO cs a b i o X)∧Hid (wr.ownsRow B 3 1 (.slice (some ⟨gs,0,none⟩) n cap) n (X.map (Value.int .i64)))∧Hid (w.grownBy wr (some gs))∧Hid (i=a+1->X=o)) (fun y _=>b+1-(intOf y).toNat)
 case atStart=>exact⟨a+1,o,by go_num,by omega,by omega,InsO.start cs a b o HIN.out,HO.out,World.grownBy.refl _ _,fun _=>rfl⟩
 case round=>
  clear HO
  obtain⟨i,X,rfl,hai,hib,HI,HO,HG,HEQ⟩:=hrel
  by_cases hlt:i<b
  ·have hltz:(i:Int)<(b:Int):=by omega
   have HJ0:=hid (InsO.begin HI.out (by omega) hlt HIN.out)
   clear HI
   go_wp2_with fail
   go_loopw [9] (fun y wr=>∃(j:Nat) (Y:List Int),y= .int .i64 j∧a<=j∧j<=i∧Hid (InsJ cs a b i j o Y)∧Hid (wr.ownsRow B 3 1 (.slice (some ⟨gs,0,none⟩) n cap) n (Y.map (Value.int .i64)))∧Hid (w.grownBy wr (some gs))) (fun y _=>(intOf y).toNat)
   case atStart=>exact⟨i,X,rfl,by omega,Nat.le_refl _,HJ0,HO,HG⟩
   case round=>
    clear HJ0 HO HG
    obtain⟨j,Y,rfl,haj,hji,HJ,HO,HG⟩:=hrel
    have HYL:Hid (Y.length=n):=by show _=_;rw[HJ.out.perm.length_eq,HL.out]
    have HYE:Hid (∀p,p<n->∃u:Nat,Y.getD p 0=(u:Int)∧u<cs.length):=fun p hp=>by
     have hm:Y.getD p 0∈o:=HJ.out.perm.subset (getD_mem Y p (by rw[HYL.out];exact hp))
     have:=HOO.out _ hm
     exact⟨(Y.getD p 0).toNat,by omega,by omega⟩
    by_cases hja:a<j
    ·obtain⟨jp,rfl⟩:∃jp,j=jp+1:=⟨j-1,by omega⟩
     obtain⟨u,hu,hul⟩:=HYE.out (jp+1) (by omega)
     obtain⟨v,hv,hvl⟩:=HYE.out jp (by omega)
     have c1:=own_cell HO.out HYL.out (jp+1) (by omega)
     have c2:=own_cell HO.out HYL.out jp (by omega)
     rw[hu] at c1
     rw[hv] at c2
     have HC:Hid (∀W,W=wr.drew->Calls Tryz.prog 119 #[.int .i64 (u:Int),.int .i64 (v:Int),.pointer (some ⟨gb,0,none⟩)] W fun e w'=>e= .returned (.int .i64 (cmpI (key cs (u:Int)) (key cs (v:Int))))∧w'=W.drew):=fun W hW=>by
      subst hW
      exact cmp_word u v gb gs gc oc capc cs _ (HCT.out.kept (grown_drew HG.out)) hul hvl
     have HWR:Hid (IntKind.i64.wrap (jp:Int)=(jp:Int)):=by show _=_;rw[IntKind.wrap_i64];omega
     have f1:=HO.out.frozenAt (jp+1)
     have f2:=HO.out.frozenAt jp
     have hjn:(jp:Int)+1<(n:Int):=by omega
     have hjz:(a:Int)<(jp:Int)+1:=by omega
     have hj0:(0:Int)<=(jp:Int)+1:=by omega
     have hjpn:jp<n:=by omega
     by_cases hk:key cs (u:Int)<key cs (v:Int)
     ·have HN:Hid (decide (cmpI (key cs (u:Int)) (key cs (v:Int))<0)=true):=decide_eq_true ((cmpI_neg _ _).2 hk)
      have hneg:cmpI (key cs (u:Int)) (key cs (v:Int))<0:=(cmpI_neg _ _).2 hk
      have hnew:=InsJ.swap HJ.out (by omega) (by omega) (by rw[HYL.out];omega) (by rw[hu,hv];exact hk)
      have HNEW:=hid hnew
      have hsw:=own_swap HO.out (jp+1) jp
      rw[hu,hv] at hsw
      have HSW:=hid hsw
      clear hnew hsw hu hv hk HJ HYE HYL
      generalize cmpI (key cs (u:Int)) (key cs (v:Int))=z at *
      go_wp2_with fail
      refine wp_region_held_drew (S:=fun W=>W.cell? ⟨gs,jp+1,none⟩=some (.int .i64 (u:Int))∧W.cell? ⟨gs,jp,none⟩=some (.int .i64 (v:Int))) (by kernel_rfl) ⟨c1,c2⟩ (fun hS=>?_)
      refine Ord.take (i:=0) (d:=18) (v:=?v0) rfl rfl (by as_aux_lemma=>kernel_rfl) (by as_aux_lemma=>kernel_rfl) (by as_aux_lemma=>kernel_rfl) (fun _ _ _ h=>h) (by rfl) ?h0 (by assumption) ?_
      case h0=>intro w hSw;go_simp;try with_reducible rfl
      simp only[List.setIfInBounds_toArray,List.set_cons_zero,List.set_cons_succ]
      refine Ord.take (i:=1) (d:=19) (v:=?v1) rfl rfl (by as_aux_lemma=>kernel_rfl) (by as_aux_lemma=>kernel_rfl) (by as_aux_lemma=>kernel_rfl) (fun _ _ _ h=>h) (by rfl) ?h1 (by assumption) ?_
      case h1=>intro w hSw;go_simp;try with_reducible rfl
      simp only[List.setIfInBounds_toArray,List.set_cons_zero,List.set_cons_succ]
      refine Ord.take (i:=2) (d:=20) (v:= .bool true) rfl rfl (by as_aux_lemma=>kernel_rfl) (by as_aux_lemma=>kernel_rfl) (by as_aux_lemma=>kernel_rfl) (fun _ _ _ h=>h) (by rfl) ?h2 (by assumption) ?_
      case h2=>intro w hSw;go_simp;try with_reducible rfl
      simp only[List.setIfInBounds_toArray,List.set_cons_zero,List.set_cons_succ]
      refine Ord.take (i:=3) (d:=21) (v:=?v3) rfl rfl (by as_aux_lemma=>kernel_rfl) (by as_aux_lemma=>kernel_rfl) (by as_aux_lemma=>kernel_rfl) (fun _ _ _ h=>h) (by rfl) ?h3 (by assumption) ?_
      case h3=>intro w hSw;go_simp;try with_reducible rfl
      simp only[List.setIfInBounds_toArray,List.set_cons_zero,List.set_cons_succ]
      refine Ord.take (i:=4) (d:=22) (v:=?v4) rfl rfl (by as_aux_lemma=>kernel_rfl) (by as_aux_lemma=>kernel_rfl) (by as_aux_lemma=>kernel_rfl) (fun _ _ _ h=>h) (by rfl) ?h4 (by assumption) ?_
      case h4=>intro w hSw;go_simp;try with_reducible rfl
      simp only[List.setIfInBounds_toArray,List.set_cons_zero,List.set_cons_succ]
      refine Ord.take (i:=5) (d:=23) (v:=?v5) rfl rfl (by as_aux_lemma=>kernel_rfl) (by as_aux_lemma=>kernel_rfl) (by as_aux_lemma=>kernel_rfl) (fun _ _ _ h=>h) (by rfl) ?h5 (by assumption) ?_
      case h5=>intro w hSw;go_simp;try with_reducible rfl
      simp only[List.setIfInBounds_toArray,List.set_cons_zero,List.set_cons_succ]
      refine Ord.take (i:=6) (d:=24) (v:=?v6) rfl rfl (by as_aux_lemma=>kernel_rfl) (by as_aux_lemma=>kernel_rfl) (by as_aux_lemma=>kernel_rfl) (fun _ _ _ h=>h) (by rfl) ?h6 (by assumption) ?_
      case h6=>intro w hSw;go_simp;try with_reducible rfl
      simp only[List.setIfInBounds_toArray,List.set_cons_zero,List.set_cons_succ]
      refine Ord.take (i:=7) (d:=25) (v:=?v7) rfl rfl (by as_aux_lemma=>kernel_rfl) (by as_aux_lemma=>kernel_rfl) (by as_aux_lemma=>kernel_rfl) (fun _ _ _ h=>h) (by rfl) ?h7 (by assumption) ?_
      case h7=>intro w hSw;go_simp;try with_reducible rfl
      simp only[List.setIfInBounds_toArray,List.set_cons_zero,List.set_cons_succ]
      refine Ord.take (i:=8) (d:=26) (v:= .int .i64 (u:Int)) rfl rfl (by as_aux_lemma=>kernel_rfl) (by as_aux_lemma=>kernel_rfl) (by as_aux_lemma=>kernel_rfl) (fun _ _ _ h=>h) (by rfl) ?h8 (by assumption) ?_
      case h8=>intro w hSw;have e:=hSw.1;go_simp;try with_reducible rfl
      simp only[List.setIfInBounds_toArray,List.set_cons_zero,List.set_cons_succ]
      refine Ord.take (i:=9) (d:=27) (v:=?v9) rfl rfl (by as_aux_lemma=>kernel_rfl) (by as_aux_lemma=>kernel_rfl) (by as_aux_lemma=>kernel_rfl) (fun _ _ _ h=>h) (by rfl) ?h9 (by assumption) ?_
      case h9=>intro w hSw;go_simp;try with_reducible rfl
      simp only[List.setIfInBounds_toArray,List.set_cons_zero,List.set_cons_succ]
      refine Ord.take (i:=10) (d:=28) (v:=?v10) rfl rfl (by as_aux_lemma=>kernel_rfl) (by as_aux_lemma=>kernel_rfl) (by as_aux_lemma=>kernel_rfl) (fun _ _ _ h=>h) (by rfl) ?h10 (by assumption) ?_
      case h10=>intro w hSw;go_simp;try with_reducible rfl
      simp only[List.setIfInBounds_toArray,List.set_cons_zero,List.set_cons_succ]
      refine Ord.take (i:=11) (d:=29) (v:= .int .i64 (jp:Int)) rfl rfl (by as_aux_lemma=>kernel_rfl) (by as_aux_lemma=>kernel_rfl) (by as_aux_lemma=>kernel_rfl) (fun _ _ _ h=>h) (by rfl) ?h11 (by assumption) ?_
      case h11=>intro w hSw;go_simp;exact HWR.out
      simp only[List.setIfInBounds_toArray,List.set_cons_zero,List.set_cons_succ]
      refine Ord.take (i:=12) (d:=30) (v:=?v12) rfl rfl (by as_aux_lemma=>kernel_rfl) (by as_aux_lemma=>kernel_rfl) (by as_aux_lemma=>kernel_rfl) (fun _ _ _ h=>h) (by rfl) ?h12 (by assumption) ?_
      case h12=>intro w hSw;go_simp;try with_reducible rfl
      simp only[List.setIfInBounds_toArray,List.set_cons_zero,List.set_cons_succ]
      refine Ord.take (i:=13) (d:=31) (v:= .int .i64 (v:Int)) rfl rfl (by as_aux_lemma=>kernel_rfl) (by as_aux_lemma=>kernel_rfl) (by as_aux_lemma=>kernel_rfl) (fun _ _ _ h=>h) (by rfl) ?h13 (by assumption) ?_
      case h13=>intro w hSw;have e:=hSw.2;go_simp;try with_reducible rfl
      simp only[List.setIfInBounds_toArray,List.set_cons_zero,List.set_cons_succ]
      refine wpAnyH_ready (rs:= [14]) (by as_aux_lemma=>kernel_rfl) (by simp) (AllReadyH.cons rfl (fun K hK=>?_) AllReadyH.nil)
      go_simp
      refine(HC.out _ rfl).mono ?_
      rintro _ w1 ⟨rfl,hw⟩
      obtain rfl:=hw.symm
      clear hw
      refine hK.out _ _ ⟨c1,c2⟩ (fun _=>?_)
      clear hK K
      refine Ord.take (i:=15) (d:=33) (v:= .bool true) rfl rfl (by as_aux_lemma=>kernel_rfl) (by as_aux_lemma=>kernel_rfl) (by as_aux_lemma=>kernel_rfl) (fun _ _ _ h=>h) (by rfl) ?h15 (by assumption) ?_
      case h15=>intro w hSw;go_simp;try with_reducible rfl
      simp only[List.setIfInBounds_toArray,List.set_cons_zero,List.set_cons_succ]
      refine Ord.take (i:=16) (d:=34) (v:= .bool true) rfl rfl (by as_aux_lemma=>kernel_rfl) (by as_aux_lemma=>kernel_rfl) (by as_aux_lemma=>kernel_rfl) (fun _ _ _ h=>h) (by rfl) ?h16 (by assumption) ?_
      case h16=>intro w hSw;go_simp;try with_reducible rfl
      simp only[List.setIfInBounds_toArray,List.set_cons_zero,List.set_cons_succ]
      refine wpAnyH_done (by as_aux_lemma=>kernel_rfl) ?_ _
      have HSW2:Hid (∀W,W=wr.drew.drew->((W.setCell ⟨gs,jp+1,none⟩ (.int .i64 (v:Int))).setCell ⟨gs,jp,none⟩ (.int .i64 (u:Int))).drew.ownsRow B 3 1 (.slice (some ⟨gs,0,none⟩) n cap) n ((swapL Y (jp+1) jp).map (Value.int .i64))∧w.grownBy ((W.setCell ⟨gs,jp+1,none⟩ (.int .i64 (v:Int))).setCell ⟨gs,jp,none⟩ (.int .i64 (u:Int))).drew (some gs)):=by
       intro W hW
       subst hW
       refine⟨HSW.out.1,?_⟩
       have h1:=HSW.out.2
       exact⟨h1.os.trans HG.out.os,h1.tape.trans HG.out.tape,h1.output.trans HG.out.output,Nat.le_trans HG.out.size h1.size,fun k hk hne=>(h1.block k (Nat.lt_of_lt_of_le hk HG.out.size) hne).trans (HG.out.block k hk hne)⟩
      have d1:wr.drew.drew.cell? ⟨gs,jp+1,none⟩=some (.int .i64 (u:Int)):=c1
      have d2:wr.drew.drew.cell? ⟨gs,jp,none⟩=some (.int .i64 (v:Int)):=c2
      have e1:wr.drew.drew.frozen? ⟨gs,jp+1,none⟩=false:=f1
      have e2:wr.drew.drew.frozen? ⟨gs,jp,none⟩=false:=f2
      clear c1 c2 f1 f2 hS HC HSW
      have HSW3:=hid (HSW2.out _ rfl)
      clear HSW2 HG HO
      generalize wr.drew.drew=W2 at *
      go_wp2_with fail
      go_region
      clear d1 d2 e1 e2
      generalize ((W2.setCell ⟨gs,jp+1,none⟩ (.int .i64 (v:Int))).setCell ⟨gs,jp,none⟩ (.int .i64 (u:Int))).drew=W3 at *
      go_wp2
      go_roundw
      case rel=>exact⟨jp,swapL Y (jp+1) jp,by go_num,by omega,by omega,HNEW,HSW3.out.1,HSW3.out.2⟩
      case measure=>simp[intOf]
     ·have HN:Hid (decide (cmpI (key cs (u:Int)) (key cs (v:Int))<0)=false):=decide_eq_false (fun h=>hk ((cmpI_neg _ _).1 h))
      have hneg:0<=cmpI (key cs (u:Int)) (key cs (v:Int)):=by have:=of_decide_eq_false HN.out;omega
      have HD:=hid (InsJ.done HJ.out (by omega) hji (Or.inr (by rw[show jp+1-1=jp from rfl,hu,hv];exact hk)))
      clear hu hv hk HJ HYE HYL
      generalize cmpI (key cs (u:Int)) (key cs (v:Int))=z at *
      go_wp2_with fail
      refine wp_region_held_drew (S:=fun W=>W.cell? ⟨gs,jp+1,none⟩=some (.int .i64 (u:Int))∧W.cell? ⟨gs,jp,none⟩=some (.int .i64 (v:Int))) (by kernel_rfl) ⟨c1,c2⟩ (fun hS=>?_)
      refine Ord.take (i:=0) (d:=18) (v:=?v0b) rfl rfl (by as_aux_lemma=>kernel_rfl) (by as_aux_lemma=>kernel_rfl) (by as_aux_lemma=>kernel_rfl) (fun _ _ _ h=>h) (by rfl) ?h0 (by assumption) ?_
      case h0=>intro w hSw;go_simp;try with_reducible rfl
      simp only[List.setIfInBounds_toArray,List.set_cons_zero,List.set_cons_succ]
      refine Ord.take (i:=1) (d:=19) (v:=?v1b) rfl rfl (by as_aux_lemma=>kernel_rfl) (by as_aux_lemma=>kernel_rfl) (by as_aux_lemma=>kernel_rfl) (fun _ _ _ h=>h) (by rfl) ?h1 (by assumption) ?_
      case h1=>intro w hSw;go_simp;try with_reducible rfl
      simp only[List.setIfInBounds_toArray,List.set_cons_zero,List.set_cons_succ]
      refine Ord.take (i:=2) (d:=20) (v:= .bool true) rfl rfl (by as_aux_lemma=>kernel_rfl) (by as_aux_lemma=>kernel_rfl) (by as_aux_lemma=>kernel_rfl) (fun _ _ _ h=>h) (by rfl) ?h2 (by assumption) ?_
      case h2=>intro w hSw;go_simp;try with_reducible rfl
      simp only[List.setIfInBounds_toArray,List.set_cons_zero,List.set_cons_succ]
      refine Ord.take (i:=3) (d:=21) (v:=?v3b) rfl rfl (by as_aux_lemma=>kernel_rfl) (by as_aux_lemma=>kernel_rfl) (by as_aux_lemma=>kernel_rfl) (fun _ _ _ h=>h) (by rfl) ?h3 (by assumption) ?_
      case h3=>intro w hSw;go_simp;try with_reducible rfl
      simp only[List.setIfInBounds_toArray,List.set_cons_zero,List.set_cons_succ]
      refine Ord.take (i:=4) (d:=22) (v:=?v4b) rfl rfl (by as_aux_lemma=>kernel_rfl) (by as_aux_lemma=>kernel_rfl) (by as_aux_lemma=>kernel_rfl) (fun _ _ _ h=>h) (by rfl) ?h4 (by assumption) ?_
      case h4=>intro w hSw;go_simp;try with_reducible rfl
      simp only[List.setIfInBounds_toArray,List.set_cons_zero,List.set_cons_succ]
      refine Ord.take (i:=5) (d:=23) (v:=?v5b) rfl rfl (by as_aux_lemma=>kernel_rfl) (by as_aux_lemma=>kernel_rfl) (by as_aux_lemma=>kernel_rfl) (fun _ _ _ h=>h) (by rfl) ?h5 (by assumption) ?_
      case h5=>intro w hSw;go_simp;try with_reducible rfl
      simp only[List.setIfInBounds_toArray,List.set_cons_zero,List.set_cons_succ]
      refine Ord.take (i:=6) (d:=24) (v:=?v6b) rfl rfl (by as_aux_lemma=>kernel_rfl) (by as_aux_lemma=>kernel_rfl) (by as_aux_lemma=>kernel_rfl) (fun _ _ _ h=>h) (by rfl) ?h6 (by assumption) ?_
      case h6=>intro w hSw;go_simp;try with_reducible rfl
      simp only[List.setIfInBounds_toArray,List.set_cons_zero,List.set_cons_succ]
      refine Ord.take (i:=7) (d:=25) (v:=?v7b) rfl rfl (by as_aux_lemma=>kernel_rfl) (by as_aux_lemma=>kernel_rfl) (by as_aux_lemma=>kernel_rfl) (fun _ _ _ h=>h) (by rfl) ?h7 (by assumption) ?_
      case h7=>intro w hSw;go_simp;try with_reducible rfl
      simp only[List.setIfInBounds_toArray,List.set_cons_zero,List.set_cons_succ]
      refine Ord.take (i:=8) (d:=26) (v:= .int .i64 (u:Int)) rfl rfl (by as_aux_lemma=>kernel_rfl) (by as_aux_lemma=>kernel_rfl) (by as_aux_lemma=>kernel_rfl) (fun _ _ _ h=>h) (by rfl) ?h8 (by assumption) ?_
      case h8=>intro w hSw;have e:=hSw.1;go_simp;try with_reducible rfl
      simp only[List.setIfInBounds_toArray,List.set_cons_zero,List.set_cons_succ]
      refine Ord.take (i:=9) (d:=27) (v:=?v9b) rfl rfl (by as_aux_lemma=>kernel_rfl) (by as_aux_lemma=>kernel_rfl) (by as_aux_lemma=>kernel_rfl) (fun _ _ _ h=>h) (by rfl) ?h9 (by assumption) ?_
      case h9=>intro w hSw;go_simp;try with_reducible rfl
      simp only[List.setIfInBounds_toArray,List.set_cons_zero,List.set_cons_succ]
      refine Ord.take (i:=10) (d:=28) (v:=?v10b) rfl rfl (by as_aux_lemma=>kernel_rfl) (by as_aux_lemma=>kernel_rfl) (by as_aux_lemma=>kernel_rfl) (fun _ _ _ h=>h) (by rfl) ?h10 (by assumption) ?_
      case h10=>intro w hSw;go_simp;try with_reducible rfl
      simp only[List.setIfInBounds_toArray,List.set_cons_zero,List.set_cons_succ]
      refine Ord.take (i:=11) (d:=29) (v:= .int .i64 (jp:Int)) rfl rfl (by as_aux_lemma=>kernel_rfl) (by as_aux_lemma=>kernel_rfl) (by as_aux_lemma=>kernel_rfl) (fun _ _ _ h=>h) (by rfl) ?h11 (by assumption) ?_
      case h11=>intro w hSw;go_simp;exact HWR.out
      simp only[List.setIfInBounds_toArray,List.set_cons_zero,List.set_cons_succ]
      refine Ord.take (i:=12) (d:=30) (v:=?v12b) rfl rfl (by as_aux_lemma=>kernel_rfl) (by as_aux_lemma=>kernel_rfl) (by as_aux_lemma=>kernel_rfl) (fun _ _ _ h=>h) (by rfl) ?h12 (by assumption) ?_
      case h12=>intro w hSw;go_simp;try with_reducible rfl
      simp only[List.setIfInBounds_toArray,List.set_cons_zero,List.set_cons_succ]
      refine Ord.take (i:=13) (d:=31) (v:= .int .i64 (v:Int)) rfl rfl (by as_aux_lemma=>kernel_rfl) (by as_aux_lemma=>kernel_rfl) (by as_aux_lemma=>kernel_rfl) (fun _ _ _ h=>h) (by rfl) ?h13 (by assumption) ?_
      case h13=>intro w hSw;have e:=hSw.2;go_simp;try with_reducible rfl
      simp only[List.setIfInBounds_toArray,List.set_cons_zero,List.set_cons_succ]
      refine wpAnyH_ready (rs:= [14]) (by as_aux_lemma=>kernel_rfl) (by simp) (AllReadyH.cons rfl (fun K hK=>?_) AllReadyH.nil)
      go_simp
      refine(HC.out _ rfl).mono ?_
      rintro _ w1 ⟨rfl,hw⟩
      obtain rfl:=hw.symm
      clear hw
      refine hK.out _ _ ⟨c1,c2⟩ (fun _=>?_)
      clear hK K
      refine Ord.take (i:=15) (d:=33) (v:= .bool false) rfl rfl (by as_aux_lemma=>kernel_rfl) (by as_aux_lemma=>kernel_rfl) (by as_aux_lemma=>kernel_rfl) (fun _ _ _ h=>h) (by rfl) ?h15 (by assumption) ?_
      case h15=>intro w hSw;go_simp;try with_reducible rfl
      simp only[List.setIfInBounds_toArray,List.set_cons_zero,List.set_cons_succ]
      refine Ord.take (i:=16) (d:=34) (v:= .bool false) rfl rfl (by as_aux_lemma=>kernel_rfl) (by as_aux_lemma=>kernel_rfl) (by as_aux_lemma=>kernel_rfl) (fun _ _ _ h=>h) (by rfl) ?h16 (by assumption) ?_
      case h16=>intro w hSw;go_simp;try with_reducible rfl
      simp only[List.setIfInBounds_toArray,List.set_cons_zero,List.set_cons_succ]
      refine wpAnyH_done (by as_aux_lemma=>kernel_rfl) ?_ _
      have HG2:=hid (grown_drew (grown_drew HG.out))
      have HO2:=hid HO.out.drew.drew
      clear HG HO c1 c2 f1 f2 hS HC
      generalize wr.drew.drew=W2 at *
      go_wp2
      exact⟨⟨i+1,Y,by go_num,by omega,by omega,HD,HO2,HG2,fun h=>by omega⟩,by simp[intOf];omega⟩
    ·have hja2:j=a:=by omega
     have HD:=hid (InsJ.done HJ.out haj hji (Or.inl hja2))
     have hjz:¬(a:Int)<(j:Int):=by omega
     clear HJ HYE HYL hja2
     go_wp2_with fail
     refine wp_region_held_drew (S:=fun _=>True) (by kernel_rfl) trivial (fun hS=>?_)
     refine Ord.take (i:=0) (d:=18) (v:=?v0c) rfl rfl (by as_aux_lemma=>kernel_rfl) (by as_aux_lemma=>kernel_rfl) (by as_aux_lemma=>kernel_rfl) (fun _ _ _ h=>h) (by rfl) ?h0 (by assumption) ?_
     case h0=>intro w hSw;go_simp;try with_reducible rfl
     simp only[List.setIfInBounds_toArray,List.set_cons_zero,List.set_cons_succ]
     refine Ord.take (i:=1) (d:=19) (v:=?v1c) rfl rfl (by as_aux_lemma=>kernel_rfl) (by as_aux_lemma=>kernel_rfl) (by as_aux_lemma=>kernel_rfl) (fun _ _ _ h=>h) (by rfl) ?h1 (by assumption) ?_
     case h1=>intro w hSw;go_simp;try with_reducible rfl
     simp only[List.setIfInBounds_toArray,List.set_cons_zero,List.set_cons_succ]
     refine Ord.take (i:=2) (d:=20) (v:= .bool false) rfl rfl (by as_aux_lemma=>kernel_rfl) (by as_aux_lemma=>kernel_rfl) (by as_aux_lemma=>kernel_rfl) (fun _ _ _ h=>h) (by rfl) ?h2 (by assumption) ?_
     case h2=>intro w hSw;go_simp;try with_reducible rfl
     simp only[List.setIfInBounds_toArray,List.set_cons_zero,List.set_cons_succ]
     refine Ord.take (i:=3) (d:=21) (v:=?v3c) rfl rfl (by as_aux_lemma=>kernel_rfl) (by as_aux_lemma=>kernel_rfl) (by as_aux_lemma=>kernel_rfl) (fun _ _ _ h=>h) (by rfl) ?h3 (by assumption) ?_
     case h3=>intro w hSw;go_simp;try with_reducible rfl
     simp only[List.setIfInBounds_toArray,List.set_cons_zero,List.set_cons_succ]
     refine Ord.skip (i:=4) (d:=22) rfl rfl (by as_aux_lemma=>kernel_rfl) (by as_aux_lemma=>kernel_rfl) (by as_aux_lemma=>kernel_rfl) (fun _ _ _ h=>h) (by rfl) (by assumption) ?_
     simp only[List.setIfInBounds_toArray,List.set_cons_zero,List.set_cons_succ]
     refine Ord.skip (i:=5) (d:=23) rfl rfl (by as_aux_lemma=>kernel_rfl) (by as_aux_lemma=>kernel_rfl) (by as_aux_lemma=>kernel_rfl) (fun _ _ _ h=>h) (by rfl) (by assumption) ?_
     simp only[List.setIfInBounds_toArray,List.set_cons_zero,List.set_cons_succ]
     refine Ord.skip (i:=6) (d:=24) rfl rfl (by as_aux_lemma=>kernel_rfl) (by as_aux_lemma=>kernel_rfl) (by as_aux_lemma=>kernel_rfl) (fun _ _ _ h=>h) (by rfl) (by assumption) ?_
     simp only[List.setIfInBounds_toArray,List.set_cons_zero,List.set_cons_succ]
     refine Ord.skip (i:=7) (d:=25) rfl rfl (by as_aux_lemma=>kernel_rfl) (by as_aux_lemma=>kernel_rfl) (by as_aux_lemma=>kernel_rfl) (fun _ _ _ h=>h) (by rfl) (by assumption) ?_
     simp only[List.setIfInBounds_toArray,List.set_cons_zero,List.set_cons_succ]
     refine Ord.skip (i:=8) (d:=26) rfl rfl (by as_aux_lemma=>kernel_rfl) (by as_aux_lemma=>kernel_rfl) (by as_aux_lemma=>kernel_rfl) (fun _ _ _ h=>h) (by rfl) (by assumption) ?_
     simp only[List.setIfInBounds_toArray,List.set_cons_zero,List.set_cons_succ]
     refine Ord.skip (i:=9) (d:=27) rfl rfl (by as_aux_lemma=>kernel_rfl) (by as_aux_lemma=>kernel_rfl) (by as_aux_lemma=>kernel_rfl) (fun _ _ _ h=>h) (by rfl) (by assumption) ?_
     simp only[List.setIfInBounds_toArray,List.set_cons_zero,List.set_cons_succ]
     refine Ord.skip (i:=10) (d:=28) rfl rfl (by as_aux_lemma=>kernel_rfl) (by as_aux_lemma=>kernel_rfl) (by as_aux_lemma=>kernel_rfl) (fun _ _ _ h=>h) (by rfl) (by assumption) ?_
     simp only[List.setIfInBounds_toArray,List.set_cons_zero,List.set_cons_succ]
     refine Ord.skip (i:=11) (d:=29) rfl rfl (by as_aux_lemma=>kernel_rfl) (by as_aux_lemma=>kernel_rfl) (by as_aux_lemma=>kernel_rfl) (fun _ _ _ h=>h) (by rfl) (by assumption) ?_
     simp only[List.setIfInBounds_toArray,List.set_cons_zero,List.set_cons_succ]
     refine Ord.skip (i:=12) (d:=30) rfl rfl (by as_aux_lemma=>kernel_rfl) (by as_aux_lemma=>kernel_rfl) (by as_aux_lemma=>kernel_rfl) (fun _ _ _ h=>h) (by rfl) (by assumption) ?_
     simp only[List.setIfInBounds_toArray,List.set_cons_zero,List.set_cons_succ]
     refine Ord.skip (i:=13) (d:=31) rfl rfl (by as_aux_lemma=>kernel_rfl) (by as_aux_lemma=>kernel_rfl) (by as_aux_lemma=>kernel_rfl) (fun _ _ _ h=>h) (by rfl) (by assumption) ?_
     simp only[List.setIfInBounds_toArray,List.set_cons_zero,List.set_cons_succ]
     refine Ord.skip (i:=14) (d:=32) rfl rfl (by as_aux_lemma=>kernel_rfl) (by as_aux_lemma=>kernel_rfl) (by as_aux_lemma=>kernel_rfl) (fun _ _ _ h=>h) (by rfl) (by assumption) ?_
     simp only[List.setIfInBounds_toArray,List.set_cons_zero,List.set_cons_succ]
     refine Ord.skip (i:=15) (d:=33) rfl rfl (by as_aux_lemma=>kernel_rfl) (by as_aux_lemma=>kernel_rfl) (by as_aux_lemma=>kernel_rfl) (fun _ _ _ h=>h) (by rfl) (by assumption) ?_
     simp only[List.setIfInBounds_toArray,List.set_cons_zero,List.set_cons_succ]
     refine Ord.take (i:=16) (d:=34) (v:= .bool false) rfl rfl (by as_aux_lemma=>kernel_rfl) (by as_aux_lemma=>kernel_rfl) (by as_aux_lemma=>kernel_rfl) (fun _ _ _ h=>h) (by rfl) ?h16 (by assumption) ?_
     case h16=>intro w hSw;go_simp;try with_reducible rfl
     simp only[List.setIfInBounds_toArray,List.set_cons_zero,List.set_cons_succ]
     refine wpAnyH_done (by as_aux_lemma=>kernel_rfl) ?_ _
     have HG2:=hid (grown_drew HG.out)
     have HO2:=hid HO.out.drew
     clear HG HO hS
     generalize wr.drew=W2 at *
     go_wp2
     exact⟨⟨i+1,Y,by go_num,by omega,by omega,HD,HO2,HG2,fun h=>by omega⟩,by simp[intOf];omega⟩
  ·have hltz:¬(i:Int)<(b:Int):=by omega
   have HS:Hid (Sorted cs a b o X):=by
    show Sorted _ _ _ _ _
    by_cases e:i=b
    ·subst e;exact HI.out.sorted
    ·have h1:i=a+1:=by omega
     subst h1
     rw[HEQ.out rfl]
     exact HEMP.out (by omega)
   go_wp2
   go_end0
   exact⟨rfl,⟨X,HS.out,HO.out⟩,HG.out⟩
end Go.Proofs.YtelnefngkdfcoaaGreat
/-
 The contract of slices' swapRange: two stretches of a row of one's own are exchanged.
-/
namespace Go.Proofs.YtelnefngkdfcoaaGreat
open Go.RowKit Hf
namespace Hf
def swapR(X:List Int)(a b:Nat):Nat->List Int
 | 0=>X
 | k+1=>swapL (swapR X a b k) (a+k) (b+k)
theorem swapR_length(X:List Int)(a b:Nat):∀k,(swapR X a b k).length=X.length
 | 0=>rfl
 | k+1=>by rw[swapR,swapL_length,swapR_length X a b k]
end Hf
set_option maxHeartbeats 1600000 in
set_option maxRecDepth 100000 in
theorem swapRange_word(a b m n cap B gs:Nat)(f:Value)(X:List Int)(w:World)(hne:a≠b)(ha:a+m<=n)(hb:b+m<=n)(hn:n<=100000)(hl:X.length=n)
 (hown:w.ownsRow B 3 1 (.slice (some ⟨gs,0,none⟩) n cap) n (X.map (Value.int .i64))) :
 Calls Tryz.prog 129 #[.slice (some ⟨gs,0,none⟩) n cap,.int .i64 (a:Int),.int .i64 (b:Int),.int .i64 (m:Int),f] w fun e w'=>e= .returned (.tuple #[])∧w'.ownsRow B 3 1 (.slice (some ⟨gs,0,none⟩) n cap) n ((swapR X a b m).map (Value.int .i64))∧w.grownBy w' (some gs):=by
 have HO:=hid hown
 have HL:=hid hl
 clear hown hl
 go_enter Tryz.func129,Tryz.ntmps129
 go_wp2
 go_loopw [10] (fun y wr=>∃k:Nat,k<=m∧y= .int .i64 k∧Hid (wr.ownsRow B 3 1 (.slice (some ⟨gs,0,none⟩) n cap) n ((swapR X a b k).map (Value.int .i64)))∧Hid (w.grownBy wr (some gs))) (fun y _=>m-(intOf y).toNat)
 case atStart=>exact⟨0,by omega,rfl,HO,World.grownBy.refl _ _⟩
 case round=>
  clear HO
  obtain⟨k,hk,rfl,HO,HG⟩:=hrel
  by_cases hlt:k<m
  ·have hkz:(k:Int)<(m:Int):=by omega
   have HXL:Hid ((swapR X a b k).length=n):=by show _=_;rw[swapR_length,HL.out]
   have c1:=own_cell HO.out HXL.out (a+k) (by omega)
   have c2:=own_cell HO.out HXL.out (b+k) (by omega)
   have f1:=HO.out.frozenAt (a+k)
   have f2:=HO.out.frozenAt (b+k)
   have h1:=own_swap HO.out (a+k) (b+k)
   have HS:Hid (((wr.setCell ⟨gs,a+k,none⟩ (.int .i64 ((swapR X a b k).getD (b+k) 0))).setCell ⟨gs,b+k,none⟩ (.int .i64 ((swapR X a b k).getD (a+k) 0))).drew.ownsRow B 3 1 (.slice (some ⟨gs,0,none⟩) n cap) n ((swapR X a b (k+1)).map (Value.int .i64))∧w.grownBy ((wr.setCell ⟨gs,a+k,none⟩ (.int .i64 ((swapR X a b k).getD (b+k) 0))).setCell ⟨gs,b+k,none⟩ (.int .i64 ((swapR X a b k).getD (a+k) 0))).drew (some gs)):=⟨h1.1.drew,grown_drew (grown_trans HG.out h1.2)⟩
   have hak:(a:Int)+(k:Int)<(n:Int):=by omega
   have hbk:(b:Int)+(k:Int)<(n:Int):=by omega
   have h2:=(HO.out.stored (a+k) (.int .i64 ((swapR X a b k).getD (b+k) 0))).1
   rw[<-List.map_set] at h2
   have d1:=own_cell h2 (by rw[List.length_set,HXL.out]) (b+k) (by omega)
   rw[sgetD_set _ _ _ _ (by rw[HXL.out];omega),if_neg (by omega)] at d1
   clear h1 h2 HO HG HXL
   generalize (swapR X a b k).getD (a+k) 0=u at *
   generalize (swapR X a b k).getD (b+k) 0=v at *
   go_wp2_with fail
   go_region
   clear c1 c2 f1 f2 d1
   generalize ((wr.setCell ⟨gs,a+k,none⟩ (.int .i64 v)).setCell ⟨gs,b+k,none⟩ (.int .i64 u)).drew=W3 at *
   go_wp2
   go_roundw
   case rel=>exact⟨k+1,by omega,by go_num,HS.out.1,HS.out.2⟩
   case measure=>simp[intOf];omega
  ·obtain hke:k=m:=by omega
   subst hke
   have hkz:¬(k:Int)<(k:Int):=by omega
   go_wp2
   go_end0
   exact⟨rfl,HO.out,HG.out⟩
end Go.Proofs.YtelnefngkdfcoaaGreat
