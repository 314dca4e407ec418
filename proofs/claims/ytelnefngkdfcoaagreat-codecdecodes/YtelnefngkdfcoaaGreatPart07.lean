/-
 Which tokens may be: the contracts of lz's within, kindOf, Check, fault and of the document's Check.
-/
import Derived.Test.YtelnefngkdfcoaaGreatPart06
import Derived.Deep.Slices
import Derived.Test.YtelnefngkdfcoaaGreatPart04
import Derived.Laws.BitsAllLaws
import Derived.Test.YtelnefngkdfcoaaGreatPart00
import Derived.Handy
import Derived.Lib.SmallJoins
import Derived.Great.BuildSlice
import Derived.Deep.WholeRow
import Derived.Laws.CopyOwn
namespace Go.Proofs.YtelnefngkdfcoaaGreat
open Go.RowKit Lz
abbrev Tkz:=Int×Int×Int
def zC(t:Tkz):Array Value:= #[.int .i64 t.1,.int .i64 t.2.1,.int .u8 t.2.2]
def litB(t:Tkz):Bool:=t.1==0&&t.2.1==1
def cpyB(t:Tkz):Bool:=decide (1<=t.1)&&(decide (t.1<=4096)&&(decide (4<=t.2.1)&&(decide (t.2.1<=258)&&t.2.2==0)))
def kindZ(t:Tkz):Int:=if litB t then 1 else if cpyB t then 2 else 0
def chkZ(t:Tkz):Int:=if kindZ t=0 then 60 else 0
def fltZ(t:Tkz)(n:Int):Int:=if kindZ t=0 then 60 else if kindZ t=2∧n<t.1 then 61 else if 65536<n+t.2.1 then 2 else 0
theorem within_yes(x a b:Int)(w:World)(h1:a<=x)(h2:x<=b):Calls Tryz.prog 108 #[.int .i64 x,.int .i64 a,.int .i64 b] w fun e w'=>e= .returned (.bool true)∧w'=w:=by
 go_enter Tryz.func108,Tryz.ntmps108
 go_wp2
 go_ret
 exact⟨rfl,rfl⟩
theorem within_no(x a b:Int)(w:World)(h:¬(a<=x∧x<=b)):Calls Tryz.prog 108 #[.int .i64 x,.int .i64 a,.int .i64 b] w fun e w'=>e= .returned (.bool false)∧w'=w:=by
 by_cases h1:a<=x
 ·have h2:¬x<=b:=fun h'=>h ⟨h1,h'⟩
  clear h
  go_enter Tryz.func108,Tryz.ntmps108
  go_wp2
  go_ret
  exact⟨rfl,rfl⟩
 ·clear h
  go_enter Tryz.func108,Tryz.ntmps108
  go_wp2
  go_ret
  exact⟨rfl,rfl⟩
set_option maxHeartbeats 800000 in
set_option maxRecDepth 100000 in
theorem kind_word(t:Tkz)(w:World):Calls Tryz.prog 86 #[.agg (zC t)] w fun e w'=>e= .returned (.int .i64 (kindZ t))∧Below w.heap.size w w':=by
 obtain⟨d,n,x⟩:=t
 unfold zC
 by_cases hl:d=0∧n=1
 ·obtain⟨rfl,rfl⟩:=hl
  have HK:Hid (kindZ (0,1,x)=1):=rfl
  go_enter Tryz.func86,Tryz.ntmps86
  go_wp2
  go_ret
  exact⟨by rw[HK.out];rfl,bel_allocZ _ _⟩
 ·have hlit:litB (d,n,x)=false:=by
   unfold litB
   rw[Bool.eq_false_iff]
   simpa using hl
  have hk0:kindZ (d,n,x)=if cpyB (d,n,x) then 2 else 0:=by unfold kindZ;rw[hlit];rfl
  have hcb:cpyB (d,n,x)=(decide (1<=d)&&(decide (d<=4096)&&(decide (4<=n)&&(decide (n<=258)&&x==0)))):=rfl
  have tail:∀(hd:1<=d∧d<=4096) (hn:4<=n∧n<=258),kindZ (d,n,x)=if x=0 then 2 else 0:=fun hd hn=>by
   rw[hk0,hcb]
   simp[hd.1,hd.2,hn.1,hn.2]
  have h1no:¬(1<=d∧d<=4096)->kindZ (d,n,x)=0:=fun h=>by
   rw[hk0,hcb,if_neg]
   simp only[Bool.and_eq_true,decide_eq_true_eq]
   exact fun h'=>h ⟨h'.1,h'.2.1⟩
  have h2no:¬(4<=n∧n<=258)->kindZ (d,n,x)=0:=fun h=>by
   rw[hk0,hcb,if_neg]
   simp only[Bool.and_eq_true,decide_eq_true_eq]
   exact fun h'=>h ⟨h'.2.2.1,h'.2.2.2.1⟩
  have HT:=hid tail
  have H1:=hid h1no
  have H2:=hid h2no
  clear tail h1no h2no hcb hk0 hlit
  by_cases hd:1<=d∧d<=4096
  ·have hd0:(d==0)=false:=by simp;omega
   by_cases hn:4<=n∧n<=258
   ·have HK:=hid (HT.out hd hn)
    by_cases hx:x=0
    ·have hx0:(x==0)=true:=by simpa using hx
     rw[if_pos hx] at HK
     clear HT H1 H2 hl hx
     obtain⟨hd1,hd2⟩:=hd
     obtain⟨hn1,hn2⟩:=hn
     go_enter Tryz.func86,Tryz.ntmps86
     go_wp2_with fail
     refine(within_yes d 1 4096 _ hd1 hd2).mono ?_
     rintro _ w1 ⟨rfl,rfl⟩
     go_wp2_with fail
     refine(within_yes n 4 258 _ hn1 hn2).mono ?_
     rintro _ w1 ⟨rfl,rfl⟩
     go_wp2
     go_ret
     exact⟨by rw[HK.out];rfl,bel_allocZ _ _⟩
    ·have hx0:(x==0)=false:=by simpa using hx
     rw[if_neg hx] at HK
     clear HT H1 H2 hl hx
     obtain⟨hd1,hd2⟩:=hd
     obtain⟨hn1,hn2⟩:=hn
     go_enter Tryz.func86,Tryz.ntmps86
     go_wp2_with fail
     refine(within_yes d 1 4096 _ hd1 hd2).mono ?_
     rintro _ w1 ⟨rfl,rfl⟩
     go_wp2_with fail
     refine(within_yes n 4 258 _ hn1 hn2).mono ?_
     rintro _ w1 ⟨rfl,rfl⟩
     go_wp2
     go_ret
     exact⟨by rw[HK.out];rfl,bel_allocZ _ _⟩
   ·have HK:=hid (H2.out hn)
    have HN:=hid hn
    clear HT H1 H2 hl hn
    obtain⟨hd1,hd2⟩:=hd
    go_enter Tryz.func86,Tryz.ntmps86
    go_wp2_with fail
    refine(within_yes d 1 4096 _ hd1 hd2).mono ?_
    rintro _ w1 ⟨rfl,rfl⟩
    go_wp2_with fail
    refine(within_no n 4 258 _ HN.out).mono ?_
    rintro _ w1 ⟨rfl,rfl⟩
    go_wp2
    go_ret
    exact⟨by rw[HK.out];rfl,bel_allocZ _ _⟩
  ·have HK:=hid (H1.out hd)
   have HN:=hid hd
   clear HT H1 H2 hd
   by_cases hd0:d=0
   ·subst hd0
    have hn0:(n==1)=false:=by simpa using hl
    clear hl
    go_enter Tryz.func86,Tryz.ntmps86
    go_wp2_with fail
    refine(within_no 0 1 4096 _ HN.out).mono ?_
    rintro _ w1 ⟨rfl,rfl⟩
    go_wp2
    go_ret
    exact⟨by rw[HK.out];rfl,bel_allocZ _ _⟩
   ·have hd1:(d==0)=false:=by simpa using hd0
    clear hl hd0
    go_enter Tryz.func86,Tryz.ntmps86
    go_wp2_with fail
    refine(within_no d 1 4096 _ HN.out).mono ?_
    rintro _ w1 ⟨rfl,rfl⟩
    go_wp2
    go_ret
    exact⟨by rw[HK.out];rfl,bel_allocZ _ _⟩
theorem kind_three(t:Tkz):kindZ t=0∨kindZ t=1∨kindZ t=2:=by
 unfold kindZ
 split
 ·exact .inr (.inl rfl)
 ·split
  ·exact .inr (.inr rfl)
  ·exact .inl rfl
set_option maxHeartbeats 800000 in
theorem check_word(t:Tkz)(w:World):Calls Tryz.prog 55 #[.agg (zC t)] w fun e w'=>e= .returned (.int .i64 (chkZ t))∧Below w.heap.size w w':=by
 have HKW:=hid (kind_word t (w.alloc (.cells (zC t) 63)))
 obtain⟨d,n,x⟩:=t
 unfold zC at *
 dsimp only at *
 rcases Decidable.em (kindZ (d,n,x)=0) with hk | hk
 ·have HC:Hid (chkZ (d,n,x)=60):=by show _=_;unfold chkZ;rw[if_pos hk]
  rw[hk] at HKW
  clear hk
  go_enter Tryz.func55,Tryz.ntmps55
  go_wp2_with fail
  refine HKW.out.mono ?_
  rintro _ w1 ⟨rfl,hb1⟩
  have HB:=hid (Bn (bel_allocZ w _) hb1)
  clear hb1 HKW
  go_wp2
  go_ret
  exact⟨by rw[HC.out];rfl,HB.out⟩
 ·have HC:Hid (chkZ (d,n,x)=0):=by show _=_;unfold chkZ;rw[if_neg hk]
  have hkb:(kindZ (d,n,x)==0)=false:=by simpa using hk
  generalize kindZ (d,n,x)=k at *
  clear hk
  go_enter Tryz.func55,Tryz.ntmps55
  go_wp2_with fail
  refine HKW.out.mono ?_
  rintro _ w1 ⟨rfl,hb1⟩
  have HB:=hid (Bn (bel_allocZ w _) hb1)
  clear hb1 HKW
  go_wp2
  go_ret
  exact⟨by rw[HC.out];rfl,HB.out⟩
theorem flt_kind(t:Tkz):(kindZ t=1->t.1=0∧t.2.1=1)∧(kindZ t=2->1<=t.1∧t.1<=4096∧4<=t.2.1∧t.2.1<=258∧t.2.2=0):=by
 obtain⟨d,n,x⟩:=t
 unfold kindZ litB cpyB
 simp only[Bool.and_eq_true,decide_eq_true_eq,beq_iff_eq]
 constructor
 ·intro h
  split at h
  ·assumption
  ·split at h<;>omega
 ·intro h
  split at h
  ·omega
  ·split at h
   ·assumption
   ·omega
set_option maxHeartbeats 1600000 in
set_option maxRecDepth 100000 in
theorem fault_word(t:Tkz) m (w:World) (hm0:0<=m) (hm:m<=65536):Calls Tryz.prog 106 #[.agg (zC t),.int .i64 m] w fun e w'=>e= .returned (.int .i64 (fltZ t m))∧Below w.heap.size w w':=by
 have HKW:=hid (kind_word t (w.alloc (.cells (zC t) 63)))
 have hthree:=kind_three t
 have hkind:=flt_kind t
 have hflt:fltZ t m=if kindZ t=0 then 60 else if kindZ t=2∧m<t.1 then 61 else if 65536<m+t.2.1 then 2 else 0:=rfl
 obtain⟨d,n,x⟩:=t
 unfold zC at *
 dsimp only at *
 have e0:(w.alloc (.cells #[.int .i64 d,.int .i64 n,.int .u8 x] 63)).heap[w.heap.size]?=some (.cells #[.int .i64 d,.int .i64 n,.int .u8 x] 63 (0,0)):=heap_newZ _ _
 have HE0:=hid e0
 have HF:=hid hflt
 clear hflt e0
 rcases hthree with hk | hk | hk
 ·skip
  rw[hk] at HKW
  have HC:Hid (fltZ (d,n,x) m=60):=by show _=_;rw[HF.out,hk];rfl
  clear hk HF hkind
  go_enter Tryz.func106,Tryz.ntmps106
  go_wp2_with fail
  refine HKW.out.mono ?_
  rintro _ w1 ⟨rfl,hb1⟩
  have e1:=(hb1.block w.heap.size (by simp)).trans HE0.out
  have c0:=Joins.cell_of_block e1 0
  have c1:=Joins.cell_of_block e1 1
  simp only[List.getElem?_toArray,List.getElem?_cons_zero,List.getElem?_cons_succ] at c0 c1
  have HB:=hid (Bn (bel_allocZ w _) hb1)
  clear hb1 HKW e1 HE0
  go_wp2
  go_ret
  exact⟨by rw[HC.out];rfl,HB.out⟩
 ·obtain⟨hd0,hn1⟩:=hkind.1 hk
  subst hd0
  subst hn1
  by_cases hl:65536<m+1
  ·skip
   rw[hk] at HKW
   have HC:Hid (fltZ (0,1,x) m=2):=by show _=_;rw[HF.out,hk];rw[if_neg (by decide),if_neg (by omega),if_pos hl]
   clear hk HF hkind
   go_enter Tryz.func106,Tryz.ntmps106
   go_wp2_with fail
   refine HKW.out.mono ?_
   rintro _ w1 ⟨rfl,hb1⟩
   have e1:=(hb1.block w.heap.size (by simp)).trans HE0.out
   have c0:=Joins.cell_of_block e1 0
   have c1:=Joins.cell_of_block e1 1
   simp only[List.getElem?_toArray,List.getElem?_cons_zero,List.getElem?_cons_succ] at c0 c1
   have HB:=hid (Bn (bel_allocZ w _) hb1)
   clear hb1 HKW e1 HE0
   go_wp2
   go_ret
   exact⟨by rw[HC.out];rfl,HB.out⟩
  ·skip
   rw[hk] at HKW
   have HC:Hid (fltZ (0,1,x) m=0):=by show _=_;rw[HF.out,hk];rw[if_neg (by decide),if_neg (by omega),if_neg hl]
   clear hk HF hkind
   go_enter Tryz.func106,Tryz.ntmps106
   go_wp2_with fail
   refine HKW.out.mono ?_
   rintro _ w1 ⟨rfl,hb1⟩
   have e1:=(hb1.block w.heap.size (by simp)).trans HE0.out
   have c0:=Joins.cell_of_block e1 0
   have c1:=Joins.cell_of_block e1 1
   simp only[List.getElem?_toArray,List.getElem?_cons_zero,List.getElem?_cons_succ] at c0 c1
   have HB:=hid (Bn (bel_allocZ w _) hb1)
   clear hb1 HKW e1 HE0
   go_wp2
   go_ret
   exact⟨by rw[HC.out];rfl,HB.out⟩
 ·obtain⟨hd1,hd2,hn1,hn2,hx0⟩:=hkind.2 hk
  clear hx0
  by_cases hdm:m<d
  ·skip
   rw[hk] at HKW
   have HC:Hid (fltZ (d,n,x) m=61):=by show _=_;rw[HF.out,hk];rw[if_neg (by decide),if_pos ⟨rfl,hdm⟩]
   clear hk HF hkind
   go_enter Tryz.func106,Tryz.ntmps106
   go_wp2_with fail
   refine HKW.out.mono ?_
   rintro _ w1 ⟨rfl,hb1⟩
   have e1:=(hb1.block w.heap.size (by simp)).trans HE0.out
   have c0:=Joins.cell_of_block e1 0
   have c1:=Joins.cell_of_block e1 1
   simp only[List.getElem?_toArray,List.getElem?_cons_zero,List.getElem?_cons_succ] at c0 c1
   have HB:=hid (Bn (bel_allocZ w _) hb1)
   clear hb1 HKW e1 HE0
   go_wp2
   go_ret
   exact⟨by rw[HC.out];rfl,HB.out⟩
  ·by_cases hl:65536<m+n
   ·skip
    rw[hk] at HKW
    have HC:Hid (fltZ (d,n,x) m=2):=by show _=_;rw[HF.out,hk];rw[if_neg (by decide),if_neg (fun h=>hdm h.2),if_pos hl]
    clear hk HF hkind
    go_enter Tryz.func106,Tryz.ntmps106
    go_wp2_with fail
    refine HKW.out.mono ?_
    rintro _ w1 ⟨rfl,hb1⟩
    have e1:=(hb1.block w.heap.size (by simp)).trans HE0.out
    have c0:=Joins.cell_of_block e1 0
    have c1:=Joins.cell_of_block e1 1
    simp only[List.getElem?_toArray,List.getElem?_cons_zero,List.getElem?_cons_succ] at c0 c1
    have HB:=hid (Bn (bel_allocZ w _) hb1)
    clear hb1 HKW e1 HE0
    go_wp2
    go_ret
    exact⟨by rw[HC.out];rfl,HB.out⟩
   ·skip
    rw[hk] at HKW
    have HC:Hid (fltZ (d,n,x) m=0):=by show _=_;rw[HF.out,hk];rw[if_neg (by decide),if_neg (fun h=>hdm h.2),if_neg hl]
    clear hk HF hkind
    go_enter Tryz.func106,Tryz.ntmps106
    go_wp2_with fail
    refine HKW.out.mono ?_
    rintro _ w1 ⟨rfl,hb1⟩
    have e1:=(hb1.block w.heap.size (by simp)).trans HE0.out
    have c0:=Joins.cell_of_block e1 0
    have c1:=Joins.cell_of_block e1 1
    simp only[List.getElem?_toArray,List.getElem?_cons_zero,List.getElem?_cons_succ] at c0 c1
    have HB:=hid (Bn (bel_allocZ w _) hb1)
    clear hb1 HKW e1 HE0
    go_wp2
    go_ret
    exact⟨by rw[HC.out];rfl,HB.out⟩
end Go.Proofs.YtelnefngkdfcoaaGreat
/-
 The contract of the document's Check.
-/
namespace Go.Proofs.YtelnefngkdfcoaaGreat
open Go.RowKit Lz
theorem chk_eq(d n x:Int):chkZ (d,n,x)=if (d=0∧n=1)∨(1<=d∧d<=4096∧4<=n∧n<=258∧x=0) then 0 else 60:=by
 unfold chkZ kindZ litB cpyB
 simp only[Bool.and_eq_true,decide_eq_true_eq,beq_iff_eq]
 by_cases h1:d=0∧n=1
 ·have h:(d=0∧n=1)∨(1<=d∧d<=4096∧4<=n∧n<=258∧x=0):= .inl h1
  rw[if_pos h1,if_pos h,if_neg (by decide)]
 ·by_cases h2:1<=d∧d<=4096∧4<=n∧n<=258∧x=0
  ·have h:(d=0∧n=1)∨(1<=d∧d<=4096∧4<=n∧n<=258∧x=0):= .inr h2
   rw[if_neg h1,if_pos h2,if_pos h,if_neg (by decide)]
  ·rw[if_neg h1,if_neg h2,if_pos rfl,if_neg (fun h=>h.elim h1 h2)]
end Go.Proofs.YtelnefngkdfcoaaGreat
/-
 A row of tokens as an argument of type []api.Token: what it reads as, in which worlds.
-/
namespace Go.Proofs.YtelnefngkdfcoaaGreat
open Go.ChangeShapes Go.WideShapes Go.ChangeAt Go.RowKit Go.Deep Lz
def tk0:Tkz:=(0,0,0)
structure Rt (w:World) (a:Option Addr) (cap:Nat) (l:List Tkz):Prop where
 room:l.length<=cap
 most:cap<=maxLen
 cells:0<l.length->∃b off,a=some ⟨b,off,none⟩∧b<w.heap.size∧∀j,j<l.length->w.cell? ⟨b,off+j*3,none⟩=some (.int .i64 (l.getD j tk0).1)∧w.cell? ⟨b,off+j*3+1,none⟩=some (.int .i64 (l.getD j tk0).2.1)∧w.cell? ⟨b,off+j*3+2,none⟩=some (.int .u8 (l.getD j tk0).2.2)
 fits:∀j,j<l.length->(Lit.int .i64 (l.getD j tk0).1).wf=true∧(Lit.int .i64 (l.getD j tk0).2.1).wf=true∧(Lit.int .u8 (l.getD j tk0).2.2).wf=true
theorem Rt.later{w w':World}{a:Option Addr}{cap:Nat}{l:List Tkz}(h:Rt w a cap l)(hb:Below w.heap.size w w'):Rt w' a cap l:=by
 refine⟨h.room,h.most,fun h0=>?_,h.fits⟩
 obtain⟨b,off,ha,hbw,hc⟩:=h.cells h0
 refine⟨b,off,ha,Nat.lt_of_lt_of_le hbw hb.size,fun j hj=>?_⟩
 obtain⟨c0,c1,c2⟩:=hc j hj
 exact⟨(hb.cell (p:=⟨b,off+j*3,none⟩) hbw).trans c0,(hb.cell (p:=⟨b,off+j*3+1,none⟩) hbw).trans c1,(hb.cell (p:=⟨b,off+j*3+2,none⟩) hbw).trans c2⟩
theorem Rt.take{w:World}{a:Option Addr}{cap:Nat}{l:List Tkz}(h:Rt w a cap l)(n:Nat):Rt w a cap (l.take n):=by
 have hr:=h.room
 have hle:(l.take n).length<=l.length:=by simp;omega
 have e:∀j,j<(l.take n).length->(l.take n).getD j tk0=l.getD j tk0:=fun j hj=>by
  have:j<n:=by simp at hj;omega
  simp[List.getD,List.getElem?_take_of_lt this]
 refine⟨by omega,h.most,fun h0=>?_,fun j hj=>by rw[e j hj];exact h.fits j (by omega)⟩
 obtain⟨b,off,ha,hbw,hc⟩:=h.cells (by omega)
 exact⟨b,off,ha,hbw,fun j hj=>by rw[e j hj];exact hc j (by omega)⟩
def toZ(t:Tok):Tkz:=((t.1:Int),(t.2.1:Int),t.2.2)
theorem flat_get(l:List Tok):∀j,j<l.length->(l.flatMap tokC)[j*3]?=some (.int .i64 ((l.map toZ).getD j tk0).1)∧(l.flatMap tokC)[j*3+1]?=some (.int .i64 ((l.map toZ).getD j tk0).2.1)∧(l.flatMap tokC)[j*3+2]?=some (.int .u8 ((l.map toZ).getD j tk0).2.2):=by
 induction l with
 | nil=>intro j hj;simp at hj
 | cons t l ih=>
   intro j hj
   rw[List.flatMap_cons]
   cases j with
   | zero=>exact⟨rfl,rfl,rfl⟩
   | succ j=>
     have hl:(tokC t).length=3:=rfl
     obtain⟨h0,h1,h2⟩:=ih j (by simp at hj;omega)
     have e:∀i,(tokC t++l.flatMap tokC)[(j+1)*3+i]?=(l.flatMap tokC)[j*3+i]?:=fun i=>by
      rw[List.getElem?_append_right (by omega),hl]
      congr 1
      omega
     have eg:((t::l).map toZ).getD (j+1) tk0=(l.map toZ).getD j tk0:=rfl
     rw[eg]
     refine⟨?_,?_,?_⟩
     ·rw[<-h0];exact e 0
     ·rw[<-h1];exact e 1
     ·rw[<-h2];exact e 2
theorem Rt.own{w:World}{base:Nat}{v:Value}{l:List Tok}(h:w.ownsRow base 63 3 v l.length (l.flatMap tokC))(hf:∀t∈l,t.1<=65536∧t.2.1<=65536∧(Lit.int .u8 t.2.2).wf=true):
 ∃a cap,v= .slice a l.length cap∧Rt w a cap (l.map toZ):=by
 have hfit:∀j,j<(l.map toZ).length->(Lit.int .i64 ((l.map toZ).getD j tk0).1).wf=true∧(Lit.int .i64 ((l.map toZ).getD j tk0).2.1).wf=true∧(Lit.int .u8 ((l.map toZ).getD j tk0).2.2).wf=true:=fun j hj=>by
  have hj':j<l.length:=by simpa using hj
  have e:(l.map toZ).getD j tk0=toZ l[j]:=by simp[List.getD,hj']
  obtain⟨f0,f1,f2⟩:=hf l[j] (List.getElem_mem hj')
  rw[e]
  exact⟨wf_mk_i64 (by simp only[toZ];omega) (by simp only[toZ];omega),wf_mk_i64 (by simp only[toZ];omega) (by simp only[toZ];omega),f2⟩
 obtain⟨hl,hn | ⟨g,cap,cur,rfl,hb,hg,hnc,hcm,hcur,htk⟩⟩:=id h
 ·obtain⟨rfl,h0⟩:=hn
  refine⟨none,0,by rw[h0],by simp[h0],by unfold maxLen;omega,fun h1=>by simp[h0] at h1,hfit⟩
 ·refine⟨some ⟨g,0,none⟩,cap,rfl,by simpa using hnc,hcm,fun h0=>⟨g,0,rfl,(Array.getElem?_eq_some_iff.1 hg).1,fun j hj=>?_⟩,hfit⟩
  have hj':j<l.length:=by simpa using hj
  obtain⟨h0,h1,h2⟩:=flat_get l j hj'
  simp only[Nat.zero_add]
  exact⟨(h.cellAt _ (by omega)).trans h0,(h.cellAt _ (by omega)).trans h1,(h.cellAt _ (by omega)).trans h2⟩
end Go.Proofs.YtelnefngkdfcoaaGreat
/-
 The statements' cut and few.
-/
namespace Go.Proofs.YtelnefngkdfcoaaGreat
open Go.RowKit
theorem cut7_any(a:Option Addr)(cap:Nat)(zs:List Int)(w:World)(hr:Ri w .u8 a cap zs):
 Calls Tryz.prog 11 #[.slice a zs.length cap] w fun e w'=>e= .returned (.slice a (zs.take 700).length cap)∧w'=w:=by
 have hcap:=hr.room
 have hmax:=hr.most
 unfold maxLen at hmax
 have hcells:=hr.cells
 clear hr
 by_cases h:700<zs.length
 ·have hl:(zs.take 700).length=700:=by simp;omega
  obtain⟨b,off,rfl,hbw,hc⟩:=hcells (by omega)
  clear hcells hc hbw
  rw[hl]
  generalize zs.length=len at *
  clear hl
  go_enter Tryz.func11,Tryz.ntmps11
  go_wp2
  go_ret
  exact⟨rfl,rfl⟩
 ·have hl:(zs.take 700).length=zs.length:=by simp;omega
  rw[hl]
  generalize zs.length=len at *
  clear hcells hl
  go_enter Tryz.func11,Tryz.ntmps11
  go_wp2
  go_ret
  exact⟨rfl,rfl⟩
end Go.Proofs.YtelnefngkdfcoaaGreat
/-
 The contracts of word.Varint and word.Read.
-/
namespace Go.Proofs.YtelnefngkdfcoaaGreat
open Go.RowKit
theorem Tryz.info5W:(Tryz.prog.info? 5).map (fun i=>(i.zero,i.size,i.bytes))=some (some (.int .u8 0),1,1):=by kernel_rfl
def vintL:Nat->Int->List Int
 | 0,x=> [x]
 | f+1,x=>if x<128 then [x] else (x%128+128)::vintL f (x/128)
def vint(x:Int):List Int:=vintL 9 x
theorem or128(x:Int):bits .or .u8 (x%256) 128=x%128+128:=by
 have h0:0<=x%256:=by omega
 have h1:x%256<256:=by omega
 have e:x%128=x%256%128:=by omega
 rw[e]
 generalize x%256=y at *
 obtain⟨n,rfl⟩:=Int.eq_ofNat_of_zero_le h0
 rw[show(128:Int)=((128:Nat):Int) from rfl,u8_or_nat _ _ (by omega) (by omega)]
 have hn:n<256:=by omega
 have key:∀m:Fin 256,(m.val|||128)=m.val%128+128:=by decide +kernel
 have:=key ⟨n,hn⟩
 simp only at this
 rw[this]
 omega
theorem vint_more(f:Nat)(y:Int)(h:¬y<128):vintL (f+1) y=(y%128+128)::vintL f (y/128):=by rw[vintL,if_neg h]
theorem vint_last(f:Nat)(y:Int)(h:y<128):vintL f y= [y]:=by cases f with
 | zero=>rfl
 | succ f=>rw[vintL,if_pos h]
theorem own_snocW{B:Nat}{w wr w1:World}{acc:List Int}{z:Int}{u v:Value}{o:Obj}(hB:B<=wr.heap.size)
 (hown:wr.ownsRow B 5 1 u acc.length (acc.map (Value.int .u8))) (hbel:Below B w wr)
 (hown':w1.ownsRow B 5 1 v (acc.length+1) (acc.map (Value.int .u8)++ [.int .u8 z])) (hgrow:(wr.alloc o).grownBy w1 u.ownBlock) :
 w1.ownsRow B 5 1 v (acc++ [z]).length ((acc++ [z]).map (Value.int .u8))∧Below B w w1:=
 ⟨by simpa using hown',(hbel.alloc hB o).grown hgrow (by simp;omega) (fun j hj=>(hown.lt j hj).1)⟩
set_option maxHeartbeats 800000 in
set_option maxRecDepth 1000000 in
theorem var_word(x:Int)(w:World)(h0:0<=x)(h1:x<18446744073709551616):
 Calls Tryz.prog 26 #[.int .u64 x] w fun e w'=>∃v,e= .returned v∧w'.ownsRow w.heap.size 5 1 v (vint x).length ((vint x).map (Value.int .u8))∧Below w.heap.size w w':=by
 obtain⟨i0,hi,hz0,hz1,hz2⟩:=info_parts Tryz.info5W
 go_enter Tryz.func26,Tryz.ntmps26
 go_wp2
 go_loopw [0,3] (fun c v wr=>∃(f:Nat) (acc:List Int) (y:Int),c= .int .u64 y∧0<=y∧y<18446744073709551616∧y<128^(f+1)∧acc.length+f=9∧acc++vintL f y=vint x∧wr.ownsRow w.heap.size 5 1 v acc.length (acc.map (Value.int .u8))∧Below w.heap.size w wr)
  (fun c _ _=>(intOf c).toNat)
 case atStart=>exact⟨9,[],x,rfl,h0,h1,by omega,rfl,rfl,World.ownsRow_nil _ _ _ _,Below.refl _ _⟩
 case round=>
  obtain⟨f,acc,y,rfl,hy0,hy1,hyf,hlen,hcat,hown,hbel⟩:=hrel
  have hor:=or128 y
  by_cases hy:y<128
  ·go_wp2_with (at_builtin;refine wpList_append_own _ rfl _ _ 24 rfl w.heap.size 5 i0 (.int .u8 0) 1 1 Tryz.underlying24 hi hz0 hz1 hz2 rfl (by decide) _ _ _ rfl (hown.alloc _) ⟨wr.heap.size,0,none⟩ 1 1 [.int .u8 y] rfl rfl ?c1 ?c2 ?c3 ?c4 ?c5 ?_)
   case c1=>
    intro j u hj
    match j,hj with
    | 0,hj=>simp at hj;subst hj;simp[Addr.add]
   case c2=>intro u hu;simp at hu;subst hu;rfl
   case c3=>unfold maxLen;omega
   case c4=>omega
   case c5=>have:=hbel.size;simp;omega
   intro v' w1 hown' hgrow _
   have R:=own_snocW hbel.size hown hbel hown' hgrow
   have hv:acc++ [y]=vint x:=by rw[<-hcat,vint_last f y hy]
   rw[hv] at R
   clear hown' hgrow hown hcat
   go_wp2
   go_ret
   exact⟨_,rfl,R.1,R.2⟩
  ·obtain⟨g,rfl⟩:∃g,f=g+1:=by
    cases f with
    | zero=>omega
    | succ g=>exact⟨g,rfl⟩
   have hcat':(acc++ [y%128+128])++vintL g (y/128)=vint x:=by rw[<-hcat,vint_more g y hy];simp
   have hyg:y/128<128^(g+1):=by
    rw[Int.ediv_lt_iff_lt_mul (by decide),<-Int.pow_succ];exact hyf
   clear hcat hyf
   go_wp2_with (at_builtin;refine wpList_append_own _ rfl _ _ 24 rfl w.heap.size 5 i0 (.int .u8 0) 1 1 Tryz.underlying24 hi hz0 hz1 hz2 rfl (by decide) _ _ _ rfl (hown.alloc _) ⟨wr.heap.size,0,none⟩ 1 1 [.int .u8 (y%128+128)] rfl rfl ?d1 ?d2 ?d3 ?d4 ?d5 ?_)
   case d2=>rfl
   case d3=>unfold maxLen;omega
   case d4=>omega
   case d5=>have:=hbel.size;simp;omega
   intro v' w1 hown' hgrow _
   have R:=own_snocW hbel.size hown hbel hown' hgrow
   clear hown' hgrow hown
   go_wp2
   go_roundw
   case rel=>exact⟨g,acc++ [y%128+128],y/128,rfl,by omega,by omega,hyg,by simp;omega,hcat',R.1,R.2⟩
   case measure=>simp[intOf];omega
def badB(i:Nat)(c:Int):Bool:=decide ((i=9∧c≠1)∨(0<i∧c=0))
def readL(acc:Int)(i:Nat):List Int->Int×Int×Int
 | []=>(0,i,11)
 | c::cs=>if badB i c then (0,i,12) else if c<128 then (acc+c%128*128^i,i+1,0) else readL (acc+c%128*128^i) (i+1) cs
theorem follows_any(c:Int)(i:Nat)(w:World):
 Calls Tryz.prog 117 #[.int .u8 c,.int .i64 i] w fun e w'=>e= .returned (.bool (!badB i c))∧w'=w:=by
 by_cases h9:i=9
 ·subst h9
  have e:(!badB 9 c)=(c==1):=by
   by_cases hc:c=1
   ·subst hc;rfl
   ·simp[badB,hc]
  rw[e]
  go_enter Tryz.func117,Tryz.ntmps117
  go_wp2
  go_ret
  exact⟨rfl,rfl⟩
 ·have g9:((i:Int)==9)=false:=by rw[beq_eq_false_iff_ne];omega
  by_cases h0:i=0
  ·subst h0
   have e:(!badB 0 c)=true:=by simp[badB]
   rw[e]
   go_enter Tryz.func117,Tryz.ntmps117
   go_wp2
   go_ret
   exact⟨rfl,rfl⟩
  ·have g0:((i:Int)==0)=false:=by rw[beq_eq_false_iff_ne];omega
   have e:(!badB i c)=(c != 0):=by
    by_cases hc:c=0
    ·subst hc;simp[badB,h9];omega
    ·simp[badB,h9,hc]
   rw[e]
   go_enter Tryz.func117,Tryz.ntmps117
   go_wp2
   go_ret
   exact⟨rfl,rfl⟩
theorem drop_step(zs:List Int)(k:Nat)(hk:k<zs.length):zs.drop k=zs.getD k 0::zs.drop (k+1):=by
 rw[List.drop_eq_getElem_cons hk]
 simp[List.getD,List.getElem?_eq_getElem hk]
theorem ret_three{k l m:IntKind}{a b c:Int}{t:Int×Int×Int}(h:t=(a,b,c)):Ending.returned (.tuple #[.int k a,.int l b,.int m c])= .returned (.tuple #[.int k t.1,.int l t.2.1,.int m t.2.2]):=by rw[h]
theorem pow128(k:Nat):(128:Nat)^k=2^(7*k):=by rw[Nat.pow_mul]
theorem digit_lt(k:Nat)(c:Int)(hk:k<=9)(h9:k=9->c=1):c%128*128^k<18446744073709551616:=by
 by_cases h:k=9
 ·rw[h9 h,h];decide
 ·have e:((128^k:Nat):Int)<=((128^8:Nat):Int):=by
   have:=Nat.pow_le_pow_right (n:=128) (by decide) (show k<=8 from by omega)
   omega
  have e2:(128:Int)^k<=72057594037927936:=by simpa using e
  have e3:(0:Int)<128^k:=Int.pow_pos (by decide)
  have e4:c%128*128^k<=127*128^k:=Int.mul_le_mul_of_nonneg_right (by omega) (by omega)
  omega
theorem read_or(acc c:Int)(k:Nat)(h0:0<=c)(h1:c<=255)(hk:k<=9)(h9:k=9->c=1)(ha0:0<=acc)(ha1:acc<128^k):
 bits .or .u64 acc (IntKind.u64.wrap (IntKind.u64.wrap (bits .andNot .u8 c 128)*2^(7*k)))=acc+c%128*128^k:=by
 have hd:=digit_lt k c hk h9
 obtain⟨n,rfl⟩:=Int.eq_ofNat_of_zero_le h0
 obtain⟨m,rfl⟩:=Int.eq_ofNat_of_zero_le ha0
 have e1:bits .andNot .u8 (n:Int) 128=((n%128:Nat):Int):=by
  rw[show(128:Int)=((128:Nat):Int) from rfl,u8_andNot_nat _ _ (by omega) (by omega)]
  congr 1
  exact nat_mask7 n
 have e2:((n:Int)%128*128^k)=((n%128*2^(7*k):Nat):Int):=by rw[<-pow128];simp
 rw[e2] at hd|-
 have hp:(2:Nat)^(7*k)<=2^63:=Nat.pow_le_pow_right (n:=2) (by decide) (by omega)
 have hm:m<2^(7*k):=by
  have:(m:Int)<((128^k:Nat):Int):=by simpa using ha1
  rw[pow128] at this;omega
 have e3:IntKind.u64.wrap (IntKind.u64.wrap (((n%128:Nat):Int))*2^(7*k))=((n%128*2^(7*k):Nat):Int):=by
  rw[IntKind.wrap_u64,IntKind.wrap_u64,show(((n%128:Nat):Int)%18446744073709551616)=((n%128:Nat):Int) from by omega]
  rw[show((n%128:Nat):Int)*2^(7*k)=((n%128*2^(7*k):Nat):Int) from by simp]
  exact Int.emod_eq_of_lt (by omega) hd
 rw[e1,e3,u64_or_nat _ _ (by omega) (by omega),Nat.or_comm,nat_join (7*k) _ _ (Nat.mul_mod_left _ _) hm]
 omega
theorem digit_next(acc c:Int)(k:Nat)(ha0:0<=acc)(ha1:acc<128^k):0<=acc+c%128*128^k∧acc+c%128*128^k<128^(k+1):=by
 have e3:(0:Int)<128^k:=Int.pow_pos (by decide)
 have e4:c%128*128^k<=127*128^k:=Int.mul_le_mul_of_nonneg_right (by omega) (by omega)
 have e5:0<=c%128*128^k:=Int.mul_nonneg (by omega) (by omega)
 rw[Int.pow_succ]
 omega
theorem digit_sum(acc c:Int)(k:Nat)(hk:k<=9)(h9:k=9->c=1)(ha0:0<=acc)(ha1:acc<128^k):acc+c%128*128^k<18446744073709551616:=by
 by_cases h:k=9
 ·rw[h9 h,h];rw[h] at ha1;omega
 ·have h2:=(digit_next acc c k ha0 ha1).2
  have e:((128^(k+1):Nat):Int)<=((128^9:Nat):Int):=by
   have:=Nat.pow_le_pow_right (n:=128) (by decide) (show k+1<=9 from by omega)
   omega
  have e2:(128:Int)^(k+1)<=9223372036854775808:=by simpa using e
  omega
theorem not_bad{k:Nat}{c:Int}(h:badB k c=false):k=9->c=1:=by
 simp only[badB,decide_eq_false_iff_not] at h
 omega
theorem read_bad{acc c:Int}{k:Nat}{cs:List Int}(h:badB k c=true):readL acc k (c::cs)=(0,(k:Int),12):=by
 rw[readL,if_pos h]
theorem read_last{acc c:Int}{k:Nat}{cs:List Int}(h:badB k c=false)(hc:c<128):readL acc k (c::cs)=(acc+c%128*128^k,(k:Int)+1,0):=by
 rw[readL,if_neg (by rw[h];decide),if_pos hc]
theorem read_more{acc c:Int}{k:Nat}{cs:List Int}(h:badB k c=false)(hc:¬c<128):readL acc k (c::cs)=readL (acc+c%128*128^k) (k+1) cs:=by
 rw[readL,if_neg (by rw[h];decide),if_neg hc]
theorem read_none{acc:Int}{k:Nat}{zs:List Int}(h:¬k<zs.length):readL acc k (zs.drop k)=(0,(k:Int),11):=by
 rw[List.drop_eq_nil_of_le (by omega)];rfl
theorem read_word(a:Option Addr)(cap:Nat)(zs:List Int)(w:World)(hr:Ri w .u8 a cap zs):
 Calls Tryz.prog 99 #[.slice a zs.length cap] w fun e w'=>e= .returned (.tuple #[.int .u64 (readL 0 0 zs).1,.int .i64 (readL 0 0 zs).2.1,.int .i64 (readL 0 0 zs).2.2])∧w'=w:=by
 have hcap:=hr.room
 have hmax:=hr.most
 unfold maxLen at hmax
 obtain⟨len,hlen⟩:∃n,n=zs.length:=⟨_,rfl⟩
 have hcells:=hr.cells
 have hlo:∀j,0<=zs.getD j 0:=fun j=>(wf_u8 (hr.fits j)).1
 have hhi:∀j,zs.getD j 0<=255:=fun j=>(wf_u8 (hr.fits j)).2
 clear hr
 rw[<-hlen] at hcells hcap|-
 have HL:Hid (len=zs.length):=hlen
 clear hlen
 go_enter Tryz.func99,Tryz.ntmps99
 go_wp2
 go_loop [5,9] (fun x i=>∃(k:Nat) (acc:Int),k<=len∧k<=9∧i= .int .i64 k∧x= .int .u64 acc∧0<=acc∧acc<128^k∧readL 0 0 zs=readL acc k (zs.drop k)) (fun _ i=>len-(intOf i).toNat)
 case atStart=>exact⟨0,0,by omega,by omega,rfl,rfl,by omega,by simp,rfl⟩
 case round=>
  obtain⟨k,acc,hk,hk9,rfl,rfl,hacc0,hacc1,hd⟩:=hrel
  by_cases hlt:k<len
  ·obtain⟨b,off,rfl,hbw,hc⟩:=hcells (by omega)
   have hck:=hc k hlt
   have hl0:=hlo k
   have hl1:=hhi k
   rw[drop_step zs k (by rw[<-HL.out];exact hlt)] at hd
   generalize zs.getD k 0=c at *
   have HD:Hid (readL 0 0 zs=readL acc k (c::zs.drop (k+1))):=hd
   clear hd hc hlo hhi hcells
   cases hbad:badB k c with
   | true=>
     have hnb:(!badB k c)=false:=by rw[hbad];rfl
     go_wp2_with (go_at_call 117;refine(follows_any _ _ _).mono ?_;rintro e w' ⟨rfl,rfl⟩)
     go_ret3
     exact⟨ret_three (HD.out.trans (read_bad hbad)),rfl⟩
   | false=>
     have hnb:(!badB k c)=true:=by rw[hbad];rfl
     have hx:=read_or acc c k hl0 hl1 hk9 (not_bad hbad) hacc0 hacc1
     by_cases hc128:c<128
     ·go_wp2_with (go_at_call 117;refine(follows_any _ _ _).mono ?_;rintro e w' ⟨rfl,rfl⟩)
      go_ret3
      exact⟨ret_three (HD.out.trans (read_last hbad hc128)),rfl⟩
     ·have hnx:=digit_next acc c k hacc0 hacc1
      have hk8:k≠9:=fun h=>by have:=not_bad hbad h;omega
      obtain⟨acc',hacc'⟩:∃x,x=acc+c%128*128^k:=⟨_,rfl⟩
      rw[<-hacc'] at hx hnx
      have HA:Hid (acc'=acc+c%128*128^k):=hacc'
      clear hacc'
      go_wp2_with (go_at_call 117;refine(follows_any _ _ _).mono ?_;rintro e w' ⟨rfl,rfl⟩)
      go_round
      case rel=>exact⟨k+1,acc',by omega,by omega,by go_num,rfl,hnx.1,hnx.2,by rw[HD.out,read_more hbad (by omega),HA.out]⟩
      case measure=>simp[intOf];omega
  ·have hkl:k=len:=by omega
   have HD:Hid (readL 0 0 zs=(0,(k:Int),11)):=hd.trans (read_none (by rw[<-HL.out];exact hlt))
   clear hd
   go_wp2
   go_ret3
   exact⟨ret_three (by rw[HD.out,hkl]),rfl⟩
end Go.Proofs.YtelnefngkdfcoaaGreat
/-
 Arrays in memory, and the contracts of tallied, whole, firsts and Check.
-/
namespace Go.Proofs.YtelnefngkdfcoaaGreat
open Go.RowKit Hf
theorem ret_int{k:IntKind}{a b:Int}(h:a=b):Ending.returned (.int k a)= .returned (.int k b):=by rw[h]
theorem bel_alloc(w:World)(o:Obj):Below w.heap.size w (w.alloc o):=(Below.refl _ _).alloc (Nat.le_refl _) o
theorem heap_new(w:World)(o:Obj):(w.alloc o).heap[w.heap.size]?=some o:=by
 show(w.heap.push o)[w.heap.size]?=_
 simp
def arr(k:IntKind)(l:List Nat):Array Value:=(l.map fun z:Nat=>Value.int k (z:Int)).toArray
theorem arr_size(k:IntKind)(l:List Nat):(arr k l).size=l.length:=by simp[arr]
theorem arr_get(k:IntKind)(l:List Nat)(i:Nat)(h:i<l.length):(arr k l)[i]?=some (.int k ((l.getD i 0:Nat):Int)):=by
 simp[arr,List.getD,List.getElem?_eq_getElem h]
theorem arr_set(k:IntKind)(l:List Nat)(i v:Nat):(arr k l).setIfInBounds i (.int k (v:Int))=arr k (l.set i v):=by
 simp[arr,List.map_set]
theorem arr_one(k:IntKind)(l:List Nat):(arr k l).all (·.oneCell')=true:=by
 simp[arr,Value.oneCell']
theorem Tryz.zero146:∀w,(zeroValue 146).run Tryz.prog w= .ok (.agg (arr .i64 z16)) w:=(zero_of_info (t:=146) (n:=16) (by kernel_rfl)).1
theorem Tryz.size146:(Tryz.prog.info? 146).map (·.size)=some 16:=by kernel_rfl
theorem heap_put_other{w:World}{g k i:Nat}{cs:Array Value}{t:TypeId}{fr:Nat×Nat}(h:w.heap[g]?=some (.cells cs t fr))(hk:k≠g)(v:Value):(w.setCell ⟨g,i,none⟩ v).heap[k]?=w.heap[k]?:=by
 rw[setCell_eq_setRow w g i cs t fr v h]
 exact setRow_other w g k _ hk
theorem wpList_alloc_row{P:Program}{ops:Array Oper}{rest:List Oper}{o:Oper}{a:Act}{w:World}{Q:Exit->Act->World->Prop}(hgd:o.guard=none)(ty:TypeId)(ho:o.op= .alloc ty)(d:Option Tmp)(hd:o.dst=d)(cs:Array Value)
 (hz:∀w,(zeroValue ty).run P w= .ok (.agg cs) w) (h:wpList P ops Q rest (a.put d (.pointer (some ⟨w.heap.size,0,none⟩))) (w.alloc (.cells cs ty))):wpList P ops Q (o::rest) a w:=by
 subst hd
 refine wpList_plain hgd fun _ hK=>?_
 unfold Oper.wp execOp
 simp only[ho,Instr.alloc,Sem.run_bind,hz,Result.andThen_ok,newVar]
 exact hK _ _ h
theorem wpList_alloc_at{P:Program}{ops:Array Oper}{rest:List Oper}{o:Oper}{a:Act}{w:World}{Q:Exit->Act->World->Prop}(hgd:o.guard=none)(ty:TypeId)(ho:o.op= .alloc ty)(d:Option Tmp)(hd:o.dst=d)(cs:Array Value)
 (hz:∀w,(zeroValue ty).run P w= .ok (.agg cs) w) (N:Nat) (hN:N=w.heap.size) (h:wpList P ops Q rest (a.put d (.pointer (some ⟨N,0,none⟩))) (w.alloc (.cells cs ty))):wpList P ops Q (o::rest) a w:=by
 subst hN;exact wpList_alloc_row hgd ty ho d hd cs hz h
theorem results_row_tmp{P:Program}{fn:Func}{p u:Tmp}{ty:TypeId}(h:fn.results= #[.cell p ty,.tmp u])(tmps:Array Value)(w:World)(g:Nat)(v:Value)(hp:tmps.getD p undef= .pointer (some ⟨g,0,none⟩))(hl:(loadVar ty ⟨g,0,none⟩).run P w= .ok v w):
 (results fn tmps).run P w= .ok (.tuple #[v,tmps.getD u undef]) w:=by
 rw[results_cell_tmp h,hp]
 simp[asAddr,hl]
theorem index_arr(l:List Nat)(i:Nat)(hl:l.length=16)(hi:i<16)(w:World):(Instr.index 146 (.agg (arr .i64 l)) (.int .i64 (i:Int))).run Tryz.prog w= .ok (.int .i64 ((l.getD i 0:Nat):Int)) w:=by
 have ha:(isAgg 3).run Tryz.prog w= .ok false w:=by
  unfold isAgg
  rw[Sem.run_bind,run_underlying Tryz.underlying3 w]
  rfl
 have hz:(Go.sizeOf 3).run Tryz.prog w= .ok 1 w:=Tryz.sizeOf3 w
 have hp:(part 3 (arr .i64 l) (i*1)).run Tryz.prog w= .ok (.int .i64 ((l.getD i 0:Nat):Int)) w:=by
  unfold part
  simp[Sem.run_bind,ha,arr_get .i64 l i (by omega)]
 have h0:(0:Int)<=(i:Int)∧(i:Int)<((16:Nat):Int):=by omega
 unfold Instr.index
 simp only[asIntOf,Sem.run_bind,Sem.run_pure,Result.andThen_ok,run_underlying Tryz.underlying146 w]
 rw[if_pos h0]
 simp only[Sem.run_bind,hz,Result.andThen_ok,Int.toNat_natCast,hp]
theorem wrap64_id{x:Int}(h1: -9223372036854775808<=x)(h2:x<9223372036854775808):wrap64 x=x:=by
 unfold wrap64;omega
theorem wsum_small(zs:List Int)(k:Nat)(hk:k<=16)(hl:zs.length<=520):wsum zs k<=272629760:=by
 have h:=wsum_le zs k
 have h2:k*(zs.length*32768)<=16*(520*32768):=Nat.mul_le_mul hk (Nat.mul_le_mul_right _ hl)
 omega
theorem term_int(c k:Nat)(h:k<16):(c:Int)*2^(15-(k:Int)).toNat=((c*2^(15-k):Nat):Int):=by
 rw[show(15-(k:Int)).toNat=15-k from by omega];simp
theorem term_small(c k:Nat)(h:c<=520):c*2^(15-k)<=17039360:=by
 have h2:2^(15-k)<=2^15:=Nat.pow_le_pow_right (by decide) (by omega)
 have h3:c*2^(15-k)<=520*2^15:=Nat.mul_le_mul h h2
 omega
set_option maxHeartbeats 400000 in
theorem whole_word(zs:List Int)(w:World)(hl:zs.length<=520):
 Calls Tryz.prog 115 #[.agg (arr .i64 (tal zs))] w fun e w'=>e= .returned (.bool (wsum zs 16==32768))∧Below w.heap.size w w':=by
 have b1:=bel_alloc w (.cells (arr .i64 (tal zs)) 146)
 have e1:=heap_new w (.cells (arr .i64 (tal zs)) 146)
 have zt:(Tryz.prog.info? 146).map (·.size)=some (arr .i64 (tal zs)).size:=by rw[arr_size,tal_length];exact Tryz.size146
 have HI:Hid (∀k:Nat,k<16->∀w,(Instr.index 146 (.agg (arr .i64 (tal zs))) (.int .i64 (k:Int))).run Tryz.prog w= .ok (.int .i64 ((cnt zs k:Nat):Int)) w):=by
  intro k hk w
  have h:=index_arr (tal zs) k (tal_length zs) hk w
  rwa[tal_getD zs k hk] at h
 generalize tal zs=tz at *
 go_enter Tryz.func115,Tryz.ntmps115
 go_wp2_with (first
  | (refine wpList_load_row rfl 146 _ rfl w.heap.size rfl 146 (arr .i64 tz) (0,0) _ e1 Tryz.underlying146 rfl zt ?_))
 go_loop [3,7] (fun s i=>∃k:Nat,k<=16∧i= .int .i64 k∧s= .int .i64 ((wsum zs k:Nat):Int)) (fun _ i=>16-(intOf i).toNat)
 case atStart=>exact⟨0,by omega,rfl,rfl⟩
 case round=>
  obtain⟨k,hk,rfl,rfl⟩:=hrel
  by_cases hlt:k<16
  ·have hk16:(k:Int)<16:=by omega
   have hx:=HI.out k hlt
   have hc:=cnt_le zs k
   have hw:=wsum_small zs k (by omega) hl
   have ht:=term_int (cnt zs k) k hlt
   have hs:=term_small (cnt zs k) k (by omega)
   have HE:=hid (show wsum zs (k+1)=wsum zs k+cnt zs k*2^(15-k) from rfl)
   generalize cnt zs k*2^(15-k)=t at *
   generalize wsum zs k=sm at *
   generalize cnt zs k=c at *
   have hp:(c:Int)*2^(15-k)=(t:Int):=by rw[<-ht,show(15-(k:Int)).toNat=15-k from by omega]
   go_wp2
   exact⟨⟨k+1,by omega,by go_num,by rw[HE.out];simp⟩,by simp[intOf];omega⟩
  ·obtain rfl:k=16:=by omega
   go_wp2
   go_ret
   refine⟨?_,b1⟩
   have hb:(((wsum zs 16:Nat):Int)==32768)=(wsum zs 16==32768):=by
    rw[Bool.eq_iff_iff,beq_iff_eq,beq_iff_eq];omega
   rw[<-hb];rfl
structure MemF (w wr:World) (tz fz:List Nat):Prop where
 many:wr.heap[w.heap.size]?=some (.cells (arr .i64 tz) 146 (0,0))
 res:wr.heap[w.heap.size+1]?=some (.cells (arr .i64 z16) 146 (0,0))
 fst:wr.heap[w.heap.size+1+1]?=some (.cells (arr .i64 fz) 146 (0,0))
 bel:Below w.heap.size w wr
theorem MemF.put{w wr:World}{tz fz:List Nat}(h:MemF w wr tz fz)(i v:Nat):MemF w (wr.setCell ⟨w.heap.size+1+1,i,none⟩ (.int .i64 (v:Int))) tz (fz.set i v):=by
 refine⟨?_,?_,?_,h.bel.setCell (by simp;omega) _⟩
 ·rw[heap_put_other h.fst (by omega)];exact h.many
 ·rw[heap_put_other h.fst (by omega)];exact h.res
 ·rw[Joins.block_setCell h.fst,arr_set]
theorem MemF.drew{w wr:World}{tz fz:List Nat}(h:MemF w wr tz fz):MemF w wr.drew tz fz:=⟨h.many,h.res,h.fst,h.bel.drew⟩
set_option maxHeartbeats 800000 in
set_option maxRecDepth 100000 in
theorem firsts_word(zs:List Int)(w:World)(hl:zs.length<=520):
 Calls Tryz.prog 95 #[.agg (arr .i64 (tal zs))] w fun e w'=>e= .returned (.agg (arr .i64 (fillF zs 16)))∧Below w.heap.size w w':=by
 have HG:=hid (tal_getD zs)
 have HTL:=hid (tal_length zs)
 have b1:=bel_alloc w (.cells (arr .i64 (tal zs)) 146)
 have s1:(w.alloc (.cells (arr .i64 (tal zs)) 146)).heap.size=w.heap.size+1:=by simp
 have e1:=heap_new w (.cells (arr .i64 (tal zs)) 146)
 have b2:=bel_alloc (w.alloc (.cells (arr .i64 (tal zs)) 146)) (.cells (arr .i64 z16) 146)
 have s2:((w.alloc (.cells (arr .i64 (tal zs)) 146)).alloc (.cells (arr .i64 z16) 146)).heap.size=w.heap.size+1+1:=by simp
 have e2:=heap_new (w.alloc (.cells (arr .i64 (tal zs)) 146)) (.cells (arr .i64 z16) 146)
 have b3:=bel_alloc ((w.alloc (.cells (arr .i64 (tal zs)) 146)).alloc (.cells (arr .i64 z16) 146)) (.cells (arr .i64 z16) 146)
 have e3:=heap_new ((w.alloc (.cells (arr .i64 (tal zs)) 146)).alloc (.cells (arr .i64 z16) 146)) (.cells (arr .i64 z16) 146)
 rw[s1] at e2
 rw[s2] at e3
 have e1':(((w.alloc (.cells (arr .i64 (tal zs)) 146)).alloc (.cells (arr .i64 z16) 146)).alloc (.cells (arr .i64 z16) 146)).heap[w.heap.size]?=some (.cells (arr .i64 (tal zs)) 146 (0,0)):=by rw[b3.block _ (by omega),b2.block _ (by omega)];exact e1
 have e2':(((w.alloc (.cells (arr .i64 (tal zs)) 146)).alloc (.cells (arr .i64 z16) 146)).alloc (.cells (arr .i64 z16) 146)).heap[w.heap.size+1]?=some (.cells (arr .i64 z16) 146 (0,0)):=by rw[b3.block _ (by omega)];exact e2
 have hM:MemF w (((w.alloc (.cells (arr .i64 (tal zs)) 146)).alloc (.cells (arr .i64 z16) 146)).alloc (.cells (arr .i64 z16) 146)) (tal zs) (fillF zs 1):=⟨e1',e2',by rw[fillF_one];exact e3,Bn (Bn b1 b2) b3⟩
 have HM:=hid hM
 clear b1 s1 e1 b2 s2 e2 b3 e3 e1' e2' hM
 generalize tal zs=tz at *
 go_enter Tryz.func95,Tryz.ntmps95
 go_wp2_with (first
  | (refine wpList_alloc_at rfl 146 rfl (some 2) rfl (arr .i64 z16) Tryz.zero146 (w.heap.size+1) (by simp) ?_)
  | (refine wpList_alloc_at rfl 146 rfl (some 3) rfl (arr .i64 z16) Tryz.zero146 (w.heap.size+1+1) (by simp) ?_))
 generalize ((w.alloc (.cells (arr .i64 tz) 146)).alloc (.cells (arr .i64 z16) 146)).alloc (.cells (arr .i64 z16) 146)=w3 at *
 go_loopw [4] (fun i wr=>∃j:Nat,j<=15∧i= .int .i64 ((j:Int)+1)∧MemF w wr tz (fillF zs (j+1))) (fun i _=>16-(intOf i).toNat)
 case atStart=>exact⟨0,by omega,rfl,HM.out⟩
 case round=>
  obtain⟨j,hj,rfl,hM⟩:=hrel
  by_cases hlt:j<15
  ·have hj16:(j:Int)+1<16:=by omega
   have hfl:=fillF_length zs (j+1)
   have c1:=(Joins.cell_of_block hM.fst j).trans (arr_get .i64 _ j (by omega))
   have c2:=(Joins.cell_of_block hM.many j).trans (arr_get .i64 _ j (by rw[HTL.out];omega))
   have cw:=(Joins.cell_of_block hM.fst (j+1)).trans (arr_get .i64 _ (j+1) (by omega))
   have fw:=Joins.unfrozen_of_block hM.fst (j+1)
   rw[fillF_getD _ _ _ (by omega),if_pos (by omega)] at c1
   rw[HG.out j (by omega)] at c2
   have hc:=cnt_le zs j
   have hs:=first_small zs j (by omega) hl
   have hput:=fun W (h:MemF w W tz (fillF zs (j+1)))=>(h.put (j+1) ((first zs j+cnt zs j)*2)).drew
   have e:=fillF_set zs (j+1) (by omega) (by omega)
   rw[show j+1-1=j from rfl] at e
   rw[e] at hput
   have HP:=hid hput
   have HMM:=hid hM
   clear hput hM hfl e
   generalize (fillF zs (j+1)).getD (j+1) 0=old at *
   generalize first zs j=f at *
   generalize cnt zs j=c at *
   have HV:Hid (((f:Int)+(c:Int))*2=(((f+c)*2:Nat):Int)):=by show _=_;omega
   go_wp2_with fail
   go_region
   rw[HV.out]
   have HP1:=hid (HP.out _ HMM.out)
   generalize hW2:(wr.setCell ⟨w.heap.size+1+1,j+1,none⟩ (.int .i64 (((f+c)*2:Nat):Int))).drew=W2 at *
   clear hW2 c1 c2 cw fw
   go_wp2
   go_roundw
   case rel=>exact⟨j+1,by omega,by go_num,HP1.out⟩
   case measure=>simp[intOf];omega
  ·obtain rfl:j=15:=by omega
   have hres:=hM.res
   have hfst:=hM.fst
   have hbel:=hM.bel
   have hsz:(arr .i64 (fillF zs 16)).size=16:=by rw[arr_size,fillF_length]
   clear hM HM
   go_wp2_with (first
    | (refine wpList_load_row rfl 146 _ rfl (w.heap.size+1+1) rfl 146 (arr .i64 (fillF zs 16)) (0,0) _ hfst Tryz.underlying146 rfl (by rw[hsz];exact Tryz.size146) ?_)
    | (refine wpList_store_rowTo rfl 146 _ _ rfl rfl (w.heap.size+1) (arr .i64 (fillF zs 16)) rfl rfl 146 _ hres (by rw[hsz];exact Tryz.size146) (by rw[hsz];rfl) (arr_one _ _) ?_))
   refine bodyPost_ret (results_cell_row (ty:=146) rfl _ _ _ _ _ _ _ rfl (setRow_heap _ _ _ _ _ _ hres) Tryz.underlying146 rfl (by rw[hsz];exact Tryz.size146)) rfl ?_
   exact⟨rfl,below_setRow hbel (by omega) _⟩
end Go.Proofs.YtelnefngkdfcoaaGreat
