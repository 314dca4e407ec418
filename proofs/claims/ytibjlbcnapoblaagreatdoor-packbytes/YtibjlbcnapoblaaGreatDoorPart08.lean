/- Contracts and facts. -/
import Derived.Test.YtibjlbcnapoblaaGreatDoorPart07
import Derived.Deep.Slices
import Derived.Lib.AppendZerosOnto
import Derived.Lib.SliceRun
import Derived.Lib.Walk
import Derived.Laws.AppendOwnNone
namespace Go.Proofs.YtibjlbcnapoblaaGreatDoor
set_option maxRecDepth 100000
set_option maxHeartbeats 6400000
section
open Go.RowKit Lz
abbrev Tkz:=Int×Int×Int
def zC(t:Tkz):Array Value:= #[.int .i64 t.1,.int .i64 t.2.1,.int .u8 t.2.2]
def Xdt(t:Tkz):Bool:=t.1==0&&t.2.1==1
def Xd0(t:Tkz):Bool:=decide (1<=t.1)&&(decide (t.1<=4096)&&(decide (4<=t.2.1)&&(decide (t.2.1<=258)&&t.2.2==0)))
def Qc5(t:Tkz):Int:=if Xdt t then 1 else if Xd0 t then 2 else 0
def Qew(t:Tkz):Int:=if Qc5 t=0 then 60 else 0
def Qio(t:Tkz)(n:Int):Int:=if Qc5 t=0 then 60 else if Qc5 t=2∧n<t.1 then 61 else if 65536<n+t.2.1 then 2 else 0
theorem Qfh(x a b:Int)(w:World)(h1:a<=x)(h2:x<=b):Calls Tryz.prog 160 #[.int .i64 x,.int .i64 a,.int .i64 b] w fun e w'=>e= .returned (.bool true)∧w'=w:=by
 go_enter Tryz.func160,Tryz.ntmps160
 go_wp2
 go_ret
 exact⟨rfl,rfl⟩
theorem Qlf(x a b:Int)(w:World)(h:¬(a<=x∧x<=b)):Calls Tryz.prog 160 #[.int .i64 x,.int .i64 a,.int .i64 b] w fun e w'=>e= .returned (.bool false)∧w'=w:=by
 by_cases h1:a<=x
 ·have h2:¬x<=b:=fun h'=>h ⟨h1,h'⟩
  clear h
  go_enter Tryz.func160,Tryz.ntmps160
  go_wp2
  go_ret
  exact⟨rfl,rfl⟩
 ·clear h
  go_enter Tryz.func160,Tryz.ntmps160
  go_wp2
  go_ret
  exact⟨rfl,rfl⟩
theorem Qqj(t:Tkz)(w:World):Calls Tryz.prog 145 #[.agg (zC t)] w fun e w'=>e= .returned (.int .i64 (Qc5 t))∧Below w.heap.size w w':=by
 obtain⟨d,n,x⟩:=t
 unfold zC
 by_cases hl:d=0∧n=1
 ·obtain⟨rfl,rfl⟩:=hl
  have HK:Hid (Qc5 (0,1,x)=1):=rfl
  go_enter Tryz.func145,Tryz.ntmps145
  go_wp2
  go_ret
  exact⟨by rw[HK.out];rfl,Qaa _ _⟩
 ·have hlit:Xdt (d,n,x)=false:=by
   unfold Xdt
   rw[Bool.eq_false_iff]
   simpa using hl
  have hk0:Qc5 (d,n,x)=if Xd0 (d,n,x) then 2 else 0:=by unfold Qc5;rw[hlit];rfl
  have hcb:Xd0 (d,n,x)=(decide (1<=d)&&(decide (d<=4096)&&(decide (4<=n)&&(decide (n<=258)&&x==0)))):=rfl
  have tail:∀(hd:1<=d∧d<=4096) (hn:4<=n∧n<=258),Qc5 (d,n,x)=if x=0 then 2 else 0:=fun hd hn=>by
   rw[hk0,hcb]
   simp[hd.1,hd.2,hn.1,hn.2]
  have h1no:¬(1<=d∧d<=4096)->Qc5 (d,n,x)=0:=fun h=>by
   rw[hk0,hcb,if_neg]
   simp only[Bool.and_eq_true,decide_eq_true_eq]
   exact fun h'=>h ⟨h'.1,h'.2.1⟩
  have h2no:¬(4<=n∧n<=258)->Qc5 (d,n,x)=0:=fun h=>by
   rw[hk0,hcb,if_neg]
   simp only[Bool.and_eq_true,decide_eq_true_eq]
   exact fun h'=>h ⟨h'.2.2.1,h'.2.2.2.1⟩
  have HT:=hid tail
  have H1:=hid h1no
  have H2:=hid h2no
  clear tail h1no h2no hcb hk0 hlit
  by_cases hd:1<=d∧d<=4096
  ·have hd0:(d==0)=false:=by simp;omega
   by_cases hn:4<=n∧n<=258
   ·have HK:=hid (HT.out hd hn)
    by_cases hx:x=0
    ·have hx0:(x==0)=true:=by simpa using hx
     rw[if_pos hx] at HK
     clear HT H1 H2 hl hx
     obtain⟨hd1,hd2⟩:=hd
     obtain⟨hn1,hn2⟩:=hn
     go_enter Tryz.func145,Tryz.ntmps145
     go_wp2_with fail
     refine(Qfh d 1 4096 _ hd1 hd2).mono ?_
     rintro _ w1 ⟨rfl,rfl⟩
     go_wp2_with fail
     refine(Qfh n 4 258 _ hn1 hn2).mono ?_
     rintro _ w1 ⟨rfl,rfl⟩
     go_wp2
     go_ret
     exact⟨by rw[HK.out];rfl,Qaa _ _⟩
    ·have hx0:(x==0)=false:=by simpa using hx
     rw[if_neg hx] at HK
     clear HT H1 H2 hl hx
     obtain⟨hd1,hd2⟩:=hd
     obtain⟨hn1,hn2⟩:=hn
     go_enter Tryz.func145,Tryz.ntmps145
     go_wp2_with fail
     refine(Qfh d 1 4096 _ hd1 hd2).mono ?_
     rintro _ w1 ⟨rfl,rfl⟩
     go_wp2_with fail
     refine(Qfh n 4 258 _ hn1 hn2).mono ?_
     rintro _ w1 ⟨rfl,rfl⟩
     go_wp2
     go_ret
     exact⟨by rw[HK.out];rfl,Qaa _ _⟩
   ·have HK:=hid (H2.out hn)
    have HN:=hid hn
    clear HT H1 H2 hl hn
    obtain⟨hd1,hd2⟩:=hd
    go_enter Tryz.func145,Tryz.ntmps145
    go_wp2_with fail
    refine(Qfh d 1 4096 _ hd1 hd2).mono ?_
    rintro _ w1 ⟨rfl,rfl⟩
    go_wp2_with fail
    refine(Qlf n 4 258 _ HN.out).mono ?_
    rintro _ w1 ⟨rfl,rfl⟩
    go_wp2
    go_ret
    exact⟨by rw[HK.out];rfl,Qaa _ _⟩
  ·have HK:=hid (H1.out hd)
   have HN:=hid hd
   clear HT H1 H2 hd
   by_cases hd0:d=0
   ·subst hd0
    have hn0:(n==1)=false:=by simpa using hl
    clear hl
    go_enter Tryz.func145,Tryz.ntmps145
    go_wp2_with fail
    refine(Qlf 0 1 4096 _ HN.out).mono ?_
    rintro _ w1 ⟨rfl,rfl⟩
    go_wp2
    go_ret
    exact⟨by rw[HK.out];rfl,Qaa _ _⟩
   ·have hd1:(d==0)=false:=by simpa using hd0
    clear hl hd0
    go_enter Tryz.func145,Tryz.ntmps145
    go_wp2_with fail
    refine(Qlf d 1 4096 _ HN.out).mono ?_
    rintro _ w1 ⟨rfl,rfl⟩
    go_wp2
    go_ret
    exact⟨by rw[HK.out];rfl,Qaa _ _⟩
theorem Qhj(t:Tkz):Qc5 t=0∨Qc5 t=1∨Qc5 t=2:=by
 unfold Qc5
 split
 ·exact .inr (.inl rfl)
 ·split
  ·exact .inr (.inr rfl)
  ·exact .inl rfl
theorem Qx2(t:Tkz)(w:World):Calls Tryz.prog 128 #[.agg (zC t)] w fun e w'=>e= .returned (.int .i64 (Qew t))∧Below w.heap.size w w':=by
 have HKW:=hid (Qqj t (w.alloc (.cells (zC t) 109)))
 obtain⟨d,n,x⟩:=t
 unfold zC at *
 dsimp only at *
 rcases Decidable.em (Qc5 (d,n,x)=0) with hk | hk
 ·have HC:Hid (Qew (d,n,x)=60):=by show _=_;unfold Qew;rw[if_pos hk]
  rw[hk] at HKW
  clear hk
  go_enter Tryz.func128,Tryz.ntmps128
  go_wp2_with fail
  refine HKW.out.mono ?_
  rintro _ w1 ⟨rfl,hb1⟩
  have HB:=hid (Bn (Qaa w _) hb1)
  clear hb1 HKW
  go_wp2
  go_ret
  exact⟨by rw[HC.out];rfl,HB.out⟩
 ·have HC:Hid (Qew (d,n,x)=0):=by show _=_;unfold Qew;rw[if_neg hk]
  have hkb:(Qc5 (d,n,x)==0)=false:=by simpa using hk
  generalize Qc5 (d,n,x)=k at *
  clear hk
  go_enter Tryz.func128,Tryz.ntmps128
  go_wp2_with fail
  refine HKW.out.mono ?_
  rintro _ w1 ⟨rfl,hb1⟩
  have HB:=hid (Bn (Qaa w _) hb1)
  clear hb1 HKW
  go_wp2
  go_ret
  exact⟨by rw[HC.out];rfl,HB.out⟩
theorem Qkh(t:Tkz):(Qc5 t=1->t.1=0∧t.2.1=1)∧(Qc5 t=2->1<=t.1∧t.1<=4096∧4<=t.2.1∧t.2.1<=258∧t.2.2=0):=by
 obtain⟨d,n,x⟩:=t
 unfold Qc5 Xdt Xd0
 simp only[Bool.and_eq_true,decide_eq_true_eq,beq_iff_eq]
 constructor
 ·intro h
  split at h
  ·assumption
  ·split at h<;>omega
 ·intro h
  split at h
  ·omega
  ·split at h
   ·assumption
   ·omega
theorem Qxq(t:Tkz) m (w:World) (hm0:0<=m) (hm:m<=65536):Calls Tryz.prog 143 #[.agg (zC t),.int .i64 m] w fun e w'=>e= .returned (.int .i64 (Qio t m))∧Below w.heap.size w w':=by
 have HKW:=hid (Qqj t (w.alloc (.cells (zC t) 109)))
 have hthree:=Qhj t
 have hkind:=Qkh t
 have hflt:Qio t m=if Qc5 t=0 then 60 else if Qc5 t=2∧m<t.1 then 61 else if 65536<m+t.2.1 then 2 else 0:=rfl
 obtain⟨d,n,x⟩:=t
 unfold zC at *
 dsimp only at *
 have e0:(w.alloc (.cells #[.int .i64 d,.int .i64 n,.int .u8 x] 109)).heap[w.heap.size]?=some (.cells #[.int .i64 d,.int .i64 n,.int .u8 x] 109 (0,0)):=Qaj _ _
 have HE0:=hid e0
 have HF:=hid hflt
 clear hflt e0
 rcases hthree with hk | hk | hk
 ·skip
  rw[hk] at HKW
  have HC:Hid (Qio (d,n,x) m=60):=by show _=_;rw[HF.out,hk];rfl
  clear hk HF hkind
  go_enter Tryz.func143,Tryz.ntmps143
  go_wp2_with fail
  refine HKW.out.mono ?_
  rintro _ w1 ⟨rfl,hb1⟩
  have e1:=(hb1.block w.heap.size (by simp)).trans HE0.out
  have c0:=Joins.cell_of_block e1 0
  have c1:=Joins.cell_of_block e1 1
  simp only[List.getElem?_toArray,List.getElem?_cons_zero,List.getElem?_cons_succ] at c0 c1
  have HB:=hid (Bn (Qaa w _) hb1)
  clear hb1 HKW e1 HE0
  go_wp2
  go_ret
  exact⟨by rw[HC.out];rfl,HB.out⟩
 ·obtain⟨hd0,hn1⟩:=hkind.1 hk
  subst hd0
  subst hn1
  by_cases hl:65536<m+1
  ·skip
   rw[hk] at HKW
   have HC:Hid (Qio (0,1,x) m=2):=by show _=_;rw[HF.out,hk];rw[if_neg (by decide),if_neg (by omega),if_pos hl]
   clear hk HF hkind
   go_enter Tryz.func143,Tryz.ntmps143
   go_wp2_with fail
   refine HKW.out.mono ?_
   rintro _ w1 ⟨rfl,hb1⟩
   have e1:=(hb1.block w.heap.size (by simp)).trans HE0.out
   have c0:=Joins.cell_of_block e1 0
   have c1:=Joins.cell_of_block e1 1
   simp only[List.getElem?_toArray,List.getElem?_cons_zero,List.getElem?_cons_succ] at c0 c1
   have HB:=hid (Bn (Qaa w _) hb1)
   clear hb1 HKW e1 HE0
   go_wp2
   go_ret
   exact⟨by rw[HC.out];rfl,HB.out⟩
  ·skip
   rw[hk] at HKW
   have HC:Hid (Qio (0,1,x) m=0):=by show _=_;rw[HF.out,hk];rw[if_neg (by decide),if_neg (by omega),if_neg hl]
   clear hk HF hkind
   go_enter Tryz.func143,Tryz.ntmps143
   go_wp2_with fail
   refine HKW.out.mono ?_
   rintro _ w1 ⟨rfl,hb1⟩
   have e1:=(hb1.block w.heap.size (by simp)).trans HE0.out
   have c0:=Joins.cell_of_block e1 0
   have c1:=Joins.cell_of_block e1 1
   simp only[List.getElem?_toArray,List.getElem?_cons_zero,List.getElem?_cons_succ] at c0 c1
   have HB:=hid (Bn (Qaa w _) hb1)
   clear hb1 HKW e1 HE0
   go_wp2
   go_ret
   exact⟨by rw[HC.out];rfl,HB.out⟩
 ·obtain⟨hd1,hd2,hn1,hn2,hx0⟩:=hkind.2 hk
  clear hx0
  by_cases hdm:m<d
  ·skip
   rw[hk] at HKW
   have HC:Hid (Qio (d,n,x) m=61):=by show _=_;rw[HF.out,hk];rw[if_neg (by decide),if_pos ⟨rfl,hdm⟩]
   clear hk HF hkind
   go_enter Tryz.func143,Tryz.ntmps143
   go_wp2_with fail
   refine HKW.out.mono ?_
   rintro _ w1 ⟨rfl,hb1⟩
   have e1:=(hb1.block w.heap.size (by simp)).trans HE0.out
   have c0:=Joins.cell_of_block e1 0
   have c1:=Joins.cell_of_block e1 1
   simp only[List.getElem?_toArray,List.getElem?_cons_zero,List.getElem?_cons_succ] at c0 c1
   have HB:=hid (Bn (Qaa w _) hb1)
   clear hb1 HKW e1 HE0
   go_wp2
   go_ret
   exact⟨by rw[HC.out];rfl,HB.out⟩
  ·by_cases hl:65536<m+n
   ·skip
    rw[hk] at HKW
    have HC:Hid (Qio (d,n,x) m=2):=by show _=_;rw[HF.out,hk];rw[if_neg (by decide),if_neg (fun h=>hdm h.2),if_pos hl]
    clear hk HF hkind
    go_enter Tryz.func143,Tryz.ntmps143
    go_wp2_with fail
    refine HKW.out.mono ?_
    rintro _ w1 ⟨rfl,hb1⟩
    have e1:=(hb1.block w.heap.size (by simp)).trans HE0.out
    have c0:=Joins.cell_of_block e1 0
    have c1:=Joins.cell_of_block e1 1
    simp only[List.getElem?_toArray,List.getElem?_cons_zero,List.getElem?_cons_succ] at c0 c1
    have HB:=hid (Bn (Qaa w _) hb1)
    clear hb1 HKW e1 HE0
    go_wp2
    go_ret
    exact⟨by rw[HC.out];rfl,HB.out⟩
   ·skip
    rw[hk] at HKW
    have HC:Hid (Qio (d,n,x) m=0):=by show _=_;rw[HF.out,hk];rw[if_neg (by decide),if_neg (fun h=>hdm h.2),if_neg hl]
    clear hk HF hkind
    go_enter Tryz.func143,Tryz.ntmps143
    go_wp2_with fail
    refine HKW.out.mono ?_
    rintro _ w1 ⟨rfl,hb1⟩
    have e1:=(hb1.block w.heap.size (by simp)).trans HE0.out
    have c0:=Joins.cell_of_block e1 0
    have c1:=Joins.cell_of_block e1 1
    simp only[List.getElem?_toArray,List.getElem?_cons_zero,List.getElem?_cons_succ] at c0 c1
    have HB:=hid (Bn (Qaa w _) hb1)
    clear hb1 HKW e1 HE0
    go_wp2
    go_ret
    exact⟨by rw[HC.out];rfl,HB.out⟩
theorem Xke(d n x:Int):Qew (d,n,x)=if (d=0∧n=1)∨(1<=d∧d<=4096∧4<=n∧n<=258∧x=0) then 0 else 60:=by
 unfold Qew Qc5 Xdt Xd0
 simp only[Bool.and_eq_true,decide_eq_true_eq,beq_iff_eq]
 by_cases h1:d=0∧n=1
 ·have h:(d=0∧n=1)∨(1<=d∧d<=4096∧4<=n∧n<=258∧x=0):= .inl h1
  rw[if_pos h1,if_pos h,if_neg (by decide)]
 ·by_cases h2:1<=d∧d<=4096∧4<=n∧n<=258∧x=0
  ·have h:(d=0∧n=1)∨(1<=d∧d<=4096∧4<=n∧n<=258∧x=0):= .inr h2
   rw[if_neg h1,if_pos h2,if_pos h,if_neg (by decide)]
  ·rw[if_neg h1,if_neg h2,if_pos rfl,if_neg (fun h=>h.elim h1 h2)]
end
section
open Go.ChangeShapes Go.WideShapes Go.ChangeAt Go.RowKit Go.Deep Lz
def tk0:Tkz:=(0,0,0)
structure Rt (w:World) (a:Option Addr) (cap:Nat) (l:List Tkz):Prop where
 room:l.length<=cap
 most:cap<=maxLen
 cells:0<l.length->∃b off,a=some ⟨b,off,none⟩∧b<w.heap.size∧∀j,j<l.length->w.cell? ⟨b,off+j*3,none⟩=some (.int .i64 (l.getD j tk0).1)∧w.cell? ⟨b,off+j*3+1,none⟩=some (.int .i64 (l.getD j tk0).2.1)∧w.cell? ⟨b,off+j*3+2,none⟩=some (.int .u8 (l.getD j tk0).2.2)
 fits:∀j,j<l.length->(Lit.int .i64 (l.getD j tk0).1).wf=true∧(Lit.int .i64 (l.getD j tk0).2.1).wf=true∧(Lit.int .u8 (l.getD j tk0).2.2).wf=true
theorem Rt.later{w w':World}{a:Option Addr}{cap:Nat}{l:List Tkz}(h:Rt w a cap l)(hb:Below w.heap.size w w'):Rt w' a cap l:=by
 refine⟨h.room,h.most,fun h0=>?_,h.fits⟩
 obtain⟨b,off,ha,hbw,hc⟩:=h.cells h0
 refine⟨b,off,ha,Nat.lt_of_lt_of_le hbw hb.size,fun j hj=>?_⟩
 obtain⟨c0,c1,c2⟩:=hc j hj
 exact⟨(hb.cell (p:=⟨b,off+j*3,none⟩) hbw).trans c0,(hb.cell (p:=⟨b,off+j*3+1,none⟩) hbw).trans c1,(hb.cell (p:=⟨b,off+j*3+2,none⟩) hbw).trans c2⟩
def toZ(t:Tok):Tkz:=((t.1:Int),(t.2.1:Int),t.2.2)
theorem flat_get(l:List Tok):∀j,j<l.length->(l.flatMap Qj5)[j*3]?=some (.int .i64 ((l.map toZ).getD j tk0).1)∧(l.flatMap Qj5)[j*3+1]?=some (.int .i64 ((l.map toZ).getD j tk0).2.1)∧(l.flatMap Qj5)[j*3+2]?=some (.int .u8 ((l.map toZ).getD j tk0).2.2):=by
 induction l with
 | nil=>intro j hj;simp at hj
 | cons t l ih=>
   intro j hj
   rw[List.flatMap_cons]
   cases j with
   | zero=>exact⟨rfl,rfl,rfl⟩
   | succ j=>
     have hl:(Qj5 t).length=3:=rfl
     obtain⟨h0,h1,h2⟩:=ih j (by simp at hj;omega)
     have e:∀i,(Qj5 t++l.flatMap Qj5)[(j+1)*3+i]?=(l.flatMap Qj5)[j*3+i]?:=fun i=>by
      rw[List.getElem?_append_right (by omega),hl]
      congr 1
      omega
     have eg:((t::l).map toZ).getD (j+1) tk0=(l.map toZ).getD j tk0:=rfl
     rw[eg]
     refine⟨?_,?_,?_⟩
     ·rw[<-h0];exact e 0
     ·rw[<-h1];exact e 1
     ·rw[<-h2];exact e 2
theorem Rt.own{w:World}{base:Nat}{v:Value}{l:List Tok}(h:w.ownsRow base 109 3 v l.length (l.flatMap Qj5))(hf:∀t∈l,t.1<=65536∧t.2.1<=65536∧(Lit.int .u8 t.2.2).wf=true):
 ∃a cap,v= .slice a l.length cap∧Rt w a cap (l.map toZ):=by
 have hfit:∀j,j<(l.map toZ).length->(Lit.int .i64 ((l.map toZ).getD j tk0).1).wf=true∧(Lit.int .i64 ((l.map toZ).getD j tk0).2.1).wf=true∧(Lit.int .u8 ((l.map toZ).getD j tk0).2.2).wf=true:=fun j hj=>by
  have hj':j<l.length:=by simpa using hj
  have e:(l.map toZ).getD j tk0=toZ l[j]:=by simp[List.getD,hj']
  obtain⟨f0,f1,f2⟩:=hf l[j] (List.getElem_mem hj')
  rw[e]
  exact⟨Qby (by simp only[toZ];omega) (by simp only[toZ];omega),Qby (by simp only[toZ];omega) (by simp only[toZ];omega),f2⟩
 obtain⟨hl,hn | ⟨g,cap,cur,rfl,hb,hg,hnc,hcm,hcur,htk⟩⟩:=id h
 ·obtain⟨rfl,h0⟩:=hn
  refine⟨none,0,by rw[h0],by simp[h0],by unfold maxLen;omega,fun h1=>by simp[h0] at h1,hfit⟩
 ·refine⟨some ⟨g,0,none⟩,cap,rfl,by simpa using hnc,hcm,fun h0=>⟨g,0,rfl,(Array.getElem?_eq_some_iff.1 hg).1,fun j hj=>?_⟩,hfit⟩
  have hj':j<l.length:=by simpa using hj
  obtain⟨h0,h1,h2⟩:=flat_get l j hj'
  simp only[Nat.zero_add]
  exact⟨(h.cellAt _ (by omega)).trans h0,(h.cellAt _ (by omega)).trans h1,(h.cellAt _ (by omega)).trans h2⟩
end
section
open Go.RowKit Lz
def Qeq:List Tkz->Int
 | []=>0
 | t::l=>t.2.1+Qeq l
def Qp1(l:List Tkz):Bool:=l.all fun t=>Qew t==0
def Qcd(l:List Tkz):Int×Int:=if Qp1 l=true then (if 65536<Qeq l then (0,2) else (Qeq l,0)) else (0,60)
theorem Qhr(a b:List Tkz):Qeq (a++b)=Qeq a+Qeq b:=by
 induction a with
 | nil=>simp[Qeq]
 | cons t a ih=>simp only[List.cons_append,Qeq,ih];omega
theorem Xhn(t:Tkz):Qew t=0∨Qew t=60:=by unfold Qew;split<;>simp
theorem Qt2{t:Tkz}(h:Qew t=0):1<=t.2.1∧t.2.1<=258:=by
 have hk:Qc5 t≠0:=fun e=>by unfold Qew at h;rw[if_pos e] at h;omega
 have hf:=Qkh t
 rcases Qhj t with k | k | k
 ·exact absurd k hk
 ·have:=hf.1 k;omega
 ·have:=hf.2 k;omega
theorem Qqr(l:List Tkz)(k:Nat)(h:k<l.length):l.take (k+1)=l.take k++ [l.getD k tk0]:=by
 rw[List.take_succ_eq_append_getElem h]
 simp[List.getD,h]
theorem Qln(l:List Tkz)(h:∀t∈l,Qew t=0):0<=Qeq l∧Qeq l<=258*l.length:=by
 induction l with
 | nil=>simp[Qeq]
 | cons t l ih=>
   have h1:=Qt2 (h t (by simp))
   have h2:=ih (fun x hx=>h x (by simp[hx]))
   simp only[Qeq,List.length_cons]
   omega
theorem Qt8(l:List Tkz)(h:∀t∈l,Qew t=0)(k:Nat):Qeq (l.take k)<=Qeq l:=by
 have e:Qeq l=Qeq (l.take k)+Qeq (l.drop k):=by rw[<-Qhr,List.take_append_drop]
 have:=(Qln (l.drop k) (fun t ht=>h t (List.mem_of_mem_drop ht))).1
 omega
theorem Qrn(l:List Tkz)(k:Nat)(h:k<l.length):l.getD k tk0∈l:=by
 simp only[List.getD,List.getElem?_eq_getElem h,Option.getD_some]
 exact List.getElem_mem h
theorem Xhm{l:List Tkz}(h:∀j,j<l.length->Qew (l.getD j tk0)=0):Qp1 l=true:=by
 unfold Qp1
 rw[List.all_eq_true]
 intro t ht
 obtain⟨j,hj,rfl⟩:=List.getElem_of_mem ht
 have:=h j hj
 simp only[List.getD,List.getElem?_eq_getElem hj,Option.getD_some] at this
 simpa using this
theorem Xbg{l:List Tkz}{k:Nat}(hk:k<l.length)(h:Qew (l.getD k tk0)≠0):Qp1 l=false:=by
 rw[Bool.eq_false_iff]
 intro ha
 unfold Qp1 at ha
 rw[List.all_eq_true] at ha
 exact h (by simpa using ha _ (Qrn l k hk))
theorem Qs9{l:List Tkz}(h:Qp1 l=true):∀t∈l,Qew t=0:=by
 unfold Qp1 at h
 rw[List.all_eq_true] at h
 exact fun t ht=>by simpa using h t ht
theorem Qra(a:Option Addr)(cap:Nat)(l:List Tkz)(w:World)(hr:Rt w a cap l)(hn:l.length<=100000):
 Calls Tryz.prog 100 #[.slice a l.length cap] w fun e w'=>e= .returned (.tuple #[.int .i64 (Qcd l).1,.int .i64 (Qcd l).2])∧Below w.heap.size w w':=by
 have hroom:=hr.room
 have hmost:=hr.most
 unfold maxLen at hmost
 have HR:=hid hr
 obtain⟨len,hle⟩:∃n,n=l.length:=⟨_,rfl⟩
 have HL:=hid hle
 rw[<-hle] at hn hroom|-
 clear hr hle
 go_enter Tryz.func100,Tryz.ntmps100
 go_wp2
 go_loopw [4,10] (fun x4 x10 wr=>∃k:Nat,k<=len∧x10= .int .i64 (k:Int)∧x4= .int .i64 (Qeq (l.take k))∧Below w.heap.size w wr∧Hid (∀j,j<k->Qew (l.getD j tk0)=0)) (fun _ x10 _=>len-(intOf x10).toNat)
 case atStart=>exact⟨0,by omega,rfl,rfl,Below.refl _ _,fun j hj=>absurd hj (by omega)⟩
 case round=>
  obtain⟨k,hk,rfl,rfl,hbel,HA⟩:=hrel
  have hsb:0<=Qeq (l.take k)∧Qeq (l.take k)<=258*100000:=by
   have h:=Qln (l.take k) (fun t ht=>by
    obtain⟨j,hj,rfl⟩:=List.getElem_of_mem ht
    have hj':j<k:=by simp at hj;omega
    have:=HA.out j hj'
    simp only[List.getElem_take]
    rw[List.getD,List.getElem?_eq_getElem (by rw[<-HL.out];omega)] at this
    exact this)
   have:((l.take k).length:Int)<=100000:=by simp;omega
   omega
  by_cases hlt:k<len
  ·have hkz:(k:Int)<(len:Int):=by omega
   obtain⟨b,off,rfl,hbw,hc⟩:=HR.out.cells (by rw[<-HL.out];omega)
   obtain⟨c0,c1,c2⟩:=hc k (by rw[<-HL.out];exact hlt)
   have d0:=(hbel.cell (p:=⟨b,off+k*3,none⟩) hbw).trans c0
   have d1:=(hbel.cell (p:=⟨b,off+k*3+1,none⟩) hbw).trans c1
   have d2:=(hbel.cell (p:=⟨b,off+k*3+2,none⟩) hbw).trans c2
   have HCK:=hid (Qx2 (l.getD k tk0) (wr.alloc (.cells (zC (l.getD k tk0)) 109)))
   have HTK:=hid (Qqr l k (by rw[<-HL.out];exact hlt))
   have HNOT:=hid (fun h=>Xbg (l:=l) (k:=k) (by rw[<-HL.out];exact hlt) h)
   have HLEN:=hid (fun h=>Qt2 (t:=l.getD k tk0) h)
   have hor:=Xhn (l.getD k tk0)
   have HAK:Hid (Qew (l.getD k tk0)=0->∀j,j<k+1->Qew (l.getD j tk0)=0):=fun h j hj=>by
    by_cases e:j=k
    ·subst e;exact h
    ·exact HA.out j (by omega)
   have HS:Hid (Qeq (l.take (k+1))=Qeq (l.take k)+(l.getD k tk0).2.1):=by
    show _=_
    rw[HTK.out,Qhr]
    simp[Qeq]
   generalize Qeq (l.take k)=s at *
   clear hc c0 c1 c2
   generalize l.getD k tk0=t at *
   obtain⟨d,n,x⟩:=t
   unfold zC at HCK
   dsimp only at *
   have hB1:=Qaa wr (.cells #[.int .i64 d,.int .i64 n,.int .u8 x] 109)
   have HB1:=hid (Bn hbel hB1)
   have e0:(wr.alloc (.cells #[.int .i64 d,.int .i64 n,.int .u8 x] 109)).heap[wr.heap.size]?=some (.cells #[.int .i64 d,.int .i64 n,.int .u8 x] 109 (0,0)):=Qaj _ _
   have HE0:=hid e0
   clear hB1 e0 hbel
   go_wp2_with fail
   refine HCK.out.mono ?_
   rintro _ w2 ⟨rfl,hb2⟩
   have e2:=(hb2.block wr.heap.size (by simp)).trans HE0.out
   have m1:=Joins.cell_of_block e2 1
   simp only[List.getElem?_toArray,List.getElem?_cons_zero,List.getElem?_cons_succ] at m1
   have HB2:=hid (Bn HB1.out hb2)
   clear hb2 HB1 HCK e2 HE0
   rcases hor with hor | hor
   ·obtain⟨hn1,hn2⟩:=HLEN.out hor
    have HAK2:=hid (HAK.out hor)
    rw[hor]
    clear hor HNOT
    go_wp2
    exact⟨⟨k+1,by omega,by go_num,by rw[HS.out],HB2.out,HAK2⟩,by simp[intOf];omega⟩
   ·have HO:Hid (Qcd l=(0,60)):=by
     show _=_
     unfold Qcd
     rw[HNOT.out (by omega),if_neg (by simp)]
    rw[hor]
    clear hor HNOT
    go_wp2
    go_ret2
    exact⟨by rw[HO.out];rfl,HB2.out⟩
  ·obtain rfl:k=len:=by omega
   have hkz:¬(k:Int)<(k:Int):=by omega
   have HT:Hid (l.take k=l):=List.take_of_length_le (by rw[<-HL.out];omega)
   have HAL:Hid (Qp1 l=true):=Xhm (fun j hj=>HA.out j (by rw[HL.out];exact hj))
   rw[HT.out] at hsb|-
   have HO:Hid (Qcd l=if 65536<Qeq l then (0,2) else (Qeq l,0)):=by show _=_;unfold Qcd;rw[HAL.out,if_pos rfl]
   generalize Qeq l=s at *
   by_cases hs:65536<s
   ·rw[if_pos hs] at HO
    go_wp2
    go_ret2
    exact⟨by rw[HO.out];rfl,hbel⟩
   ·rw[if_neg hs] at HO
    go_wp2
    go_ret2
    exact⟨by rw[HO.out];rfl,hbel⟩
end
section
open Go.RowKit Lz Go.ChangeShapes Go.WideShapes
def Qic(b:List Int)(d:Nat):Nat->List Int
 | 0=>b
 | n+1=>Qic b d n++ [(Qic b d n).getD ((Qic b d n).length-d) 0]
theorem Qo3(b:List Int)(d:Nat):∀n,(Qic b d n).length=b.length+n
 | 0=>rfl
 | n+1=>by simp only[Qic,List.length_append,Qo3 b d n,List.length_singleton];omega
def Qgu(b:List Int)(t:Tkz):List Int:=if t.1=0 then b++ [t.2.2] else Qic b t.1.toNat t.2.1.toNat
theorem Qmt(b c:List Int){j:Nat}(h:j<b.length):(b++c).getD j 0=b.getD j 0:=by
 simp only[List.getD,List.getElem?_append_left h]
theorem Qk1{b:List Int}(h:Qce b){x:Int}(hx:(Lit.int .u8 x).wf=true):Qce (b++ [x]):=by
 intro j
 rcases Nat.lt_trichotomy j b.length with hj | hj | hj
 ·rw[Qmt b [x] hj];exact h j
 ·subst hj;simpa [List.getD] using hx
 ·rw[Qf2 _ _ (by simp;omega)];exact Qb8 _
theorem Qjd{b:List Int}(h:Qce b)(d:Nat):∀n,Qce (Qic b d n)
 | 0=>h
 | n+1=>Qk1 (Qjd h d n) (Qjd h d n _)
theorem Qs1{b:List Int}(h:Qce b){t:Tkz}(ht:(Lit.int .u8 t.2.2).wf=true):Qce (Qgu b t):=by
 unfold Qgu
 split
 ·exact Qk1 h ht
 ·exact Qjd h _ _
abbrev Ob (w:World) (base:Nat) (v:Value) (b:List Int):Prop:=w.ownsRow base 5 1 v b.length (b.map (Value.int .u8))
theorem Xhr(w:World)(base:Nat):Ob w base (.slice none 0 0) []:=⟨rfl,.inl ⟨rfl,rfl⟩⟩
theorem Tryz.info5Z:(Tryz.prog.info? 5).map (fun i=>(i.zero,i.size,i.bytes))=some (some (.int .u8 0),1,1):=by kernel_rfl
theorem Qlc(w:World)(x:Value)(t:TypeId)(j:Nat)(u:Value)(h: [x][j]?=some u):(w.alloc (.cells #[x] t)).cell? ((⟨w.heap.size,0,none⟩:Addr).add j)=some u:=by
 have e:=Joins.cell_of_block (Qaj w (.cells #[x] t)) j
 rw[add_plain,Nat.zero_add,e,List.getElem?_toArray]
 exact h
theorem Qrw(k:IntKind)(x:Int):∀u ∈ [Value.int k x],u.oneCell'=true:=by
 intro u hu
 simp at hu
 subst hu
 rfl
theorem Qwm{t:Tkz}{m:Int}(h:Qio t m=0):(t.1=0∧t.2.1=1∧m+1<=65536)∨(1<=t.1∧t.1<=4096∧4<=t.2.1∧t.2.1<=258∧t.1<=m∧m+t.2.1<=65536):=by
 have hf:=Qkh t
 unfold Qio at h
 rcases Qhj t with k | k | k
 ·rw[if_pos k] at h;omega
 ·have h1:=hf.1 k
  rw[if_neg (by omega),if_neg (by omega)] at h
  split at h
  ·omega
  ·left;omega
 ·have h1:=hf.2 k
  rw[if_neg (by omega)] at h
  split at h
  ·omega
  ·rename_i hn
   split at h
   ·omega
   ·right
    have:¬m<t.1:=fun h'=>hn ⟨k,h'⟩
    omega
theorem Qw9(t:Tkz)(b:List Int)(v:Value)(base:Nat)(w:World)(hown:Ob w base v b)(hf:Qio t b.length=0)(hb:base<=w.heap.size):
 Calls Tryz.prog 144 #[v,.agg (zC t)] w fun e w'=>∃v',e= .returned v'∧Ob w' base v' (Qgu b t)∧Below base w w':=by
 have hz:=Qwm hf
 have HG:Hid (Qgu b t=if t.1=0 then b++ [t.2.2] else Qic b t.1.toNat t.2.1.toNat):=rfl
 obtain⟨d,n,x⟩:=t
 unfold zC
 dsimp only at *
 clear hf
 obtain⟨i0,hi,hi0,hi1,hi2⟩:=info_parts Tryz.info5Z
 have HBA:=hid (Qaa w (.cells #[.int .i64 d,.int .i64 n,.int .u8 x] 109))
 have hownA:=hown.alloc (.cells #[.int .i64 d,.int .i64 n,.int .u8 x] 109)
 rcases hz with ⟨hd0,hn1,hm⟩ | ⟨hd1,hd2,hn1,hn2,hdm,hm⟩
 ·rw[if_pos hd0] at HG
  have hdb:(d==0)=true:=by simpa using hd0
  have hob:=Qiv hown
  clear hd0 hn1
  go_enter Tryz.func144,Tryz.ntmps144
  go_wp2_with (at_builtin;refine wpList_append_own _ rfl _ _ 22 rfl base 5 i0 (.int .u8 0) 1 1 Tryz.underlying22 hi hi0 hi1 hi2 rfl (by decide) _ _ _ rfl (hownA.alloc _) ⟨w.heap.size+1,0,none⟩ 1 1 [.int .u8 x] rfl rfl (by have:=Qlc (w.alloc (.cells #[.int .i64 d,.int .i64 n,.int .u8 x] 109)) (.int .u8 x) 5;simpa only[World.size_alloc] using this) (Qrw _ _) (by unfold maxLen;omega) (by omega) (by simp;omega) ?_)
  intro v' w3 hown3 hgrow3 _
  have HB3:Hid (Below base w w3):=((HBA.out.mono hb).trans ((Qaa _ (.cells #[.int .u8 x] 5)).mono (by simp;omega))).grown hgrow3 (by simp;omega) (fun g hg=>(hob g hg).1)
  have HO3:Hid (Ob w3 base v' (Qgu b (d,n,x))):=by
   show World.ownsRow _ _ _ _ _ _ _
   rw[HG.out,List.length_append,List.map_append]
   exact hown3
  clear hown3 hgrow3 hownA hown hob
  go_wp2
  go_ret
  exact⟨_,rfl,HO3.out,HB3.out⟩
 ·rw[if_neg (by omega)] at HG
  have hdb:(d==0)=false:=by simp;omega
  obtain⟨D,hD⟩:∃D:Nat,d=(D:Int):=⟨d.toNat,by omega⟩
  obtain⟨N,hN⟩:∃N:Nat,n=(N:Int):=⟨n.toNat,by omega⟩
  subst hD
  subst hN
  simp only[Int.toNat_natCast] at HG
  have hDb:D<=b.length:=by omega
  have hD1:1<=D:=by omega
  have hNm:b.length+N<=65536:=by omega
  have HLEN:Hid (∀j,(Qic b D j).length=b.length+j):=fun j=>Qo3 b D j
  have e0:(w.alloc (.cells #[.int .i64 (D:Int),.int .i64 (N:Int),.int .u8 x] 109)).heap[w.heap.size]?=some (.cells #[.int .i64 (D:Int),.int .i64 (N:Int),.int .u8 x] 109 (0,0)):=Qaj _ _
  have HE0:=hid e0
  have HOA:Hid (Ob (w.alloc (.cells #[.int .i64 (D:Int),.int .i64 (N:Int),.int .u8 x] 109)) base v (Qic b D 0)):=hownA
  have hwA:base<=w.heap.size:=hb
  obtain⟨bl,hbl⟩:∃bl,bl=b.length:=⟨_,rfl⟩
  rw[<-hbl] at hDb hNm
  rw[<-hbl] at HLEN
  clear hownA hown hbl hdm hm hd1 hd2 hn1 hn2 e0
  go_enter Tryz.func144,Tryz.ntmps144
  go_wp2_with fail
  go_loopw [0,15] (fun x0 x15 wr=>∃j:Nat,j<=N∧x15= .int .i64 (j:Int)∧Ob wr base x0 (Qic b D j)∧wr.heap[w.heap.size]?=some (.cells #[.int .i64 (D:Int),.int .i64 (N:Int),.int .u8 x] 109 (0,0))∧Below base w wr) (fun _ x15 _=>N-(intOf x15).toNat)
  case atStart=>exact⟨0,by omega,rfl,HOA.out,HE0.out,HBA.out.mono hb⟩
  case round=>
   clear HOA HE0 HBA
   obtain⟨j,hj,rfl,hown,htb,hbel⟩:=hrel
   have hlen:=HLEN.out j
   have hlt0:=(Array.getElem?_eq_some_iff.1 htb).1
   by_cases hlt:j<N
   ·have hjz:(j:Int)<(N:Int):=by omega
    have HST:Hid (Qic b D (j+1)=Qic b D j++ [(Qic b D j).getD ((Qic b D j).length-D) 0]):=rfl
    have hob:=Qiv hown
    have hne:u0.ownBlock≠some w.heap.size:=fun e=>by
     rcases hown.2 with ⟨hv,_⟩ | ⟨g',cap',cur',hv,_,hg',_⟩
     ·rw[hv] at e;cases e
     ·rw[hv] at e
      simp only[Value.ownBlock,Option.some.injEq] at e
      rw[e,htb] at hg'
      cases hg'
    obtain⟨L,hL⟩:∃L,L+1=(Qic b D j).length:=⟨bl+j-1,by omega⟩
    obtain⟨g,cap,rfl⟩:=ownsRow_succ (k:=L) (by rw[hL];exact hown)
    obtain⟨i,hi'⟩:∃i,i=(Qic b D j).length-D:=⟨_,rfl⟩
    rw[<-hi'] at HST
    have hcap:(Qic b D j).length<=cap∧cap<=maxLen:=by
     rcases hown.2 with ⟨hv,_⟩ | ⟨g',cap',cur',hv,_,_,h1,h2,_⟩
     ·cases hv
     ·injection hv with _ _ h3
      rw[h3]
      exact⟨h1,h2⟩
    unfold maxLen at hcap
    have hLb:L+1=bl+j:=by omega
    have ci:wr.cell? ⟨g,i,none⟩=some (.int .u8 ((Qic b D j).getD i 0)):=by
     rw[hL] at hown
     rw[hown.cellAt i (by omega),List.getElem?_map,List.getElem?_eq_getElem (by omega)]
     simp[List.getD,List.getElem?_eq_getElem (show i<(Qic b D j).length by omega)]
    obtain⟨M,hM⟩:∃M,M=L+1:=⟨_,rfl⟩
    rw[<-hM] at hown hL hLb hob hne|-
    have hiz:(M:Int)-(D:Int)=(i:Int):=by omega
    have hiM:i<M:=by omega
    have m0:=Joins.cell_of_block htb 0
    have m1:=Joins.cell_of_block htb 1
    simp only[List.getElem?_toArray,List.getElem?_cons_zero,List.getElem?_cons_succ] at m0 m1
    have hMl:M<=65536:=by omega
    have HTB:=hid htb
    have HBEL:=hid hbel
    have HOB:=hid hob
    have HNE:=hid hne
    have hwb:=hbel.size
    have HLM:Hid ((Qic b D j).length=M):=hL.symm
    generalize (Qic b D j).getD i 0=y at *
    have hown2:wr.ownsRow base 5 1 (.slice (some ⟨g,0,none⟩) M cap) M ((Qic b D j).map (Value.int .u8)):=by
     have h:wr.ownsRow base 5 1 (.slice (some ⟨g,0,none⟩) M cap) (Qic b D j).length ((Qic b D j).map (Value.int .u8)):=hown
     rwa[HLM.out] at h
    clear hM hL hLb hob hne htb hbel hown hcap hlen hi' HLEN
    go_wp2_with (at_builtin;refine wpList_append_own _ rfl _ _ 22 rfl base 5 i0 (.int .u8 0) 1 1 Tryz.underlying22 hi hi0 hi1 hi2 rfl (by decide) _ _ _ rfl (hown2.alloc _) ⟨wr.heap.size,0,none⟩ 1 1 [.int .u8 y] rfl rfl (Qlc wr (.int .u8 y) 5) (Qrw _ _) (by unfold maxLen;omega) (by omega) (by simp;omega) ?_)
    intro v' w3 hown3 hgrow3 _
    have HB3:Hid (Below base w w3):=(HBEL.out.trans ((Qaa wr (.cells #[.int .u8 y] 5)).mono (by omega))).grown hgrow3 (by simp;omega) (fun g hg=>(HOB.out g hg).1)
    have HT3:Hid (w3.heap[w.heap.size]?=some (.cells #[.int .i64 (D:Int),.int .i64 (N:Int),.int .u8 x] 109 (0,0))):=
     (hgrow3.block w.heap.size (by simp;omega) (fun e=>HNE.out e.symm)).trans (Qai _ _ HTB.out)
    have HO3:Hid (Ob w3 base v' (Qic b D (j+1))):=by
     show World.ownsRow _ _ _ _ _ _ _
     rw[HST.out,List.length_append,List.map_append,HLM.out]
     exact hown3
    clear hown3 hgrow3 hown2 ci m0 m1 HOB HNE HBEL HTB
    go_wp2
    exact⟨⟨j+1,by omega,by go_num,HO3.out,HT3.out,HB3.out⟩,by simp[intOf];omega⟩
   ·obtain rfl:j=N:=by omega
    have hjz:¬(j:Int)<(j:Int):=by omega
    go_wp2
    go_ret
    exact⟨_,rfl,by rw[HG.out];exact hown,hbel⟩
end
section
open Go.RowKit
theorem run_append_nil{P:Program}{w:World}(base:Nat)(t ty e:TypeId)(i:TypeInfo)(size cp:Nat)(ht:P.underlying t=some (.slice e))(hi:P.info? e=some i)
 (v:Value) (n:Nat) (xs:List Value) (hown:w.ownsRow base e size v n xs):(Builtin.append_ #[t,t] ty #[v,.slice none 0 cp]).run P w= .ok v w:=by
 rcases hown.2 with ⟨rfl,rfl⟩ | ⟨g,cap,cur,rfl,_,_,hnc,_⟩
 ·simp[Builtin.append_,run_underlying ht,sizeOf,typeInfo,hi,Builtin.lenOf,Builtin.firstCells]
 ·simp[Builtin.append_,run_underlying ht,sizeOf,typeInfo,hi,Builtin.lenOf,Builtin.firstCells,hnc,storeCells]
theorem Qjf{P:Program}{w:World}{ops:Array Oper}{rest:List Oper}{o:Oper}{a:Act}{Q:Exit->Act->World->Prop}(hgd:o.guard=none)(s x:Operand)(t:TypeId)
 (ho:o.op= .call {callee:= .builtin .append,args:= #[s,x],argTypes:= #[t,t]}) (base:Nat) (e:TypeId) (i:TypeInfo) (size cp:Nat) (ht:P.underlying t=some (.slice e)) (hi:P.info? e=some i)
 (v:Value) (n:Nat) (xs:List Value) (hs:a.eval s=v) (hown:w.ownsRow base e size v n xs) (hx:a.eval x= .slice none 0 cp)
 (h:wpList P ops Q rest (a.put o.dst v) w):wpList P ops Q (o::rest) a w:=by
 refine wpList_plain hgd fun K hK=>?_
 have hrun:=run_append_nil (P:=P) (w:=w) base t o.type e i size cp ht hi v n xs hown
 unfold Oper.wp
 simp[execOp,ho,resolve,invoke,builtin,hs,hx,hrun,Result.andThen]
 exact hK _ _ h
theorem Qch(w:World){ops:Array Oper}{rest:List Oper}{o:Oper}{ac:Act}{Q:Exit->Act->World->Prop}(hgd:o.guard=none)(s x:Operand)
 (ho:o.op= .call {callee:= .builtin .append,args:= #[s,x],argTypes:= #[22,22]}) (B:Nat) (v:Value) (l:List Int) (hs:ac.eval s=v) (hown:w.ownsRow B 5 1 v l.length (l.map (Value.int .u8)))
 (a:Option Addr) (cap:Nat) (zs:List Int) (hx:ac.eval x= .slice a zs.length cap) (hrd:Ri w .u8 a cap zs) (hbd:l.length+zs.length<=10000000) (hB:B<=w.heap.size)
 (h:∀v' w',w'.ownsRow B 5 1 v' (l++zs).length ((l++zs).map (Value.int .u8))->w.grownBy w' v.ownBlock->wpList Tryz.prog ops Q rest (ac.put o.dst v') w'):wpList Tryz.prog ops Q (o::rest) ac w:=by
 obtain⟨i0,hi,hz0,hz1,hz2⟩:=info_parts Tryz.info5Z
 cases a with
 | none=>
   have hz:zs= []:=by
    apply List.length_eq_zero_iff.1
    rcases Nat.eq_zero_or_pos zs.length with h | h
    ·exact h
    ·obtain⟨_,_,h',_⟩:=hrd.cells h
     cases h'
   subst hz
   refine Qjf hgd s x 22 ho B 5 i0 1 cap Tryz.underlying22 hi v l.length _ hs hown hx ?_
   have:=h v w (by simpa using hown) (World.grownBy.refl _ _)
   exact this
 | some ad=>
   refine wpList_append_own w hgd s x 22 ho B 5 i0 (.int .u8 0) 1 1 Tryz.underlying22 hi hz0 hz1 hz2 rfl (by decide) v l.length _ hs hown ad zs.length cap (zs.map (Value.int .u8)) hx (by simp) ?_ (fun u hu=>by obtain⟨y,_,rfl⟩:=List.mem_map.1 hu;rfl) (by unfold maxLen;omega) (by omega) hB ?_
   ·intro j u hj
    have hjl:j<zs.length:=by
     have:=(List.getElem?_eq_some_iff.1 hj).1
     simpa using this
    obtain⟨b,off,hb,_,hc⟩:=hrd.cells (by omega)
    have hb':=Option.some.inj hb
    subst hb'
    rw[Go.WideShapes.add_plain,hc j hjl,<-hj]
    simp[List.getD,List.getElem?_eq_getElem hjl]
   ·intro v' w' h1 h2 _
    refine h v' w' ?_ h2
    rw[List.length_append,List.map_append]
    exact h1
end
end Go.Proofs.YtibjlbcnapoblaaGreatDoor
