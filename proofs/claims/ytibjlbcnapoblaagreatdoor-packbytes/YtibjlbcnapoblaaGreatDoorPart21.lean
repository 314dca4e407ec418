/- Contracts and facts. -/
import Derived.Test.YtibjlbcnapoblaaGreatDoorPart20
namespace Go.Proofs.YtibjlbcnapoblaaGreatDoor
set_option maxRecDepth 100000
set_option maxHeartbeats 6400000
section
open Go.RowKit Lz Hf
def Qev(l:List Nat):List Int:=l.map (fun n:Nat=>(n:Int))
theorem Qa5(l:List Nat):(Qev l).length=l.length:=by simp[Qev]
theorem Qen(l:List Nat)(j:Nat):(Qev l).getD j 0=((l.getD j 0:Nat):Int):=by
 unfold Qev
 simp only[List.getD,List.getElem?_map]
 cases l[j]?<;>rfl
def Qhp(ls cs ds es:List Int)(l:List Tkz):Nat->List Int×Nat->List Int×Nat
 | 0,s=>s
 | k+1,s=>Xdy ls cs ds es (l.getD k tk0) (Qhp ls cs ds es l k s)
def lsF(l:List Tkz):List Int:=Qgk (Qev (Qau l l.length))
def dsF(l:List Tkz):List Int:=Qgk (Qev (Qar l l.length))
def Qpp(l:List Tkz):List Int:=Qc7 (lsF l)++Qc7 (dsF l)++Qe0 (l.length:Int)
def Qb2(l:List Tkz):List Int:=(Qhp (lsF l) (Qam (lsF l)) (dsF l) (Qam (dsF l)) l l.length (Qpp l,0)).1
theorem Qv1{w:World}{g:Nat}{t:TypeId}{l:List Nat}{fr:Nat×Nat}(h:w.heap[g]?=some (.cells (arr .i64 l) t fr))(hl:l.length<=1000)(hb:∀j,l.getD j 0<=4000000):Ri w .i64 (some ⟨g,0,none⟩) l.length (Qev l):=by
 refine⟨by rw[Qa5];exact Nat.le_refl _,by unfold maxLen;omega,fun _=>⟨g,0,rfl,(Array.getElem?_eq_some_iff.1 h).1,fun j hj=>?_⟩,fun j=>?_⟩
 ·rw[Qa5] at hj
  rw[Nat.zero_add,Joins.cell_of_block h,Qas .i64 l j hj,Qen]
 ·rw[Qen]
  have:=hb j
  exact Qby (by omega) (by omega)
theorem Qe2(l:List Nat)(hl:l.length<=512)(hb:∀j,l.getD j 0<=4000000):Qnw (Qev l)=true:=Qq1 _ (fun k hk=>by
 rw[Qa5] at hk
 rw[Qen]
 have:=hb k
 omega)
abbrev T5 (s z pk pd tz tkd vk vd u8 u9 u26 u27 u28 u29:Value):Array Value:=
 #[s,undef,.slice none 0 0,.int .i64 0,z,.int .i64 0,pk,pd,u8,u9,undef,undef,undef,tz,s,tz,z,.int .i64 0,.int .i64 0,.bool false,undef,tkd,s,tkd,vk,vd,u26,u27,u28,u29,undef,undef,undef,undef,undef,undef,undef,undef,undef,undef,undef,undef,undef,undef,undef,undef,undef,undef,undef,undef,undef,undef,undef,undef,undef,undef]
def Cd(W:World)(u:Value)(n:Nat)(cs:List Int):Prop:=∃a1 c1 a2 c2,u= .agg #[.slice a1 n c1,.slice a2 n c2]∧Ri W .i64 a1 c1 (Qgk cs)∧Ri W .u16 a2 c2 (Qam (Qgk cs))
theorem Cd.later{W W':World}{u:Value}{n:Nat}{cs:List Int}(h:Cd W u n cs)(hb:Below W.heap.size W W'):Cd W' u n cs:=by
 obtain⟨a1,c1,a2,c2,h1,h2,h3⟩:=h
 exact⟨a1,c1,a2,c2,h1,h2.later hb,h3.later hb⟩
def Vc(B:Nat)(W:World)(p:Value)(c:Array Value):Prop:=∃g,p= .pointer (some ⟨g,0,none⟩)∧B<=g∧W.heap[g]?=some (.cells c 157 (0,0))
theorem Vc.later{B:Nat}{W W':World}{p:Value}{c:Array Value}(h:Vc B W p c)(hb:Below W.heap.size W W'):Vc B W' p c:=by
 obtain⟨g,h1,h2,h3⟩:=h
 exact⟨g,h1,h2,(hb.block g (Array.getElem?_eq_some_iff.1 h3).1).trans h3⟩
def Xhz:Array Value:= #[.slice none 0 0,.slice none 0 0]
structure I5 (s z pk pd tz tkd vk vd:Value) (gk gd:Nat) (kc dc:List Int) (W3:World) (l:Array Bool) (a:Act) (W:World):Prop where
 size:l.size=8
 bel:Below W3.heap.size W3 W
 fr:∃u8 u9 u26 u27 u28 u29,a=⟨T5 s z pk pd tz tkd vk vd u8 u9 u26 u27 u28 u29,[]⟩ ∧
  (l.getD 0 false=true->u26= .slice (some ⟨gk,0,none⟩) 511 511)∧(l.getD 2 false=true->u28= .slice (some ⟨gd,0,none⟩) 13 13) ∧
  (l.getD 1 false=true->Cd W u27 511 kc)∧(l.getD 3 false=true->Cd W u29 13 dc) ∧
  (l.getD 4 false=true->∃c,Vc W3.heap.size W u8 c∧(l.getD 6 false=false->c=Xhz)∧(l.getD 6 false=true->u27= .agg c)) ∧
  (l.getD 5 false=true->∃c,Vc W3.heap.size W u9 c∧(l.getD 7 false=false->c=Xhz)∧(l.getD 7 false=true->u29= .agg c)) ∧
  (l.getD 4 false=true->l.getD 5 false=true->u8≠u9)
 o6:l.getD 6 false=true->l.getD 4 false=true∧l.getD 1 false=true∧l.getD 3 false=true∧l.getD 5 false=true
 o7:l.getD 7 false=true->l.getD 6 false=true
theorem Cd.apart{W:World}{u:Value}{n:Nat}{cs:List Int}{g:Nat}(h:Cd W u n cs)(hg:W.heap[g]?=some (.cells Xhz 157 (0,0)))(c:Array Value):Cd (W.setRow g c) u n cs:=by
 obtain⟨a1,c1,a2,c2,h1,h2,h3⟩:=h
 have hno:∀(kd:IntKind) (i:Nat) (x:Int),Xhz[i]?≠some (Value.int kd x):=fun kd i x h=>by
  unfold Xhz at h
  match i,h with
  | 0,h=>simp at h
  | 1,h=>simp at h
  | i+2,h=>simp at h
 exact⟨a1,c1,a2,c2,h1,h2.apart hg (hno _) c,h3.apart hg (hno _) c⟩
theorem Qci{l:Array Bool}{i:Nat}(h:l.getD i true=false):l.getD i false=false:=by
 have:=Inv.Xf7 h
 simpa [this] using h
abbrev T6 (s z pk pd tz tkd vk vd p8 p9 v26 v27 v28 v29 u10 u30 u31 u32 u33 u34 u35 u36 u37 u38 u39 u40 u41 u42:Value):Array Value:=
 #[s,undef,.slice none 0 0,.int .i64 0,z,.int .i64 0,pk,pd,p8,p9,u10,undef,undef,tz,s,tz,z,.int .i64 0,.int .i64 0,.bool false,undef,tkd,s,tkd,vk,vd,v26,v27,v28,v29,u30,u31,u32,u33,u34,u35,u36,u37,u38,u39,u40,u41,u42,undef,undef,undef,undef,undef,undef,undef,undef,undef,undef,undef,undef,undef]
def Rw8(W:World)(u:Value)(r:List Int):Prop:=∃x c,u= .slice x r.length c∧Ri W .u8 x c r
theorem Rw8.later{W W':World}{u:Value}{r:List Int}(h:Rw8 W u r)(hb:Below W.heap.size W W'):Rw8 W' u r:=by
 obtain⟨x,c,h1,h2⟩:=h
 exact⟨x,c,h1,h2.later hb⟩
theorem Xg3{a b:List Int}(h1:∀j,0<=a.getD j 0∧a.getD j 0<=255)(h2:∀j,0<=b.getD j 0∧b.getD j 0<=255)(j:Nat):0<=(a++b).getD j 0∧(a++b).getD j 0<=255:=by
 by_cases c:j<a.length
 ·have:=h1 j
  simpa [List.getD,List.getElem?_append_left c] using this
 ·have:=h2 (j-a.length)
  simpa [List.getD,List.getElem?_append_right (show a.length<=j by omega)] using this
theorem Xf8(ls cs ds es:List Int)(hl:∀j,0<=ls.getD j 0∧ls.getD j 0<=15)(hd:∀j,0<=ds.getD j 0∧ds.getD j 0<=15)(t:Tkz)(ht:t.1<=4096)(st:List Int×Nat):(Xdy ls cs ds es t st).1.length<=st.1.length+45:=by
 unfold Xdy
 have h1:=Qkb ls cs hl (Qff t).toNat st
 split
 ·omega
 ·have h2:=Qkb ds es hd (Qfy t.1).toNat (Qim ls cs (Qff t).toNat st)
  have h3:=Qo7 t.1.toNat (Qfy t.1).toNat (Qim ds es (Qfy t.1).toNat (Qim ls cs (Qff t).toNat st))
  have h4:(Qfy t.1).toNat<=12:=by
   unfold Qfy
   have:Nat.log2 t.1.toNat<=12:=by
    by_cases c:t.1.toNat=0
    ·rw[c];decide
    ·have:=(Nat.log2_lt c).2 (show t.1.toNat<2^13 by omega);omega
   omega
  omega
theorem Qrx(ls cs ds es:List Int)(hl:∀j,0<=ls.getD j 0∧ls.getD j 0<=15)(hd:∀j,0<=ds.getD j 0∧ds.getD j 0<=15)(l:List Tkz)(ht:∀j,j<l.length->(l.getD j tk0).1<=4096)(st:List Int×Nat):∀k,k<=l.length->(Qhp ls cs ds es l k st).1.length<=st.1.length+45*k
 | 0,_=>Nat.le_refl _
 | k+1,hk=>by
   have h1:=Qrx ls cs ds es hl hd l ht st k (by omega)
   have h2:=Xf8 ls cs ds es hl hd (l.getD k tk0) (ht k (by omega)) (Qhp ls cs ds es l k st)
   rw[Qhp];omega
def Xll(e:Ending)(W:World)(r:List Int):Prop:=∃x c,e= .returned (.slice x r.length c)∧Ri W .u8 x c r
theorem Xg6{e:Ending}{W W':World}{r:List Int}(h:∃v,e= .returned v∧W'.ownsRow W.heap.size 5 1 v r.length (r.map (Value.int .u8))∧Below W.heap.size W W')(h8:∀j,0<=r.getD j 0∧r.getD j 0<=255):Xll e W' r∧Below W.heap.size W W':=by
 obtain⟨v,rfl,ho,hb⟩:=h
 obtain⟨x,c,rfl,hr⟩:=Ri.own ho (fun j=>Qa8 (h8 j).1 (h8 j).2)
 exact⟨⟨x,c,rfl,hr⟩,hb⟩
theorem Qfk(cs:List Int)(hn:cs.length<=512)(hc:∀k,0<=cs.getD k 0∧cs.getD k 0<=1073741824):(Qgk cs).length=cs.length∧Qaq (Qgk cs)=true:=by
 obtain⟨k,h1,h2⟩:=Qn0 cs hn hc
 exact Qjk hn hc h1 h2
theorem Qj8{W:World}{B B' e n:Nat}{v:Value}{xs:List Value}(h:W.ownsRow B e 1 v n xs)(hB:B'<=B):W.ownsRow B' e 1 v n xs:=by
 refine⟨h.1,?_⟩
 rcases h.2 with h1 | ⟨g,cap,cur,hv,hg,hr⟩
 ·exact Or.inl h1
 ·exact Or.inr ⟨g,cap,cur,hv,by omega,hr⟩
theorem Qxp{W:World}{B n g:Nat}{v:Value}{xs:List Value}{c0 c:Array Value}(h:W.ownsRow B 5 1 v n xs)(hg:W.heap[g]?=some (.cells c0 161 (0,0))):(W.setRow g c).ownsRow B 5 1 v n xs:=by
 refine⟨h.1,?_⟩
 rcases h.2 with h1 | ⟨k,cap,cur,hv,hk,hh,hr⟩
 ·exact Or.inl h1
 ·have hne:k≠g:=fun e=>by
   rw[e,hg] at hh
   injection hh with hh
   injection hh with _ e2
   cases e2
  exact Or.inr ⟨k,cap,cur,hv,hk,(setRow_other _ _ _ _ hne).trans hh,hr⟩
def Vw(B:Nat)(W:World)(p:Value)(c:Array Value):Prop:=∃g,p= .pointer (some ⟨g,0,none⟩)∧B<=g∧W.heap[g]?=some (.cells c 161 (0,0))
theorem Vw.later{B:Nat}{W W':World}{p:Value}{c:Array Value}(h:Vw B W p c)(hb:Below W.heap.size W W'):Vw B W' p c:=by
 obtain⟨g,h1,h2,h3⟩:=h
 exact⟨g,h1,h2,(hb.block g (Array.getElem?_eq_some_iff.1 h3).1).trans h3⟩
def Vs(W:World)(u x1 x2 x3:Value):Prop:=∃g,u= .slice (some ⟨g,0,none⟩) 3 3∧g<W.heap.size∧W.cell? ⟨g,0,none⟩=some x1∧W.cell? ⟨g,1,none⟩=some x2∧W.cell? ⟨g,2,none⟩=some x3
theorem Vs.later{W W':World}{u x1 x2 x3:Value}(h:Vs W u x1 x2 x3)(hb:Below W.heap.size W W'):Vs W' u x1 x2 x3:=by
 obtain⟨g,h1,h2,h3,h4,h5⟩:=h
 exact⟨g,h1,Nat.lt_of_lt_of_le h2 hb.size,(hb.cell (p:=⟨g,0,none⟩) h2).trans h3,(hb.cell (p:=⟨g,1,none⟩) h2).trans h4,(hb.cell (p:=⟨g,2,none⟩) h2).trans h5⟩
theorem Xbo(g:Nat)(W:World)(hg:g<W.heap.size)(x1 x2 x3:Option Addr)(c1 c2 c3:Nat)(R1 R2 R3:List Int)(g0:W.cell? ⟨g,0,none⟩=some (.slice x1 R1.length c1))(g1:W.cell? ⟨g,1,none⟩=some (.slice x2 R2.length c2))(g2:W.cell? ⟨g,2,none⟩=some (.slice x3 R3.length c3))(q1:Ri W .u8 x1 c1 R1)(q2:Ri W .u8 x2 c2 R2)(q3:Ri W .u8 x3 c3 R3)(hs:R1.length+R2.length+R3.length<=1000000):
 Calls Tryz.prog 103 #[.slice (some ⟨g,0,none⟩) 3 3] W fun e w'=>∃v,e= .returned v∧w'.ownsRow W.heap.size 5 1 v (R1++R2++R3).length ((R1++R2++R3).map (Value.int .u8))∧Below W.heap.size W w':=by
 have h:=Qsy g 3 (fun j=>if j=0 then (x1,c1,R1) else if j=1 then (x2,c2,R2) else (x3,c3,R3)) W hg (by omega) (fun j hj=>by
  match j,hj with
  | 0,_=>exact g0
  | 1,_=>exact g1
  | 2,_=>exact g2) (fun j hj=>by
  match j,hj with
  | 0,_=>exact q1
  | 1,_=>exact q2
  | 2,_=>exact q3) (by simp[Qi2];omega)
 have e:Qi2 (fun j=>if j=0 then (x1,c1,R1) else if j=1 then (x2,c2,R2) else (x3,c3,R3)) 3=R1++R2++R3:=by simp[Qi2]
 rw[e] at h
 exact h
def Xj1:Array Value:= #[.slice none 0 0,.int .i64 0]
theorem Rw8.put57{W:World}{u:Value}{r:List Int}{g:Nat}(h:Rw8 W u r)(hg:W.heap[g]?=some (.cells Xj1 161 (0,0)))(c:Array Value):Rw8 (W.setRow g c) u r:=by
 obtain⟨x,y,h1,h2⟩:=h
 refine⟨x,y,h1,h2.apart hg (fun i z e=>?_) c⟩
 unfold Xj1 at e
 match i,e with
 | 0,e=>simp at e
 | 1,e=>simp at e
 | i+2,e=>simp at e
theorem Vs.put57{W:World}{u x1 x2 x3:Value}{g:Nat}(h:Vs W u x1 x2 x3)(hg:W.heap[g]?=some (.cells Xj1 161 (0,0)))(c:Array Value):Vs (W.setRow g c) u x1 x2 x3:=by
 obtain⟨k,h1,h2,h3,h4,h5⟩:=h
 have hne:k≠g:=fun e=>by
  rw[e,Joins.cell_of_block hg] at h5
  simp[Xj1] at h5
 have hs:k<(W.setRow g c).heap.size:=by
  by_cases q:k<(W.setRow g c).heap.size
  ·exact q
  ·have e1:=setRow_other W g k c hne
   rw[Array.getElem?_eq_none (by omega),Array.getElem?_eq_getElem h2] at e1
   cases e1
 have hc:=fun j=>Qjh (i:=j) (setRow_other W g k c hne)
 exact⟨k,h1,hs,(hc 0).trans h3,(hc 1).trans h4,(hc 2).trans h5⟩
structure I6 (s z pk pd tz tkd vk vd p8 p9 v26 v27 v28 v29 s1 s3:Value) (len:Nat) (g8 g9:Nat) (R1 R2 R3:List Int) (W5:World) (l:Array Bool) (a:Act) (W:World):Prop where
 size:l.size=15
 bel:Below W5.heap.size W5 W
 fr:∃u10 u30 u31 u32 u33 u34 u35 u36 u37 u38 u39 u40 u41 u42,a=⟨T6 s z pk pd tz tkd vk vd p8 p9 v26 v27 v28 v29 u10 u30 u31 u32 u33 u34 u35 u36 u37 u38 u39 u40 u41 u42,[]⟩ ∧
  (l.getD 0 false=true->u30= .pointer (some ⟨g8,0,none⟩))∧(l.getD 1 false=true->u31=s1)∧(l.getD 2 false=true->Rw8 W u32 R1) ∧
  (l.getD 3 false=true->u33= .pointer (some ⟨g9,0,none⟩))∧(l.getD 4 false=true->u34=s3)∧(l.getD 5 false=true->Rw8 W u35 R2) ∧
  (l.getD 6 false=true->u36=s)∧(l.getD 7 false=true->u37= .int .i64 (len:Int))∧(l.getD 8 false=true->u38= .int .u64 (len:Int))∧(l.getD 9 false=true->Rw8 W u39 R3) ∧
  (l.getD 10 false=true->Vs W u40 u32 u35 u39)∧(l.getD 11 false=true->W.ownsRow W5.heap.size 5 1 u41 (R1++R2++R3).length ((R1++R2++R3).map (Value.int .u8))) ∧
  (l.getD 12 false=true->u42= .agg #[u41,.int .i64 0])∧(l.getD 13 false=true->∃c,Vw W5.heap.size W u10 c∧c.size=2∧(l.getD 14 false=true->u42= .agg c)∧(l.getD 14 false=false->c=Xj1))
 o10:l.getD 10 false=true->l.getD 2 false=true∧l.getD 5 false=true∧l.getD 9 false=true
 o12:l.getD 12 false=true->l.getD 11 false=true
 o14:l.getD 14 false=true->l.getD 12 false=true∧l.getD 13 false=true
theorem Xbr(a:Option Addr)(cap:Nat)(l:List Tkz)(w:World)(hr:Rt w a cap l)(hn:l.length<=65536)(hz:(Qcd l).2=0)(hall:∀j,j<l.length->Qew (l.getD j tk0)=0):
 Calls Tryz.prog 66 #[.slice a l.length cap] w fun e w'=>∃v,e= .returned (.tuple #[v,.int .i64 0])∧w'.ownsRow w.heap.size 5 1 v (Qb2 l).length ((Qb2 l).map (Value.int .u8))∧Below w.heap.size w w'∧∀j,0<=(Qb2 l).getD j 0∧(Qb2 l).getD j 0<=255:=by
 have HSZ:=hid (Qra a cap l w hr (by omega))
 rw[hz] at HSZ
 generalize (Qcd l).1=z1 at *
 have HCT:Hid (∀W,Below w.heap.size w W->Calls Tryz.prog 101 #[.slice a l.length cap] W fun e w'=>e= .returned (.tuple #[.agg (arr .i64 (Qau l l.length)),.agg (arr .i64 (Qar l l.length))])∧Below W.heap.size W w'):=fun W hW=>Qth a cap l W (hr.later hW) (by omega) hall
 have HKL:=hid (Qa7 l l.length)
 have HDL:=hid (Qa2 l l.length)
 have HKB:Hid (∀j,(Qau l l.length).getD j 0<=4000000):=fun j=>by have:=Qe6 l l.length j;omega
 have HDB:Hid (∀j,(Qar l l.length).getD j 0<=4000000):=fun j=>by have:=Qec l l.length j;omega
 have HR:=hid hr
 obtain⟨len,hle⟩:∃n,n=l.length:=⟨_,rfl⟩
 have HL:=hid hle
 obtain⟨KK,hKK⟩:∃x,x=Qau l l.length:=⟨_,rfl⟩
 obtain⟨DD,hDD⟩:∃x,x=Qar l l.length:=⟨_,rfl⟩
 have HKK:=hid hKK
 have HDD:=hid hDD
 rw[<-hKK] at HKL HKB HCT
 rw[<-hDD] at HDL HDB HCT
 rw[<-hle] at HCT HSZ hn|-
 clear hr hz hle hKK hDD
 have hzk:(Tryz.prog.info? 152).map (·.size)=some (arr .i64 KK).size:=by rw[Qav,HKL.out];exact Tryz.size152
 have hzd:(Tryz.prog.info? 153).map (·.size)=some (arr .i64 DD).size:=by rw[Qav,HDL.out];exact Tryz.size153
 have HZ43:=hid Tryz.zero152
 have HZ44:=hid Tryz.zero153
 have HR1:Hid ((List.replicate 511 0:List Nat).length=511):=List.length_replicate
 have HR2:Hid ((List.replicate 13 0:List Nat).length=13):=List.length_replicate
 generalize (List.replicate 511 0:List Nat)=Z1 at *
 generalize (List.replicate 13 0:List Nat)=Z2 at *
 go_enter Tryz.func66,Tryz.ntmps66
 go_wp2_with fail
 go_at_call 100
 refine HSZ.out.mono ?_
 rintro _ w1 ⟨rfl,hb1⟩
 have HB1:=hid hb1
 have HC1:=hid (HCT.out w1 hb1)
 clear hb1 HSZ HCT
 go_wp2_with fail
 go_at_call 101
 refine HC1.out.mono ?_
 rintro _ w2 ⟨rfl,hb2⟩
 have HB2:=hid (Bn HB1.out hb2)
 clear hb2 HC1 HB1
 have s1:(w2.alloc (.cells (arr .i64 Z1) 152)).heap.size=w2.heap.size+1:=by simp
 have b1:=Qab w2 (.cells (arr .i64 Z1) 152)
 have b2:=Qab (w2.alloc (.cells (arr .i64 Z1) 152)) (.cells (arr .i64 Z2) 153)
 have q1:=(b2.block w2.heap.size (by omega)).trans (Qag w2 (.cells (arr .i64 Z1) 152))
 have q2:=Qag (w2.alloc (.cells (arr .i64 Z1) 152)) (.cells (arr .i64 Z2) 153)
 rw[s1] at q2
 have hsk:(arr .i64 Z1).size=(arr .i64 KK).size:=by rw[Qav,Qav,HR1.out,HKL.out]
 have hsd:(arr .i64 Z2).size=(arr .i64 DD).size:=by rw[Qav,Qav,HR2.out,HDL.out]
 have q3:=setRow_heap _ _ _ (arr .i64 KK) _ _ q1
 have q4:=(setRow_other ((w2.alloc (.cells (arr .i64 Z1) 152)).alloc (.cells (arr .i64 Z2) 153)) w2.heap.size (w2.heap.size+1) (arr .i64 KK) (by omega)).trans q2
 have q5:=setRow_heap _ _ _ (arr .i64 DD) _ _ q4
 have q6:=(setRow_other (((w2.alloc (.cells (arr .i64 Z1) 152)).alloc (.cells (arr .i64 Z2) 153)).setRow w2.heap.size (arr .i64 KK)) (w2.heap.size+1) w2.heap.size (arr .i64 DD) (by omega)).trans q3
 have HB3:=hid (below_setRow (below_setRow (Bn b1 b2) (Nat.le_refl _) (arr .i64 KK)) (show w2.heap.size<=w2.heap.size+1 by omega) (arr .i64 DD))
 have HQ5:=hid q5
 have HQ6:=hid q6
 clear s1 b1 b2 q3 q5 q6
 go_wp2_with (first
  | (refine Qad rfl 152 rfl (some 6) rfl (arr .i64 Z1) HZ43.out (w2.heap.size) rfl ?_)
  | (refine Qad rfl 153 rfl (some 7) rfl (arr .i64 Z2) HZ44.out (w2.heap.size+1) (by simp) ?_)
  | (refine wpList_store_rowTo rfl 152 _ _ rfl rfl (w2.heap.size) (arr .i64 KK) rfl rfl 152 _ q1 hzk hsk (Qbe _ _) ?_)
  | (refine wpList_store_rowTo rfl 153 _ _ rfl rfl (w2.heap.size+1) (arr .i64 DD) rfl rfl 153 _ q4 hzd hsd (Qbe _ _) ?_))
 simp only[Act.put,List.setIfInBounds_toArray,List.set_cons_zero,List.set_cons_succ]
 have HG3:Hid (w2.heap.size+1<((((w2.alloc (.cells (arr .i64 Z1) 152)).alloc (.cells (arr .i64 Z2) 153)).setRow w2.heap.size (arr .i64 KK)).setRow (w2.heap.size+1) (arr .i64 DD)).heap.size):=(Array.getElem?_eq_some_iff.1 HQ5.out).1
 generalize (((w2.alloc (.cells (arr .i64 Z1) 152)).alloc (.cells (arr .i64 Z2) 153)).setRow w2.heap.size (arr .i64 KK)).setRow (w2.heap.size+1) (arr .i64 DD)=W3 at *
 have HB4:=hid (Bn HB2.out HB3.out)
 obtain⟨gk,hgk⟩:∃g,g=w2.heap.size:=⟨_,rfl⟩
 rw[<-hgk] at HQ5 HQ6 HG3|-
 clear HB2 HB3 hgk q1 q2 q4 hsk hsd HZ43 HZ44 HR1 HR2
 have HCK:=hid (fun W (hW:Below W3.heap.size W3 W)=>Ql4 (some ⟨gk,0,none⟩) 511 (Qev KK) W (by have h:=Qv1 ((hW.block gk (by have:=HG3.out;omega)).trans HQ6.out) (by rw[HKL.out];omega) HKB.out;rw[HKL.out] at h;exact h) (by rw[Qa5,HKL.out];omega) (Qe2 KK (by rw[HKL.out];omega) HKB.out))
 have HCD:=hid (fun W (hW:Below W3.heap.size W3 W)=>Ql4 (some ⟨gk+1,0,none⟩) 13 (Qev DD) W (by have h:=Qv1 ((hW.block (gk+1) HG3.out).trans HQ5.out) (by rw[HDL.out];omega) HDB.out;rw[HDL.out] at h;exact h) (by rw[Qa5,HDL.out];omega) (Qe2 DD (by rw[HDL.out];omega) HDB.out))
 have e511:(Qev KK).length=511:=by rw[Qa5,HKL.out]
 have e13:(Qev DD).length=13:=by rw[Qa5,HDL.out]
 rw[e511] at HCK
 rw[e13] at HCD
 generalize Value.tuple #[.int .i64 z1,.int .i64 0]=tz at *
 generalize Value.tuple #[.agg (arr .i64 KK),.agg (arr .i64 DD)]=tkd at *
 generalize Value.agg (arr .i64 KK)=vk at *
 generalize Value.agg (arr .i64 DD)=vd at *
 refine Inv.region (I5 (.slice a len cap) (.int .i64 z1) (.pointer (some ⟨gk,0,none⟩)) (.pointer (some ⟨gk+1,0,none⟩)) tz tkd vk vd gk (gk+1) (Qev KK) (Qev DD) W3) (by kernel_rfl) ?start ?step ?fin
 case start=>
  refine⟨rfl,(Below.refl _ _).drew,⟨undef,undef,undef,undef,undef,undef,rfl,?_,?_,?_,?_,?_,?_,?_⟩,?_,?_⟩<;>intro h<;>cases h
 case step=>
  intro l1 a1 W hI i o ho hl hdep
  obtain⟨hsz,hbl,⟨u8,u9,u26,u27,u28,u29,rfl,f0,f2,f1,f3,f4,f5,f89⟩,o6,o7⟩:=hI
  have hlt:=Inv.Xf7 hl
  have hi8:i=0∨i=1∨i=2∨i=3∨i=4∨i=5∨i=6∨i=7:=by omega
  have hb:=fun j=>Inv.Qtk (l:=l1) (i:=i) j hlt
  have hs2:(l1.setIfInBounds i true).size=8:=by rw[Inv.Quk];exact hsz
  rcases hi8 with rfl | rfl | rfl | rfl | rfl | rfl | rfl | rfl
  ·injection ho with ho
   subst ho
   have hno:=Qci hl
   refine wpOp_step rfl (fun K' hK=>?_)
   rw[if_pos (by rfl)]
   go_simp
   refine hK _ _ ⟨hs2,hbl,⟨u8,u9,_,u27,u28,u29,rfl,fun _=>rfl,(fun h=>f2 (Inv.gg hb h)),(fun h=>f1 (Inv.gg hb h)),(fun h=>f3 (Inv.gg hb h)),(fun h=>by obtain⟨c,q1,q2,q3⟩:=f4 (Inv.gg hb h);exact⟨c,q1,fun q=>q2 (Inv.gg hb q),fun q=>q3 (Inv.gg hb q)⟩),(fun h=>by obtain⟨c,q1,q2,q3⟩:=f5 (Inv.gg hb h);exact⟨c,q1,fun q=>q2 (Inv.gg hb q),fun q=>q3 (Inv.gg hb q)⟩),(fun h h2=>f89 (Inv.gg hb h) (by rw[hb,if_neg (by decide)] at h2;exact h2))⟩,(fun h=>by obtain⟨q1,q2,q3,q4⟩:=o6 (Inv.gg hb h);refine⟨?_,?_,?_,?_⟩<;>(rw[hb];split<;>first | rfl | assumption | exact absurd rfl (by assumption))),(fun h=>by have q:=o7 (Inv.gg hb h);rw[hb];split<;>first | rfl | assumption | exact absurd rfl (by assumption))⟩
  ·injection ho with ho
   subst ho
   have hno:=Qci hl
   refine wpOp_step rfl (fun K' hK=>?_)
   rw[if_pos (by rfl)]
   have d0:=f0 (hdep {on:=0,ground:= .data} (by simp) (by rfl))
   subst d0
   go_simp
   refine(HCK.out W hbl).mono ?_
   rintro _ W' ⟨x1,y1,x2,y2,rfl,r1,r2,_,_,hb'⟩
   rw[e511]
   refine hK _ _ ⟨hs2,Bn hbl hb',⟨u8,u9,_,_,u28,u29,rfl,(fun h=>f0 (Inv.gg hb h)),(fun h=>f2 (Inv.gg hb h)),fun _=>⟨x1,y1,x2,y2,rfl,r1,r2⟩,(fun h=>(f3 (Inv.gg hb h)).later hb'),(fun h=>by obtain⟨c,q1,q2,q3⟩:=f4 (Inv.gg hb h);exact⟨c,q1.later hb',fun q=>q2 (Inv.gg hb q),fun q=>by have:=(o6 (Inv.gg hb q)).2.1;rw[hno] at this;cases this⟩),(fun h=>by obtain⟨c,q1,q2,q3⟩:=f5 (Inv.gg hb h);exact⟨c,q1.later hb',fun q=>q2 (Inv.gg hb q),fun q=>q3 (Inv.gg hb q)⟩),(fun h h2=>f89 (Inv.gg hb h) (by rw[hb,if_neg (by decide)] at h2;exact h2))⟩,(fun h=>by obtain⟨q1,q2,q3,q4⟩:=o6 (Inv.gg hb h);refine⟨?_,?_,?_,?_⟩<;>(rw[hb];split<;>first | rfl | assumption | exact absurd rfl (by assumption))),(fun h=>by have q:=o7 (Inv.gg hb h);rw[hb];split<;>first | rfl | assumption | exact absurd rfl (by assumption))⟩
  ·injection ho with ho
   subst ho
   have hno:=Qci hl
   refine wpOp_step rfl (fun K' hK=>?_)
   rw[if_pos (by rfl)]
   go_simp
   refine hK _ _ ⟨hs2,hbl,⟨u8,u9,u26,u27,_,u29,rfl,(fun h=>f0 (Inv.gg hb h)),fun _=>rfl,(fun h=>f1 (Inv.gg hb h)),(fun h=>f3 (Inv.gg hb h)),(fun h=>by obtain⟨c,q1,q2,q3⟩:=f4 (Inv.gg hb h);exact⟨c,q1,fun q=>q2 (Inv.gg hb q),fun q=>q3 (Inv.gg hb q)⟩),(fun h=>by obtain⟨c,q1,q2,q3⟩:=f5 (Inv.gg hb h);exact⟨c,q1,fun q=>q2 (Inv.gg hb q),fun q=>q3 (Inv.gg hb q)⟩),(fun h h2=>f89 (Inv.gg hb h) (by rw[hb,if_neg (by decide)] at h2;exact h2))⟩,(fun h=>by obtain⟨q1,q2,q3,q4⟩:=o6 (Inv.gg hb h);refine⟨?_,?_,?_,?_⟩<;>(rw[hb];split<;>first | rfl | assumption | exact absurd rfl (by assumption))),(fun h=>by have q:=o7 (Inv.gg hb h);rw[hb];split<;>first | rfl | assumption | exact absurd rfl (by assumption))⟩
  ·injection ho with ho
   subst ho
   have hno:=Qci hl
   refine wpOp_step rfl (fun K' hK=>?_)
   rw[if_pos (by rfl)]
   have d0:=f2 (hdep {on:=2,ground:= .data} (by simp) (by rfl))
   subst d0
   go_simp
   refine(HCD.out W hbl).mono ?_
   rintro _ W' ⟨x1,y1,x2,y2,rfl,r1,r2,_,_,hb'⟩
   rw[e13]
   refine hK _ _ ⟨hs2,Bn hbl hb',⟨u8,u9,u26,u27,_,_,rfl,(fun h=>f0 (Inv.gg hb h)),(fun h=>f2 (Inv.gg hb h)),(fun h=>(f1 (Inv.gg hb h)).later hb'),fun _=>⟨x1,y1,x2,y2,rfl,r1,r2⟩,(fun h=>by obtain⟨c,q1,q2,q3⟩:=f4 (Inv.gg hb h);exact⟨c,q1.later hb',fun q=>q2 (Inv.gg hb q),fun q=>q3 (Inv.gg hb q)⟩),(fun h=>by obtain⟨c,q1,q2,q3⟩:=f5 (Inv.gg hb h);exact⟨c,q1.later hb',fun q=>q2 (Inv.gg hb q),fun q=>by have:=(o6 (o7 (Inv.gg hb q))).2.2.1;rw[hno] at this;cases this⟩),(fun h h2=>f89 (Inv.gg hb h) (by rw[hb,if_neg (by decide)] at h2;exact h2))⟩,(fun h=>by obtain⟨q1,q2,q3,q4⟩:=o6 (Inv.gg hb h);refine⟨?_,?_,?_,?_⟩<;>(rw[hb];split<;>first | rfl | assumption | exact absurd rfl (by assumption))),(fun h=>by have q:=o7 (Inv.gg hb h);rw[hb];split<;>first | rfl | assumption | exact absurd rfl (by assumption))⟩
  ·injection ho with ho
   subst ho
   have hno:=Qci hl
   refine wpOp_step rfl (fun K' hK=>?_)
   rw[if_pos (by rfl)]
   go_simp
   have hbx:=Qab W (.cells #[.slice none 0 0,.slice none 0 0] 157)
   have ebx:=Qag W (.cells #[.slice none 0 0,.slice none 0 0] 157)
   refine hK _ _ ⟨hs2,Bn hbl hbx,⟨_,u9,u26,u27,u28,u29,rfl,(fun h=>f0 (Inv.gg hb h)),(fun h=>f2 (Inv.gg hb h)),(fun h=>(f1 (Inv.gg hb h)).later hbx),(fun h=>(f3 (Inv.gg hb h)).later hbx),fun _=>⟨Xhz,⟨W.heap.size,rfl,hbl.size,ebx⟩,fun _=>rfl,fun q=>by have:=(o6 (Inv.gg hb q)).1;rw[hno] at this;cases this⟩,(fun h=>by obtain⟨c,q1,q2,q3⟩:=f5 (Inv.gg hb h);exact⟨c,q1.later hbx,fun q=>q2 (Inv.gg hb q),fun q=>q3 (Inv.gg hb q)⟩),(fun _ h2 e=>by obtain⟨c,⟨g9,q1,_,q3⟩,_⟩:=f5 (by rw[hb,if_neg (by decide)] at h2;exact h2);rw[q1] at e;injection e with e;injection e with e;injection e with e;have:=(Array.getElem?_eq_some_iff.1 q3).1;omega)⟩,(fun h=>by obtain⟨q1,q2,q3,q4⟩:=o6 (Inv.gg hb h);refine⟨?_,?_,?_,?_⟩<;>(rw[hb];split<;>first | rfl | assumption | exact absurd rfl (by assumption))),(fun h=>by have q:=o7 (Inv.gg hb h);rw[hb];split<;>first | rfl | assumption | exact absurd rfl (by assumption))⟩
  ·injection ho with ho
   subst ho
   have hno:=Qci hl
   refine wpOp_step rfl (fun K' hK=>?_)
   rw[if_pos (by rfl)]
   go_simp
   have hbx:=Qab W (.cells #[.slice none 0 0,.slice none 0 0] 157)
   have ebx:=Qag W (.cells #[.slice none 0 0,.slice none 0 0] 157)
   refine hK _ _ ⟨hs2,Bn hbl hbx,⟨u8,_,u26,u27,u28,u29,rfl,(fun h=>f0 (Inv.gg hb h)),(fun h=>f2 (Inv.gg hb h)),(fun h=>(f1 (Inv.gg hb h)).later hbx),(fun h=>(f3 (Inv.gg hb h)).later hbx),(fun h=>by obtain⟨c,q1,q2,q3⟩:=f4 (Inv.gg hb h);exact⟨c,q1.later hbx,fun q=>q2 (Inv.gg hb q),fun q=>q3 (Inv.gg hb q)⟩),fun _=>⟨Xhz,⟨W.heap.size,rfl,hbl.size,ebx⟩,fun _=>rfl,fun q=>by have:=(o6 (o7 (Inv.gg hb q))).2.2.2;rw[hno] at this;cases this⟩,(fun h2 _ e=>by obtain⟨c,⟨g9,q1,_,q3⟩,_⟩:=f4 (by rw[hb,if_neg (by decide)] at h2;exact h2);rw[q1] at e;injection e with e;injection e with e;injection e with e;have:=(Array.getElem?_eq_some_iff.1 q3).1;omega)⟩,(fun h=>by obtain⟨q1,q2,q3,q4⟩:=o6 (Inv.gg hb h);refine⟨?_,?_,?_,?_⟩<;>(rw[hb];split<;>first | rfl | assumption | exact absurd rfl (by assumption))),(fun h=>by have q:=o7 (Inv.gg hb h);rw[hb];split<;>first | rfl | assumption | exact absurd rfl (by assumption))⟩
  ·injection ho with ho
   subst ho
   have hno:=Qci hl
   refine wpOp_step rfl (fun K' hK=>?_)
   rw[if_pos (by rfl)]
   have d4:=hdep {on:=4,ground:= .data} (by simp) (by rfl)
   have d1:=hdep {on:=1,ground:= .data} (by simp) (by rfl)
   have d3:=hdep {on:=3,ground:= .chain} (by simp) (by rfl)
   have d5:=hdep {on:=5,ground:= .phase} (by simp) (by rfl)
   obtain⟨c8,⟨g8,rfl,hg8,hc8⟩,hn8,_⟩:=f4 d4
   obtain rfl:=hn8 hno
   obtain⟨x1,y1,x2,y2,rfl,r1,r2⟩:=f1 d1
   obtain⟨c9,⟨g9,rfl,hg9,hc9⟩,hn9,hn9'⟩:=f5 d5
   have hne:g9≠g8:=fun e=>f89 d4 d5 (by rw[e])
   refine wp_store_row 157 _ _ rfl g8 #[.slice x1 511 y1,.slice x2 511 y2] rfl rfl 157 _ hc8 (by kernel_rfl) rfl (by simp[Value.oneCell']) ?_
   refine hK _ _ ⟨hs2,below_setRow hbl hg8 _,⟨_,_,u26,_,u28,u29,rfl,(fun h=>f0 (Inv.gg hb h)),(fun h=>f2 (Inv.gg hb h)),fun _=>Cd.apart ⟨x1,y1,x2,y2,rfl,r1,r2⟩ hc8 _,fun _=>(f3 d3).apart hc8 _,fun _=>⟨_,⟨g8,rfl,hg8,setRow_heap _ _ _ _ _ _ hc8⟩,(fun q=>by rw[hb,if_pos rfl] at q;cases q),fun _=>rfl⟩,fun _=>⟨c9,⟨g9,rfl,hg9,(setRow_other _ _ _ _ hne).trans hc9⟩,fun q=>hn9 (Inv.gg hb q),fun q=>hn9' (Inv.gg hb q)⟩,fun _ _=>f89 d4 d5⟩,(fun _=>by refine⟨?_,?_,?_,?_⟩<;>(rw[hb];split<;>first | rfl | assumption | exact absurd rfl (by assumption))),(fun _=>by rw[hb,if_pos rfl])⟩
  ·injection ho with ho
   subst ho
   have hno:=Qci hl
   refine wpOp_step rfl (fun K' hK=>?_)
   rw[if_pos (by rfl)]
   have d5:=hdep {on:=5,ground:= .data} (by simp) (by rfl)
   have d3:=hdep {on:=3,ground:= .data} (by simp) (by rfl)
   have d6:=hdep {on:=6,ground:= .chain} (by simp) (by rfl)
   obtain⟨d4,d1,_,_⟩:=o6 d6
   obtain⟨c9,⟨g9,rfl,hg9,hc9⟩,hn9,_⟩:=f5 d5
   obtain rfl:=hn9 hno
   obtain⟨x1,y1,x2,y2,rfl,r1,r2⟩:=f3 d3
   obtain⟨c8,⟨g8,rfl,hg8,hc8⟩,hn8,hn8'⟩:=f4 d4
   have hne:g8≠g9:=fun e=>f89 d4 d5 (by rw[e])
   refine wp_store_row 157 _ _ rfl g9 #[.slice x1 13 y1,.slice x2 13 y2] rfl rfl 157 _ hc9 (by kernel_rfl) rfl (by simp[Value.oneCell']) ?_
   refine hK _ _ ⟨hs2,below_setRow hbl hg9 _,⟨_,_,u26,u27,u28,_,rfl,(fun h=>f0 (Inv.gg hb h)),(fun h=>f2 (Inv.gg hb h)),fun _=>(f1 d1).apart hc9 _,fun _=>Cd.apart ⟨x1,y1,x2,y2,rfl,r1,r2⟩ hc9 _,fun _=>⟨c8,⟨g8,rfl,hg8,(setRow_other _ _ _ _ hne).trans hc8⟩,fun q=>hn8 (Inv.gg hb q),fun q=>hn8' (Inv.gg hb q)⟩,fun _=>⟨_,⟨g9,rfl,hg9,setRow_heap _ _ _ _ _ _ hc9⟩,(fun q=>by rw[hb,if_pos rfl] at q;cases q),fun _=>rfl⟩,fun _ _=>f89 d4 d5⟩,(fun h=>by obtain⟨q1,q2,q3,q4⟩:=o6 d6;refine⟨?_,?_,?_,?_⟩<;>(rw[hb];split<;>first | rfl | assumption | exact absurd rfl (by assumption))),(fun _=>by rw[hb,if_neg (by decide)];exact d6)⟩
 case fin=>
  intro l1 a1 W hI hr
  obtain⟨hsz,hbl,⟨u8,u9,u26,u27,u28,u29,rfl,f0,f2,f1,f3,f4,f5,f89⟩,o6,o7⟩:=hI
  have D0:=Inv.done hr (j:=0) rfl (by omega) (fun e he=>by simp at he)
  have D2:=Inv.done hr (j:=2) rfl (by omega) (fun e he=>by simp at he)
  have D4:=Inv.done hr (j:=4) rfl (by omega) (fun e he=>by simp at he)
  have D5:=Inv.done hr (j:=5) rfl (by omega) (fun e he=>by simp at he)
  have D1:=Inv.done hr (j:=1) rfl (by omega) (fun e he _=>by simp at he;subst he;exact D0)
  have D3:=Inv.done hr (j:=3) rfl (by omega) (fun e he _=>by simp at he;rcases he with rfl | rfl<;>assumption)
  have D6:=Inv.done hr (j:=6) rfl (by omega) (fun e he hq=>by simp at he;rcases he with rfl | rfl | rfl | rfl | rfl | rfl | rfl | rfl | rfl<;>assumption)
  have D7:=Inv.done hr (j:=7) rfl (by omega) (fun e he hq=>by simp at he;rcases he with rfl | rfl | rfl | rfl | rfl | rfl | rfl | rfl | rfl | rfl<;>assumption)
  obtain⟨c8,⟨g8,rfl,hg8,hc8⟩,_,hn8⟩:=f4 D4
  obtain⟨c9,⟨g9,rfl,hg9,hc9⟩,_,hn9⟩:=f5 D5
  obtain⟨a1,y1,a2,y2,rfl,r1,r2⟩:=f1 D1
  obtain⟨a3,y3,a4,y4,rfl,r3,r4⟩:=f3 D3
  have h8:=hn8 D6
  have h9:=hn9 D7
  injection h8 with h8
  injection h9 with h9
  subst h8 h9
  have HB5:=hid (Bn HB4.out hbl)
  have HC8:=hid hc8
  have HC9:=hid hc9
  have HR1:=hid r1
  have HR2:=hid r2
  have HR3:=hid r3
  have HR4:=hid r4
  clear f0 f2 f1 f3 f4 f5 f89 o6 o7 hr hsz D0 D1 D2 D3 D4 D5 D6 D7 hn8 hn9 hbl HB4 r1 r2 r3 r4 hg8 hg9 hc8 hc9 HCK HCD HQ5 HQ6 HG3
  obtain⟨ls,hls⟩:∃x,x=Qgk (Qev KK):=⟨_,rfl⟩
  obtain⟨ds,hds⟩:∃x,x=Qgk (Qev DD):=⟨_,rfl⟩
  have HLS:=hid hls
  have HDS:=hid hds
  have hkf:=Qfk (Qev KK) (by rw[e511];omega) (Qc3 (Qe2 KK (by rw[HKL.out];omega) HKB.out)).2
  have hdf:=Qfk (Qev DD) (by rw[e13];omega) (Qc3 (Qe2 DD (by rw[HDL.out];omega) HDB.out)).2
  rw[<-hls] at HR1 HR2 hkf
  rw[<-hds] at HR3 HR4 hdf
  rw[e511] at hkf
  rw[e13] at hdf
  have HKF:=hid hkf
  have HDF:=hid hdf
  clear hls hds hkf hdf
  have HRU1:Hid (∀W',Below W.heap.size W W'->Calls Tryz.prog 104 #[.slice a1 511 y1] W' fun e w'=>Xll e w' (Qc7 ls)∧Below W'.heap.size W' w'):=fun W' hW=>by
   have h:=Qr9 a1 y1 ls W' (HR1.out.later hW) (by rw[HKF.out.1];omega) (fun j=>by have:=(Qd7 HKF.out.2).2 j;omega)
   rw[HKF.out.1] at h
   exact h.mono (fun e w' h=>Xg6 h (Qjc ls (by rw[HKF.out.1];omega) (fun j=>(Qd7 HKF.out.2).2 j)))
  have HRU2:Hid (∀W',Below W.heap.size W W'->Calls Tryz.prog 104 #[.slice a3 13 y3] W' fun e w'=>Xll e w' (Qc7 ds)∧Below W'.heap.size W' w'):=fun W' hW=>by
   have h:=Qr9 a3 y3 ds W' (HR3.out.later hW) (by rw[HDF.out.1];omega) (fun j=>by have:=(Qd7 HDF.out.2).2 j;omega)
   rw[HDF.out.1] at h
   exact h.mono (fun e w' h=>Xg6 h (Qjc ds (by rw[HDF.out.1];omega) (fun j=>(Qd7 HDF.out.2).2 j)))
  have hg8l:=(Array.getElem?_eq_some_iff.1 HC8.out).1
  have hg9l:=(Array.getElem?_eq_some_iff.1 HC9.out).1
  have hlen:(len:Int)<=65536:=by omega
  obtain⟨R3,hR3⟩:∃x,x=Qe0 (len:Int):=⟨_,rfl⟩
  have HR3v:=hid hR3
  have HVA:Hid (∀W',Calls Tryz.prog 105 #[.int .u64 (len:Int)] W' fun e w'=>Xll e w' R3∧Below W'.heap.size W' w'):=fun W'=>by
   refine(Qih (len:Int) W' (by omega) (by omega)).mono ?_
   rintro e w' ⟨x,c,rfl,hr,hb⟩
   rw[hR3]
   exact⟨⟨x,c,rfl,hr⟩,hb⟩
  obtain⟨R1,hR1⟩:∃x,x=Qc7 ls:=⟨_,rfl⟩
  obtain⟨R2,hR2⟩:∃x,x=Qc7 ds:=⟨_,rfl⟩
  have HR1v:=hid hR1
  have HR2v:=hid hR2
  have HLN:Hid (R1.length+R2.length+R3.length<=100000):=by
   show _<=_
   have h1:=Qhe ls (by rw[HKF.out.1];omega)
   have h2:=Qhe ds (by rw[HDF.out.1];omega)
   have h3:=Qkd (len:Int) (by omega) (by omega)
   rw[HKF.out.1] at h1
   rw[HDF.out.1] at h2
   rw[hR1,hR2,hR3];omega
  rw[<-hR1] at HRU1
  rw[<-hR2] at HRU2
  clear hR1 hR2 hR3
  go_wp2_with fail
  refine Inv.region (I6 (.slice a len cap) (.int .i64 z1) (.pointer (some ⟨gk,0,none⟩)) (.pointer (some ⟨gk+1,0,none⟩)) tz tkd vk vd (.pointer (some ⟨g8,0,none⟩)) (.pointer (some ⟨g9,0,none⟩)) u26 (.agg #[.slice a1 511 y1,.slice a2 511 y2]) u28 (.agg #[.slice a3 13 y3,.slice a4 13 y4]) (.slice a1 511 y1) (.slice a3 13 y3) len g8 g9 R1 R2 R3 W) (by kernel_rfl) ?start ?step ?fin
  case start=>
   refine⟨rfl,(Below.refl _ _).drew,⟨undef,undef,undef,undef,undef,undef,undef,undef,undef,undef,undef,undef,undef,undef,rfl,?_,?_,?_,?_,?_,?_,?_,?_,?_,?_,?_,?_,?_,?_⟩,?_,?_,?_⟩<;>intro h<;>cases h
  case step=>
   intro l1 a9 V hI i o ho hl hdep
   obtain⟨hsz,hbl,⟨u10,u30,u31,u32,u33,u34,u35,u36,u37,u38,u39,u40,u41,u42,rfl,k0,k1,k2,k3,k4,k5,k6,k7,k8,k9,k10,k11,k12,k13⟩,o10,o12,o14⟩:=hI
   have hlt:=Inv.Xf7 hl
   have hi15:i=0∨i=1∨i=2∨i=3∨i=4∨i=5∨i=6∨i=7∨i=8∨i=9∨i=10∨i=11∨i=12∨i=13∨i=14:=by omega
   have hb:=fun j=>Inv.Qtk (l:=l1) (i:=i) j hlt
   have hs2:(l1.setIfInBounds i true).size=15:=by rw[Inv.Quk];exact hsz
   rcases hi15 with rfl | rfl | rfl | rfl | rfl | rfl | rfl | rfl | rfl | rfl | rfl | rfl | rfl | rfl | rfl
   ·injection ho with ho
    subst ho
    have hno:=Qci hl
    refine wpOp_step rfl (fun K' hK=>?_)
    rw[if_pos (by rfl)]
    go_simp
    refine hK _ _ ⟨hs2,hbl,⟨u10,_,u31,u32,u33,u34,u35,u36,u37,u38,u39,u40,u41,u42,rfl,fun _=>rfl,(fun h=>k1 (Inv.gg hb h)),(fun h=>(k2 (Inv.gg hb h))),(fun h=>k3 (Inv.gg hb h)),(fun h=>k4 (Inv.gg hb h)),(fun h=>(k5 (Inv.gg hb h))),(fun h=>k6 (Inv.gg hb h)),(fun h=>k7 (Inv.gg hb h)),(fun h=>k8 (Inv.gg hb h)),(fun h=>(k9 (Inv.gg hb h))),(fun h=>(k10 (Inv.gg hb h))),(fun h=>k11 (Inv.gg hb h)),(fun h=>k12 (Inv.gg hb h)),(fun h=>by obtain⟨c,q1,q2,q3,q4⟩:=k13 (Inv.gg hb h);exact⟨c,q1,q2,fun q=>q3 (Inv.gg hb q),fun q=>q4 (Inv.gg hb q)⟩)⟩,(fun h=>by obtain⟨q1,q2,q3⟩:=o10 (Inv.gg hb h);refine⟨?_,?_,?_⟩<;>(rw[hb];split<;>first | rfl | assumption | exact absurd rfl (by assumption))),(fun h=>by have q1:=o12 (Inv.gg hb h);rw[hb];split<;>first | rfl | assumption | exact absurd rfl (by assumption)),(fun h=>by obtain⟨q1,q2⟩:=o14 (Inv.gg hb h);refine⟨?_,?_⟩<;>(rw[hb];split<;>first | rfl | assumption | exact absurd rfl (by assumption)))⟩
   ·injection ho with ho
    subst ho
    have hno:=Qci hl
    refine wpOp_step rfl (fun K' hK=>?_)
    rw[if_pos (by rfl)]
    have d:=k0 (hdep {on:=0,ground:= .data} (by simp) (by rfl))
    subst d
    have c8:=(hbl.cell (p:=⟨g8,0,none⟩) hg8l).trans (Joins.cell_of_block HC8.out 0)
    simp only[List.getElem?_toArray,List.getElem?_cons_zero] at c8
    go_simp
    refine hK _ _ ⟨hs2,hbl,⟨u10,_,_,u32,u33,u34,u35,u36,u37,u38,u39,u40,u41,u42,rfl,(fun h=>k0 (Inv.gg hb h)),fun _=>rfl,(fun h=>(k2 (Inv.gg hb h))),(fun h=>k3 (Inv.gg hb h)),(fun h=>k4 (Inv.gg hb h)),(fun h=>(k5 (Inv.gg hb h))),(fun h=>k6 (Inv.gg hb h)),(fun h=>k7 (Inv.gg hb h)),(fun h=>k8 (Inv.gg hb h)),(fun h=>(k9 (Inv.gg hb h))),(fun h=>(k10 (Inv.gg hb h))),(fun h=>k11 (Inv.gg hb h)),(fun h=>k12 (Inv.gg hb h)),(fun h=>by obtain⟨c,q1,q2,q3,q4⟩:=k13 (Inv.gg hb h);exact⟨c,q1,q2,fun q=>q3 (Inv.gg hb q),fun q=>q4 (Inv.gg hb q)⟩)⟩,(fun h=>by obtain⟨q1,q2,q3⟩:=o10 (Inv.gg hb h);refine⟨?_,?_,?_⟩<;>(rw[hb];split<;>first | rfl | assumption | exact absurd rfl (by assumption))),(fun h=>by have q1:=o12 (Inv.gg hb h);rw[hb];split<;>first | rfl | assumption | exact absurd rfl (by assumption)),(fun h=>by obtain⟨q1,q2⟩:=o14 (Inv.gg hb h);refine⟨?_,?_⟩<;>(rw[hb];split<;>first | rfl | assumption | exact absurd rfl (by assumption)))⟩
   ·injection ho with ho
    subst ho
    have hno:=Qci hl
    refine wpOp_step rfl (fun K' hK=>?_)
    rw[if_pos (by rfl)]
    have d:=k1 (hdep {on:=1,ground:= .data} (by simp) (by rfl))
    subst d
    go_simp
    refine(HRU1.out V hbl).mono ?_
    rintro _ V' ⟨⟨x,c,rfl,hrr⟩,hbx⟩
    refine hK _ _ ⟨hs2,Bn hbl hbx,⟨u10,u30,_,_,u33,u34,u35,u36,u37,u38,u39,u40,u41,u42,rfl,(fun h=>k0 (Inv.gg hb h)),(fun h=>k1 (Inv.gg hb h)),fun _=>⟨x,c,rfl,hrr⟩,(fun h=>k3 (Inv.gg hb h)),(fun h=>k4 (Inv.gg hb h)),(fun h=>(k5 (Inv.gg hb h)).later hbx),(fun h=>k6 (Inv.gg hb h)),(fun h=>k7 (Inv.gg hb h)),(fun h=>k8 (Inv.gg hb h)),(fun h=>(k9 (Inv.gg hb h)).later hbx),(fun h=>by have q:=(o10 (Inv.gg hb h)).1;rw[hno] at q;cases q),(fun h=>Qa1 (k11 (Inv.gg hb h)) hbx),(fun h=>k12 (Inv.gg hb h)),(fun h=>by obtain⟨c,q1,q2,q3,q4⟩:=k13 (Inv.gg hb h);exact⟨c,q1.later hbx,q2,fun q=>q3 (Inv.gg hb q),fun q=>q4 (Inv.gg hb q)⟩)⟩,(fun h=>by obtain⟨q1,q2,q3⟩:=o10 (Inv.gg hb h);refine⟨?_,?_,?_⟩<;>(rw[hb];split<;>first | rfl | assumption | exact absurd rfl (by assumption))),(fun h=>by have q1:=o12 (Inv.gg hb h);rw[hb];split<;>first | rfl | assumption | exact absurd rfl (by assumption)),(fun h=>by obtain⟨q1,q2⟩:=o14 (Inv.gg hb h);refine⟨?_,?_⟩<;>(rw[hb];split<;>first | rfl | assumption | exact absurd rfl (by assumption)))⟩
   ·injection ho with ho
    subst ho
    have hno:=Qci hl
    refine wpOp_step rfl (fun K' hK=>?_)
    rw[if_pos (by rfl)]
    go_simp
    refine hK _ _ ⟨hs2,hbl,⟨u10,u30,u31,u32,_,u34,u35,u36,u37,u38,u39,u40,u41,u42,rfl,(fun h=>k0 (Inv.gg hb h)),(fun h=>k1 (Inv.gg hb h)),(fun h=>(k2 (Inv.gg hb h))),fun _=>rfl,(fun h=>k4 (Inv.gg hb h)),(fun h=>(k5 (Inv.gg hb h))),(fun h=>k6 (Inv.gg hb h)),(fun h=>k7 (Inv.gg hb h)),(fun h=>k8 (Inv.gg hb h)),(fun h=>(k9 (Inv.gg hb h))),(fun h=>(k10 (Inv.gg hb h))),(fun h=>k11 (Inv.gg hb h)),(fun h=>k12 (Inv.gg hb h)),(fun h=>by obtain⟨c,q1,q2,q3,q4⟩:=k13 (Inv.gg hb h);exact⟨c,q1,q2,fun q=>q3 (Inv.gg hb q),fun q=>q4 (Inv.gg hb q)⟩)⟩,(fun h=>by obtain⟨q1,q2,q3⟩:=o10 (Inv.gg hb h);refine⟨?_,?_,?_⟩<;>(rw[hb];split<;>first | rfl | assumption | exact absurd rfl (by assumption))),(fun h=>by have q1:=o12 (Inv.gg hb h);rw[hb];split<;>first | rfl | assumption | exact absurd rfl (by assumption)),(fun h=>by obtain⟨q1,q2⟩:=o14 (Inv.gg hb h);refine⟨?_,?_⟩<;>(rw[hb];split<;>first | rfl | assumption | exact absurd rfl (by assumption)))⟩
   ·injection ho with ho
    subst ho
    have hno:=Qci hl
    refine wpOp_step rfl (fun K' hK=>?_)
    rw[if_pos (by rfl)]
    have d:=k3 (hdep {on:=3,ground:= .data} (by simp) (by rfl))
    subst d
    have c9:=(hbl.cell (p:=⟨g9,0,none⟩) hg9l).trans (Joins.cell_of_block HC9.out 0)
    simp only[List.getElem?_toArray,List.getElem?_cons_zero] at c9
    go_simp
    refine hK _ _ ⟨hs2,hbl,⟨u10,u30,u31,u32,_,_,u35,u36,u37,u38,u39,u40,u41,u42,rfl,(fun h=>k0 (Inv.gg hb h)),(fun h=>k1 (Inv.gg hb h)),(fun h=>(k2 (Inv.gg hb h))),(fun h=>k3 (Inv.gg hb h)),fun _=>rfl,(fun h=>(k5 (Inv.gg hb h))),(fun h=>k6 (Inv.gg hb h)),(fun h=>k7 (Inv.gg hb h)),(fun h=>k8 (Inv.gg hb h)),(fun h=>(k9 (Inv.gg hb h))),(fun h=>(k10 (Inv.gg hb h))),(fun h=>k11 (Inv.gg hb h)),(fun h=>k12 (Inv.gg hb h)),(fun h=>by obtain⟨c,q1,q2,q3,q4⟩:=k13 (Inv.gg hb h);exact⟨c,q1,q2,fun q=>q3 (Inv.gg hb q),fun q=>q4 (Inv.gg hb q)⟩)⟩,(fun h=>by obtain⟨q1,q2,q3⟩:=o10 (Inv.gg hb h);refine⟨?_,?_,?_⟩<;>(rw[hb];split<;>first | rfl | assumption | exact absurd rfl (by assumption))),(fun h=>by have q1:=o12 (Inv.gg hb h);rw[hb];split<;>first | rfl | assumption | exact absurd rfl (by assumption)),(fun h=>by obtain⟨q1,q2⟩:=o14 (Inv.gg hb h);refine⟨?_,?_⟩<;>(rw[hb];split<;>first | rfl | assumption | exact absurd rfl (by assumption)))⟩
   ·injection ho with ho
    subst ho
    have hno:=Qci hl
    refine wpOp_step rfl (fun K' hK=>?_)
    rw[if_pos (by rfl)]
    have d:=k4 (hdep {on:=4,ground:= .data} (by simp) (by rfl))
    subst d
    go_simp
    refine(HRU2.out V hbl).mono ?_
    rintro _ V' ⟨⟨x,c,rfl,hrr⟩,hbx⟩
    refine hK _ _ ⟨hs2,Bn hbl hbx,⟨u10,u30,u31,u32,u33,_,_,u36,u37,u38,u39,u40,u41,u42,rfl,(fun h=>k0 (Inv.gg hb h)),(fun h=>k1 (Inv.gg hb h)),(fun h=>(k2 (Inv.gg hb h)).later hbx),(fun h=>k3 (Inv.gg hb h)),(fun h=>k4 (Inv.gg hb h)),fun _=>⟨x,c,rfl,hrr⟩,(fun h=>k6 (Inv.gg hb h)),(fun h=>k7 (Inv.gg hb h)),(fun h=>k8 (Inv.gg hb h)),(fun h=>(k9 (Inv.gg hb h)).later hbx),(fun h=>by have q:=(o10 (Inv.gg hb h)).2.1;rw[hno] at q;cases q),(fun h=>Qa1 (k11 (Inv.gg hb h)) hbx),(fun h=>k12 (Inv.gg hb h)),(fun h=>by obtain⟨c,q1,q2,q3,q4⟩:=k13 (Inv.gg hb h);exact⟨c,q1.later hbx,q2,fun q=>q3 (Inv.gg hb q),fun q=>q4 (Inv.gg hb q)⟩)⟩,(fun h=>by obtain⟨q1,q2,q3⟩:=o10 (Inv.gg hb h);refine⟨?_,?_,?_⟩<;>(rw[hb];split<;>first | rfl | assumption | exact absurd rfl (by assumption))),(fun h=>by have q1:=o12 (Inv.gg hb h);rw[hb];split<;>first | rfl | assumption | exact absurd rfl (by assumption)),(fun h=>by obtain⟨q1,q2⟩:=o14 (Inv.gg hb h);refine⟨?_,?_⟩<;>(rw[hb];split<;>first | rfl | assumption | exact absurd rfl (by assumption)))⟩
   ·injection ho with ho
    subst ho
    have hno:=Qci hl
    refine wpOp_step rfl (fun K' hK=>?_)
    rw[if_pos (by rfl)]
    go_simp
    refine hK _ _ ⟨hs2,hbl,⟨u10,u30,u31,u32,u33,u34,u35,_,u37,u38,u39,u40,u41,u42,rfl,(fun h=>k0 (Inv.gg hb h)),(fun h=>k1 (Inv.gg hb h)),(fun h=>(k2 (Inv.gg hb h))),(fun h=>k3 (Inv.gg hb h)),(fun h=>k4 (Inv.gg hb h)),(fun h=>(k5 (Inv.gg hb h))),fun _=>rfl,(fun h=>k7 (Inv.gg hb h)),(fun h=>k8 (Inv.gg hb h)),(fun h=>(k9 (Inv.gg hb h))),(fun h=>(k10 (Inv.gg hb h))),(fun h=>k11 (Inv.gg hb h)),(fun h=>k12 (Inv.gg hb h)),(fun h=>by obtain⟨c,q1,q2,q3,q4⟩:=k13 (Inv.gg hb h);exact⟨c,q1,q2,fun q=>q3 (Inv.gg hb q),fun q=>q4 (Inv.gg hb q)⟩)⟩,(fun h=>by obtain⟨q1,q2,q3⟩:=o10 (Inv.gg hb h);refine⟨?_,?_,?_⟩<;>(rw[hb];split<;>first | rfl | assumption | exact absurd rfl (by assumption))),(fun h=>by have q1:=o12 (Inv.gg hb h);rw[hb];split<;>first | rfl | assumption | exact absurd rfl (by assumption)),(fun h=>by obtain⟨q1,q2⟩:=o14 (Inv.gg hb h);refine⟨?_,?_⟩<;>(rw[hb];split<;>first | rfl | assumption | exact absurd rfl (by assumption)))⟩
   ·injection ho with ho
    subst ho
    have hno:=Qci hl
    refine wpOp_step rfl (fun K' hK=>?_)
    rw[if_pos (by rfl)]
    have d:=k6 (hdep {on:=6,ground:= .data} (by simp) (by rfl))
    subst d
    go_simp
    refine hK _ _ ⟨hs2,hbl,⟨u10,u30,u31,u32,u33,u34,u35,_,_,u38,u39,u40,u41,u42,rfl,(fun h=>k0 (Inv.gg hb h)),(fun h=>k1 (Inv.gg hb h)),(fun h=>(k2 (Inv.gg hb h))),(fun h=>k3 (Inv.gg hb h)),(fun h=>k4 (Inv.gg hb h)),(fun h=>(k5 (Inv.gg hb h))),(fun h=>k6 (Inv.gg hb h)),fun _=>rfl,(fun h=>k8 (Inv.gg hb h)),(fun h=>(k9 (Inv.gg hb h))),(fun h=>(k10 (Inv.gg hb h))),(fun h=>k11 (Inv.gg hb h)),(fun h=>k12 (Inv.gg hb h)),(fun h=>by obtain⟨c,q1,q2,q3,q4⟩:=k13 (Inv.gg hb h);exact⟨c,q1,q2,fun q=>q3 (Inv.gg hb q),fun q=>q4 (Inv.gg hb q)⟩)⟩,(fun h=>by obtain⟨q1,q2,q3⟩:=o10 (Inv.gg hb h);refine⟨?_,?_,?_⟩<;>(rw[hb];split<;>first | rfl | assumption | exact absurd rfl (by assumption))),(fun h=>by have q1:=o12 (Inv.gg hb h);rw[hb];split<;>first | rfl | assumption | exact absurd rfl (by assumption)),(fun h=>by obtain⟨q1,q2⟩:=o14 (Inv.gg hb h);refine⟨?_,?_⟩<;>(rw[hb];split<;>first | rfl | assumption | exact absurd rfl (by assumption)))⟩
   ·injection ho with ho
    subst ho
    have hno:=Qci hl
    refine wpOp_step rfl (fun K' hK=>?_)
    rw[if_pos (by rfl)]
    have d:=k7 (hdep {on:=7,ground:= .data} (by simp) (by rfl))
    subst d
    have hwu:IntKind.u64.wrap (len:Int)=(len:Int):=by rw[IntKind.wrap_u64];omega
    go_simp
    refine hK _ _ ⟨hs2,hbl,⟨u10,u30,u31,u32,u33,u34,u35,u36,_,_,u39,u40,u41,u42,rfl,(fun h=>k0 (Inv.gg hb h)),(fun h=>k1 (Inv.gg hb h)),(fun h=>(k2 (Inv.gg hb h))),(fun h=>k3 (Inv.gg hb h)),(fun h=>k4 (Inv.gg hb h)),(fun h=>(k5 (Inv.gg hb h))),(fun h=>k6 (Inv.gg hb h)),(fun h=>k7 (Inv.gg hb h)),fun _=>rfl,(fun h=>(k9 (Inv.gg hb h))),(fun h=>(k10 (Inv.gg hb h))),(fun h=>k11 (Inv.gg hb h)),(fun h=>k12 (Inv.gg hb h)),(fun h=>by obtain⟨c,q1,q2,q3,q4⟩:=k13 (Inv.gg hb h);exact⟨c,q1,q2,fun q=>q3 (Inv.gg hb q),fun q=>q4 (Inv.gg hb q)⟩)⟩,(fun h=>by obtain⟨q1,q2,q3⟩:=o10 (Inv.gg hb h);refine⟨?_,?_,?_⟩<;>(rw[hb];split<;>first | rfl | assumption | exact absurd rfl (by assumption))),(fun h=>by have q1:=o12 (Inv.gg hb h);rw[hb];split<;>first | rfl | assumption | exact absurd rfl (by assumption)),(fun h=>by obtain⟨q1,q2⟩:=o14 (Inv.gg hb h);refine⟨?_,?_⟩<;>(rw[hb];split<;>first | rfl | assumption | exact absurd rfl (by assumption)))⟩
   ·injection ho with ho
    subst ho
    have hno:=Qci hl
    refine wpOp_step rfl (fun K' hK=>?_)
    rw[if_pos (by rfl)]
    have d:=k8 (hdep {on:=8,ground:= .data} (by simp) (by rfl))
    subst d
    go_simp
    refine(HVA.out V).mono ?_
    rintro _ V' ⟨⟨x,c,rfl,hrr⟩,hbx⟩
    refine hK _ _ ⟨hs2,Bn hbl hbx,⟨u10,u30,u31,u32,u33,u34,u35,u36,u37,_,_,u40,u41,u42,rfl,(fun h=>k0 (Inv.gg hb h)),(fun h=>k1 (Inv.gg hb h)),(fun h=>(k2 (Inv.gg hb h)).later hbx),(fun h=>k3 (Inv.gg hb h)),(fun h=>k4 (Inv.gg hb h)),(fun h=>(k5 (Inv.gg hb h)).later hbx),(fun h=>k6 (Inv.gg hb h)),(fun h=>k7 (Inv.gg hb h)),(fun h=>k8 (Inv.gg hb h)),fun _=>⟨x,c,rfl,hrr⟩,(fun h=>by have q:=(o10 (Inv.gg hb h)).2.2;rw[hno] at q;cases q),(fun h=>Qa1 (k11 (Inv.gg hb h)) hbx),(fun h=>k12 (Inv.gg hb h)),(fun h=>by obtain⟨c,q1,q2,q3,q4⟩:=k13 (Inv.gg hb h);exact⟨c,q1.later hbx,q2,fun q=>q3 (Inv.gg hb q),fun q=>q4 (Inv.gg hb q)⟩)⟩,(fun h=>by obtain⟨q1,q2,q3⟩:=o10 (Inv.gg hb h);refine⟨?_,?_,?_⟩<;>(rw[hb];split<;>first | rfl | assumption | exact absurd rfl (by assumption))),(fun h=>by have q1:=o12 (Inv.gg hb h);rw[hb];split<;>first | rfl | assumption | exact absurd rfl (by assumption)),(fun h=>by obtain⟨q1,q2⟩:=o14 (Inv.gg hb h);refine⟨?_,?_⟩<;>(rw[hb];split<;>first | rfl | assumption | exact absurd rfl (by assumption)))⟩
   ·injection ho with ho
    subst ho
    have hno:=Qci hl
    refine wpOp_step rfl (fun K' hK=>?_)
    rw[if_pos (by rfl)]
    have d2:=(hdep {on:=2,ground:= .data} (by simp) (by rfl))
    have d5:=(hdep {on:=5,ground:= .data} (by simp) (by rfl))
    have d9:=(hdep {on:=9,ground:= .data} (by simp) (by rfl))
    obtain⟨x1,z1',rfl,q1⟩:=k2 d2
    obtain⟨x2,z2',rfl,q2⟩:=k5 d5
    obtain⟨x3,z3',rfl,q3⟩:=k9 d9
    go_simp
    have hbx:=Qab V (.cells #[.slice x1 R1.length z1',.slice x2 R2.length z2',.slice x3 R3.length z3'] 22)
    have ebx:=Qag V (.cells #[.slice x1 R1.length z1',.slice x2 R2.length z2',.slice x3 R3.length z3'] 22)
    have e0:=Joins.cell_of_block ebx 0
    have e1:=Joins.cell_of_block ebx 1
    have e2:=Joins.cell_of_block ebx 2
    simp only[List.getElem?_toArray,List.getElem?_cons_zero,List.getElem?_cons_succ] at e0 e1 e2
    refine hK _ _ ⟨hs2,Bn hbl hbx,⟨u10,u30,u31,_,u33,u34,_,u36,u37,u38,_,_,u41,u42,rfl,(fun h=>k0 (Inv.gg hb h)),(fun h=>k1 (Inv.gg hb h)),(fun h=>(k2 (Inv.gg hb h)).later hbx),(fun h=>k3 (Inv.gg hb h)),(fun h=>k4 (Inv.gg hb h)),(fun h=>(k5 (Inv.gg hb h)).later hbx),(fun h=>k6 (Inv.gg hb h)),(fun h=>k7 (Inv.gg hb h)),(fun h=>k8 (Inv.gg hb h)),(fun h=>(k9 (Inv.gg hb h)).later hbx),fun _=>⟨V.heap.size,rfl,by simp,e0,e1,e2⟩,(fun h=>Qa1 (k11 (Inv.gg hb h)) hbx),(fun h=>k12 (Inv.gg hb h)),(fun h=>by obtain⟨c,q1,q2,q3,q4⟩:=k13 (Inv.gg hb h);exact⟨c,q1.later hbx,q2,fun q=>q3 (Inv.gg hb q),fun q=>q4 (Inv.gg hb q)⟩)⟩,(fun _=>by refine⟨?_,?_,?_⟩<;>(rw[hb];split<;>first | rfl | assumption | exact absurd rfl (by assumption))),(fun h=>by have q1:=o12 (Inv.gg hb h);rw[hb];split<;>first | rfl | assumption | exact absurd rfl (by assumption)),(fun h=>by obtain⟨q1,q2⟩:=o14 (Inv.gg hb h);refine⟨?_,?_⟩<;>(rw[hb];split<;>first | rfl | assumption | exact absurd rfl (by assumption)))⟩
   ·injection ho with ho
    subst ho
    have hno:=Qci hl
    refine wpOp_step rfl (fun K' hK=>?_)
    rw[if_pos (by rfl)]
    have d10:=(hdep {on:=10,ground:= .data} (by simp) (by rfl))
    obtain⟨d2,d5,d9⟩:=o10 d10
    obtain⟨gs,rfl,hgs,g0,g1,g2⟩:=k10 d10
    obtain⟨x1,z1',rfl,q1⟩:=k2 d2
    obtain⟨x2,z2',rfl,q2⟩:=k5 d5
    obtain⟨x3,z3',rfl,q3⟩:=k9 d9
    have hcc:=Xbo gs V hgs x1 x2 x3 z1' z2' z3' R1 R2 R3 g0 g1 g2 q1 q2 q3 (by have:=HLN.out;omega)
    go_simp
    refine hcc.mono ?_
    rintro _ V' ⟨vr,rfl,hor,hbx⟩
    refine hK _ _ ⟨hs2,Bn hbl hbx,⟨u10,u30,u31,_,u33,u34,_,u36,u37,u38,_,_,_,u42,rfl,(fun h=>k0 (Inv.gg hb h)),(fun h=>k1 (Inv.gg hb h)),(fun h=>(k2 (Inv.gg hb h)).later hbx),(fun h=>k3 (Inv.gg hb h)),(fun h=>k4 (Inv.gg hb h)),(fun h=>(k5 (Inv.gg hb h)).later hbx),(fun h=>k6 (Inv.gg hb h)),(fun h=>k7 (Inv.gg hb h)),(fun h=>k8 (Inv.gg hb h)),(fun h=>(k9 (Inv.gg hb h)).later hbx),(fun h=>(k10 (Inv.gg hb h)).later hbx),fun _=>Qj8 hor hbl.size,(fun h=>by have q:=(o12 (Inv.gg hb h));rw[hno] at q;cases q),(fun h=>by obtain⟨c,q1,q2,q3,q4⟩:=k13 (Inv.gg hb h);exact⟨c,q1.later hbx,q2,fun q=>q3 (Inv.gg hb q),fun q=>q4 (Inv.gg hb q)⟩)⟩,(fun h=>by obtain⟨q1,q2,q3⟩:=o10 (Inv.gg hb h);refine⟨?_,?_,?_⟩<;>(rw[hb];split<;>first | rfl | assumption | exact absurd rfl (by assumption))),(fun h=>by have q1:=o12 (Inv.gg hb h);rw[hb];split<;>first | rfl | assumption | exact absurd rfl (by assumption)),(fun h=>by obtain⟨q1,q2⟩:=o14 (Inv.gg hb h);refine⟨?_,?_⟩<;>(rw[hb];split<;>first | rfl | assumption | exact absurd rfl (by assumption)))⟩
   ·injection ho with ho
    subst ho
    have hno:=Qci hl
    refine wpOp_step rfl (fun K' hK=>?_)
    rw[if_pos (by rfl)]
    have d11:=(hdep {on:=11,ground:= .data} (by simp) (by rfl))
    obtain⟨vx,vn,vc,hvx⟩:=Qgq (k11 d11)
    subst hvx
    go_simp
    refine hK _ _ ⟨hs2,hbl,⟨u10,u30,u31,u32,u33,u34,u35,u36,u37,u38,u39,u40,_,_,rfl,(fun h=>k0 (Inv.gg hb h)),(fun h=>k1 (Inv.gg hb h)),(fun h=>(k2 (Inv.gg hb h))),(fun h=>k3 (Inv.gg hb h)),(fun h=>k4 (Inv.gg hb h)),(fun h=>(k5 (Inv.gg hb h))),(fun h=>k6 (Inv.gg hb h)),(fun h=>k7 (Inv.gg hb h)),(fun h=>k8 (Inv.gg hb h)),(fun h=>(k9 (Inv.gg hb h))),(fun h=>(k10 (Inv.gg hb h))),(fun h=>k11 (Inv.gg hb h)),fun _=>rfl,(fun h=>by obtain⟨c,q1,q2,q3,q4⟩:=k13 (Inv.gg hb h);exact⟨c,q1,q2,(fun q=>by have:=(o14 (Inv.gg hb q)).1;rw[hno] at this;cases this),fun q=>q4 (Inv.gg hb q)⟩)⟩,(fun h=>by obtain⟨q1,q2,q3⟩:=o10 (Inv.gg hb h);refine⟨?_,?_,?_⟩<;>(rw[hb];split<;>first | rfl | assumption | exact absurd rfl (by assumption))),(fun _=>by rw[hb,if_neg (by decide)];exact d11),(fun h=>by obtain⟨q1,q2⟩:=o14 (Inv.gg hb h);refine⟨?_,?_⟩<;>(rw[hb];split<;>first | rfl | assumption | exact absurd rfl (by assumption)))⟩
   ·injection ho with ho
    subst ho
    have hno:=Qci hl
    refine wpOp_step rfl (fun K' hK=>?_)
    rw[if_pos (by rfl)]
    go_simp
    have hbx:=Qab V (.cells #[.slice none 0 0,.int .i64 0] 161)
    have ebx:=Qag V (.cells #[.slice none 0 0,.int .i64 0] 161)
    refine hK _ _ ⟨hs2,Bn hbl hbx,⟨_,u30,u31,u32,u33,u34,u35,u36,u37,u38,u39,u40,u41,u42,rfl,(fun h=>k0 (Inv.gg hb h)),(fun h=>k1 (Inv.gg hb h)),(fun h=>(k2 (Inv.gg hb h)).later hbx),(fun h=>k3 (Inv.gg hb h)),(fun h=>k4 (Inv.gg hb h)),(fun h=>(k5 (Inv.gg hb h)).later hbx),(fun h=>k6 (Inv.gg hb h)),(fun h=>k7 (Inv.gg hb h)),(fun h=>k8 (Inv.gg hb h)),(fun h=>(k9 (Inv.gg hb h)).later hbx),(fun h=>(k10 (Inv.gg hb h)).later hbx),(fun h=>Qa1 (k11 (Inv.gg hb h)) hbx),(fun h=>k12 (Inv.gg hb h)),fun _=>⟨Xj1,⟨V.heap.size,rfl,hbl.size,ebx⟩,rfl,(fun q=>by have:=(o14 (Inv.gg hb q)).2;rw[hno] at this;cases this),fun _=>rfl⟩⟩,(fun h=>by obtain⟨q1,q2,q3⟩:=o10 (Inv.gg hb h);refine⟨?_,?_,?_⟩<;>(rw[hb];split<;>first | rfl | assumption | exact absurd rfl (by assumption))),(fun h=>by have q1:=o12 (Inv.gg hb h);rw[hb];split<;>first | rfl | assumption | exact absurd rfl (by assumption)),(fun h=>by obtain⟨q1,q2⟩:=o14 (Inv.gg hb h);refine⟨?_,?_⟩<;>(rw[hb];split<;>first | rfl | assumption | exact absurd rfl (by assumption)))⟩
   ·injection ho with ho
    subst ho
    have hno:=Qci hl
    refine wpOp_step rfl (fun K' hK=>?_)
    rw[if_pos (by rfl)]
    have d13:=(hdep {on:=13,ground:= .data} (by simp) (by rfl))
    have d12:=(hdep {on:=12,ground:= .data} (by simp) (by rfl))
    have d11:=o12 d12
    obtain⟨cw,⟨gw,rfl,hgw,hcw⟩,hcs,_,hnw⟩:=k13 d13
    obtain rfl:=hnw hno
    obtain⟨vx,vn,vc,hvx⟩:=Qgq (k11 d11)
    subst hvx
    have d:=k12 d12
    subst d
    refine wp_store_row 161 _ _ rfl gw #[.slice vx vn vc,.int .i64 0] rfl rfl 161 _ hcw (by kernel_rfl) hcs (by simp[Value.oneCell']) ?_
    refine hK _ _ ⟨hs2,below_setRow hbl hgw _,⟨_,u30,u31,u32,u33,u34,u35,u36,u37,u38,u39,u40,_,_,rfl,(fun h=>k0 (Inv.gg hb h)),(fun h=>k1 (Inv.gg hb h)),(fun h=>(k2 (Inv.gg hb h)).put57 hcw _),(fun h=>k3 (Inv.gg hb h)),(fun h=>k4 (Inv.gg hb h)),(fun h=>(k5 (Inv.gg hb h)).put57 hcw _),(fun h=>k6 (Inv.gg hb h)),(fun h=>k7 (Inv.gg hb h)),(fun h=>k8 (Inv.gg hb h)),(fun h=>(k9 (Inv.gg hb h)).put57 hcw _),(fun h=>(k10 (Inv.gg hb h)).put57 hcw _),(fun _=>Qxp (k11 d11) hcw),(fun _=>rfl),(fun _=>⟨_,⟨gw,rfl,hgw,setRow_heap _ _ _ _ _ _ hcw⟩,rfl,(fun _=>rfl),(fun q=>by rw[hb,if_pos rfl] at q;cases q)⟩)⟩,(fun h=>by obtain⟨q1,q2,q3⟩:=o10 (Inv.gg hb h);refine⟨?_,?_,?_⟩<;>(rw[hb];split<;>first | rfl | assumption | exact absurd rfl (by assumption))),(fun h=>by have q1:=o12 (Inv.gg hb h);rw[hb];split<;>first | rfl | assumption | exact absurd rfl (by assumption)),(fun _=>by refine⟨?_,?_⟩<;>(rw[hb];split<;>first | rfl | assumption | exact absurd rfl (by assumption)))⟩
  case fin=>
   intro l1 a9 V hI hr
   obtain⟨hsz,hbl,⟨u10,u30,u31,u32,u33,u34,u35,u36,u37,u38,u39,u40,u41,u42,rfl,k0,k1,k2,k3,k4,k5,k6,k7,k8,k9,k10,k11,k12,k13⟩,o10,o12,o14⟩:=hI
   have D0:=Inv.done hr (j:=0) rfl (by omega) (fun e he=>by simp at he)
   have D3:=Inv.done hr (j:=3) rfl (by omega) (fun e he=>by simp at he)
   have D6:=Inv.done hr (j:=6) rfl (by omega) (fun e he=>by simp at he)
   have D13:=Inv.done hr (j:=13) rfl (by omega) (fun e he=>by simp at he)
   have D1:=Inv.done hr (j:=1) rfl (by omega) (fun e he _=>by simp at he;subst he;exact D0)
   have D4:=Inv.done hr (j:=4) rfl (by omega) (fun e he _=>by simp at he;subst he;exact D3)
   have D7:=Inv.done hr (j:=7) rfl (by omega) (fun e he _=>by simp at he;subst he;exact D6)
   have D8:=Inv.done hr (j:=8) rfl (by omega) (fun e he _=>by simp at he;subst he;exact D7)
   have D2:=Inv.done hr (j:=2) rfl (by omega) (fun e he _=>by simp at he;subst he;exact D1)
   have D5:=Inv.done hr (j:=5) rfl (by omega) (fun e he _=>by simp at he;rcases he with rfl | rfl<;>assumption)
   have D9:=Inv.done hr (j:=9) rfl (by omega) (fun e he _=>by simp at he;rcases he with rfl | rfl<;>assumption)
   have D10:=Inv.done hr (j:=10) rfl (by omega) (fun e he _=>by simp at he;rcases he with rfl | rfl | rfl<;>assumption)
   have D11:=Inv.done hr (j:=11) rfl (by omega) (fun e he _=>by simp at he;rcases he with rfl | rfl<;>assumption)
   have D12:=Inv.done hr (j:=12) rfl (by omega) (fun e he _=>by simp at he;subst he;exact D11)
   have D14:=Inv.done hr (j:=14) rfl (by omega) (fun e he _=>by simp at he;rcases he with rfl | rfl | rfl | rfl | rfl | rfl | rfl | rfl | rfl | rfl | rfl | rfl | rfl | rfl | rfl | rfl | rfl<;>assumption)
   obtain⟨cw,⟨gw,rfl,hgw,hcw⟩,_,hcv,_⟩:=k13 D13
   have hv:=hcv D14
   have h42:=k12 D12
   rw[h42] at hv
   injection hv with hv
   have HWT:Hid (Wt W.heap.size gw V (R1++R2++R3) 0 u41):=⟨by rw[hcw,<-hv];rfl,k11 D11,fun j=>by
    refine Xg3 (Xg3 (fun j=>?_) (fun j=>?_)) (fun j=>?_) j
    ·rw[HR1v.out];exact Qjc ls (by rw[HKF.out.1];omega) (fun j=>(Qd7 HKF.out.2).2 j) j
    ·rw[HR2v.out];exact Qjc ds (by rw[HDF.out.1];omega) (fun j=>(Qd7 HDF.out.2).2 j) j
    ·rw[HR3v.out];exact Qhs _ (by omega) (by omega) j,by omega,fun h=>by omega⟩
   have HBV:=hid hbl
   have HGW:=hid hgw
   subst h42
   clear hcv hv hcw k0 k1 k2 k3 k4 k5 k6 k7 k8 k9 k10 k11 k12 k13 o10 o12 o14 hr hsz hbl D0 D1 D2 D3 D4 D5 D6 D7 D8 D9 D10 D11 D12 D13 D14 hgw HVA HRU1 HRU2
   obtain⟨HD,hHD⟩:∃x,x=R1++R2++R3:=⟨_,rfl⟩
   have HHD:=hid hHD
   rw[<-hHD] at HWT
   have HHL:Hid (HD.length<=500000):=by show _<=_;rw[hHD];have:=HLN.out;simp;omega
   have HPK:Hid (Qb2 l=(Qhp ls (Qam ls) ds (Qam ds) l len (HD,0)).1):=by
    show _=_
    unfold Qb2 Qpp lsF dsF
    rw[<-HKK.out,<-HDD.out,<-HLS.out,<-HDS.out,<-HR1v.out,<-HR2v.out,<-HL.out,<-HR3v.out,<-HHD.out]
   clear hHD
   go_wp2_with fail
   go_loopw [45] (fun y wr=>∃k:Nat,k<=len∧y= .int .i64 (k:Int)∧Hid (∃v',Wt W.heap.size gw wr (Qhp ls (Qam ls) ds (Qam ds) l k (HD,0)).1 (Qhp ls (Qam ls) ds (Qam ds) l k (HD,0)).2 v')∧Hid (Below W.heap.size W wr)) (fun y _=>len-(intOf y).toNat)
   case atStart=>exact⟨0,by omega,rfl,⟨_,HWT.out⟩,HBV.out⟩
   case round=>
    obtain⟨k,hk,rfl,HWK,HBK⟩:=hrel
    clear HWT HBV
    by_cases hlt:k<len
    ·have hkl:(k:Int)<(len:Int):=by omega
     have hbw:=Bn HB5.out HBK.out
     obtain⟨b,off,rfl,hb0,hc⟩:=HR.out.cells (by rw[<-HL.out];omega)
     obtain⟨q0,q1,q2⟩:=hc k (by rw[<-HL.out];exact hlt)
     have d0:=(hbw.cell (p:=⟨b,off+k*3,none⟩) hb0).trans q0
     have d1:=(hbw.cell (p:=⟨b,off+k*3+1,none⟩) hb0).trans q1
     have d2:=(hbw.cell (p:=⟨b,off+k*3+2,none⟩) hb0).trans q2
     have h8:=wf_u8 (HR.out.fits k (by rw[<-HL.out];exact hlt)).2.2
     have hchk:=hall k (by rw[<-HL.out];exact hlt)
     have hl1:=fun j=>(Qd7 HKF.out.2).2 j
     have hl2:=fun j=>(Qd7 HDF.out.2).2 j
     have htl:=Qrx ls (Qam ls) ds (Qam ds) hl1 hl2 l (fun j hj=>by
      have h:=hall j hj
      have h8':=wf_u8 (HR.out.fits j hj).2.2
      have:=Qf9 h h8'
      omega) (HD,0) k (by rw[<-HL.out];exact hk)
     simp only at htl
     have hbA:=Qab wr (.cells (zC (l.getD k tk0)) 109)
     obtain⟨v',hWk⟩:=HWK.out
     have HTOK:=hid (Xa4 gw _ _ W (wr.alloc (.cells (zC (l.getD k tk0)) 109)) v' (hWk.alloc _) (Bn HBK.out hbA) HGW.out (by have:=HHL.out;omega) a1 a2 a3 a4 y1 y2 y3 y4 ls (Qam ls) ds (Qam ds) HR1.out HR2.out HR3.out HR4.out HKF.out.1 (by rw[Qax];exact HKF.out.1) HDF.out.1 (by rw[Qax];exact HDF.out.1) hl1 hl2 (l.getD k tk0) hchk h8)
     have HST:Hid (Qhp ls (Qam ls) ds (Qam ds) l (k+1) (HD,0)=Xdy ls (Qam ls) ds (Qam ds) (l.getD k tk0) ((Qhp ls (Qam ls) ds (Qam ds) l k (HD,0)).1,(Qhp ls (Qam ls) ds (Qam ds) l k (HD,0)).2)):=rfl
     have hx8:=(Bn HBK.out hbA).block g8 hg8l
     have hx9:=(Bn HBK.out hbA).block g9 hg9l
     have c80:=Joins.cell_of_block (hx8.trans HC8.out) 0
     have c81:=Joins.cell_of_block (hx8.trans HC8.out) 1
     have c90:=Joins.cell_of_block (hx9.trans HC9.out) 0
     have c91:=Joins.cell_of_block (hx9.trans HC9.out) 1
     simp only[List.getElem?_toArray,List.getElem?_cons_zero,List.getElem?_cons_succ] at c80 c81 c90 c91
     obtain⟨TK1,hTK⟩:∃x,x=Qhp ls (Qam ls) ds (Qam ds) l (k+1) (HD,0):=⟨_,rfl⟩
     have HTK:Hid (Qhp ls (Qam ls) ds (Qam ds) l (k+1) (HD,0)=TK1):=hTK.symm
     rw[<-hTK] at HST
     clear hTK
     clear hc q0 q1 q2 hbw hbA hWk HWK hx8 hx9 htl hl1 hl2 hchk h8 HPK
     generalize l.getD k tk0=tk at *
     obtain⟨td,tn,tx⟩:=tk
     unfold zC at HTOK c80 c81 c90 c91
     dsimp only at *
     go_wp2_with fail
     go_at_call 106
     refine HTOK.out.mono ?_
     rintro _ w5 ⟨rfl,hW5,hb5,_⟩
     rw[<-HST.out] at hW5
     have HW5:=hid hW5
     have HB6:=hid hb5
     clear hW5 hb5 HTOK HST c80 c81 c90 c91 d0 d1 d2
     go_wp2
     exact⟨⟨k+1,by omega,by go_num,by rw[HTK.out];exact HW5.out,HB6.out⟩,by simp[intOf];omega⟩
    ·obtain rfl:k=len:=by omega
     obtain⟨v',hWk⟩:=HWK.out
     have c0:=Joins.cell_of_block hWk.blk 0
     simp only[List.getElem?_toArray,List.getElem?_cons_zero] at c0
     obtain⟨vx,vn,vc,hvx⟩:=Qgq hWk.row
     subst hvx
     have HROW:=hid (Qj8 hWk.row HB5.out.size)
     have HBF:=hid (Bn HB5.out HBK.out)
     have HU8:=hid hWk.u8
     clear hWk HWK
     rw[<-HPK.out] at HROW HU8
     go_wp2
     go_ret2
     exact⟨_,rfl,HROW.out,HBF.out,HU8.out⟩
end
end Go.Proofs.YtibjlbcnapoblaaGreatDoor
