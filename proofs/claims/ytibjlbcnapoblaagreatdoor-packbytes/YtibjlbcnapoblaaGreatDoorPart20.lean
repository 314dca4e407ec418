/- Contracts and facts. -/
import Derived.Test.YtibjlbcnapoblaaGreatDoorPart19
namespace Go.Proofs.YtibjlbcnapoblaaGreatDoor
set_option maxRecDepth 100000
set_option maxHeartbeats 6400000
section
open Go.RowKit Hf
def Qhq(n:Nat):Nat->List Int->List Int->Option (List Int×List Int)
 | 0,_,_=>none
 | f+1,l,zs=>if l.length<n then
  match zs with
  | []=>none
  | c::zs1=>match Qnz (n-l.length) zs1 with
    | none=>none
    | some (m,rs)=>Qhq n f (l++List.replicate m c) rs
  else some (l,zs)
theorem Qja(n f:Nat)(l zs:List Int):Qhq n (f+1) l zs=if l.length<n then
 match zs with
 | []=>none
 | c::zs1=>match Qnz (n-l.length) zs1 with
   | none=>none
   | some (m,rs)=>Qhq n f (l++List.replicate m c) rs
 else some (l,zs):=by cases zs<;>rfl
def Qj1(n:Nat)(zs:List Int):Option (List Int×List Int):=Qhq n (zs.length+1) [] zs
theorem Qg5{n:Nat}{zs rs:List Int}{m:Nat}(h:Qnz n zs=some (m,rs)):m<=n∧rs.length<=zs.length:=by
 unfold Qnz at h
 split at h
 ·rename_i hc
  simp only[Option.some.injEq,Prod.mk.injEq] at h
  obtain⟨rfl,rfl⟩:=h
  refine⟨by have:=hc.2;omega,by rw[List.length_drop];omega⟩
 ·cases h
def Qqo(g:Nat)(w:World):Nat:=
 match w.cell? ⟨g,0,none⟩ with
 | some (.slice _ l _)=>l
 | _=>0
theorem Rr.Qqo{w0 w:World}{g:Nat}{t:TypeId}{tl:List Value}{a:Option Addr}{cap:Nat}{zs:List Int}(h:Rr w0 w g t tl a cap zs):Qqo g w=zs.length:=by
 have c0:=Joins.cell_of_block h.blk 0
 simp only[List.getElem?_toArray,List.getElem?_cons_zero] at c0
 unfold Go.Proofs.YtibjlbcnapoblaaGreatDoor.Qqo
 rw[c0]
theorem Rr.lt{w0 w:World}{g:Nat}{t:TypeId}{tl:List Value}{a:Option Addr}{cap:Nat}{zs:List Int}(h:Rr w0 w g t tl a cap zs):g<w.heap.size:=(Array.getElem?_eq_some_iff.1 h.blk).1
def Qto(w0 w:World)(g:Nat)(t:TypeId)(tl:List Value)(r:Option (List Int×List Int))(e:Ending)(w':World):Prop:=
 match r with
 | none=>e= .panicked Qd4∧Fa g w w'∧Below w0.heap.size w0 w'
 | some (l,rs)=>∃v,e= .returned v∧w'.ownsRow w.heap.size 3 1 v l.length (l.map (Value.int .i64))∧(∃a cap,Rr w0 w' g t tl a cap rs)∧Fa g w w'
theorem Qre{w w':World}{B g e size n:Nat}{v:Value}{xs:List Value}(h:w.ownsRow B e size v n xs)(hg:g<B)(hf:Fg g w w'):w'.ownsRow B e size v n xs:=by
 rcases h.2 with ⟨h1,h2⟩ | ⟨k,cap,cur,h1,h2,h3,h4⟩
 ·exact⟨h.1,.inl ⟨h1,h2⟩⟩
 ·exact⟨h.1,.inr ⟨k,cap,cur,h1,h2,(hf.same k (by omega)).trans h3,h4⟩⟩
theorem Qnd(w0 w:World)(g:Nat)(t:TypeId)(tl:List Value)(a:Option Addr)(cap n:Nat)(zs:List Int)(h:Rr w0 w g t tl a cap zs)(hn:n<=1000):
 Calls Tryz.prog 158 #[.pointer (some ⟨g,0,none⟩),.int .i64 (n:Int)] w (Qto w0 w g t tl (Qj1 n zs)):=by
 obtain⟨i0,hi,hz0,hz1,hz2⟩:=info_parts Tryz.info3'
 obtain⟨R,hR⟩:∃R,R=Qj1 n zs:=⟨_,rfl⟩
 rw[<-hR]
 have HST:Hid (w.ownsRow w.heap.size 3 1 (.slice none 0 0) ([]:List Int).length (([]:List Int).map (Value.int .i64))∧(∃a cap,Rr w0 w g t tl a cap zs)∧Fa g w w∧∃f,zs.length<f∧Qhq n f [] zs=R):=
  ⟨⟨rfl,.inl ⟨rfl,rfl⟩⟩,⟨a,cap,h⟩,Fa.refl g w,zs.length+1,by omega,by rw[hR];rfl⟩
 have HGW:=hid h.lt
 have HW0:=hid h.bel.size
 have HN:=hid hn
 clear h hR hn
 go_enter Tryz.func158,Tryz.ntmps158
 go_wp2_with fail
 go_loopw [5,6,7] (fun x _ _ wr=>∃(l zs':List Int) (c:Nat) (a:Option Addr),x= .slice a l.length c∧l.length<=n∧Hid (wr.ownsRow w.heap.size 3 1 (.slice a l.length c) l.length (l.map (Value.int .i64))∧(∃a cap,Rr w0 wr g t tl a cap zs')∧Fa g w wr∧∃f,zs'.length<f∧Qhq n f l zs'=R)) (fun _ _ _ wr=>Qqo g wr)
 case atStart=>exact⟨[],zs,0,none,rfl,Nat.zero_le _,HST.out⟩
 case round=>
  clear HST
  obtain⟨l,zs',lc,la,rfl,hl,HX⟩:=hrel
  obtain⟨hown,⟨ra,rc,hRr⟩,hFa,f,hf,hlg⟩:=HX.out
  clear HX
  obtain⟨ll,hll⟩:∃k,k=l.length:=⟨_,rfl⟩
  have HLL:=hid hll
  rw[<-hll] at hl hown|-
  obtain⟨f',rfl⟩:∃f',f=f'+1:=⟨f-1,by omega⟩
  rw[Qja,<-hll] at hlg
  clear hll
  by_cases hlt:ll<n
  ·have hli:(ll:Int)<(n:Int):=by omega
   rw[if_pos hlt] at hlg
   cases zs' with
   | nil=>
     dsimp only at hlg
     subst hlg
     have HNX:=hid (Qkw w0 wr g t tl ra rc hRr)
     have HF:=hid hFa
     have HB:=hid hRr.bel
     clear hown hRr hFa hf
     go_wp2_with fail
     go_at_call 137
     refine HNX.out.mono ?_
     rintro _ w1 ⟨rfl,hw⟩
     obtain rfl:=hw.symm
     exact⟨rfl,rfl,HF.out,HB.out⟩
   | cons z zs1=>
     have HNX:=hid (Ql8 w0 wr g t tl ra rc z zs1 hRr)
     have hz8:=wf_u8 (by have:=hRr.row.fits 0;simpa using this:(Lit.int .u8 z).wf=true)
     have HLA:=hid hRr.Qqo
     have HRR:=hid hRr
     have HOW:=hid hown
     have HFA:=hid hFa
     have HF:=hid hf
     have HLG:=hid hlg
     dsimp only at HLG
     obtain⟨zn,hzn⟩:=Int.eq_ofNat_of_zero_le hz8.1
     subst hzn
     have hzl:zn<256:=by omega
     clear hRr hown hFa hf hlg hz8
     go_wp2_with fail
     go_at_call 137
     refine HNX.out.mono ?_
     rintro _ w1 ⟨rfl,a1,c1,rfl,hr1⟩
     have hR1:=HRR.out.put hr1
     have HR1:=hid hR1
     have HF1:=hid (HFA.out.trans ((Fg.refl g wr).put (i:=0) (.slice a1 zs1.length c1)).fa)
     have HO1:Hid ((wr.setCell ⟨g,0,none⟩ (.slice a1 zs1.length c1)).ownsRow w.heap.size 3 1 (.slice la ll lc) ll (l.map (Value.int .i64))):=Qre HOW.out HGW.out ((Fg.refl g wr).put (i:=0) (.slice a1 zs1.length c1))
     clear HRR HFA HOW hr1 hR1 HNX
     generalize wr.setCell ⟨g,0,none⟩ (.slice a1 zs1.length c1)=w1 at *
     obtain⟨d,hd⟩:∃d,d=n-ll:=⟨_,rfl⟩
     have HD:=hid hd
     rw[<-hd] at HLG
     have hsub:(n:Int)-(ll:Int)=(d:Int):=by omega
     have hsw:wrap64 (d:Int)=(d:Int):=by have:=HN.out;exact Qit (by omega) (by omega)
     clear hd
     cases hnu:Qnz d zs1 with
     | none=>
       rw[hnu] at HLG
       have hR:=HLG.out
       dsimp only at hR
       subst hR
       have HNU:=hid (Qhx w0 w1 g t tl a1 c1 d zs1 HR1.out (by have:=HN.out;have:=HD.out;omega) hnu)
       have HB:=hid HR1.out.bel
       clear HLG hnu
       go_wp2_with fail
       go_at_call 138
       refine HNU.out.mono ?_
       rintro _ w2 ⟨rfl,hw⟩
       obtain rfl:=hw.symm
       exact⟨rfl,rfl,HF1.out,HB.out⟩
     | some mr=>
       obtain⟨m,rs⟩:=mr
       rw[hnu] at HLG
       have HNU:=hid (Qht w0 w1 g t tl a1 c1 d zs1 HR1.out (by have:=HN.out;have:=HD.out;omega) m rs hnu)
       obtain⟨hm1,hm2⟩:=Qg5 hnu
       have HM2:=hid hm2
       have HML:Hid (ll+m<=n):=by have:=HD.out;show _<=_;omega
       clear hnu hm1 hm2
       go_wp2_with fail
       go_at_call 138
       refine HNU.out.mono ?_
       rintro _ w2 ⟨rfl,a2,c2,rfl,hr2⟩
       have HR2:=hid (HR1.out.put hr2)
       have HF2:=hid (HF1.out.trans ((Fg.refl g w1).put (i:=0) (.slice a2 rs.length c2)).fa)
       have HO2:Hid ((w1.setCell ⟨g,0,none⟩ (.slice a2 rs.length c2)).ownsRow w.heap.size 3 1 (.slice la ll lc) ll (l.map (Value.int .i64))):=Qre HO1.out HGW.out ((Fg.refl g w1).put (i:=0) (.slice a2 rs.length c2))
       clear HR1 HF1 HO1 hr2 HNU hsub hsw
       generalize w1.setCell ⟨g,0,none⟩ (.slice a2 rs.length c2)=w3 at *
       have HRW:Hid (Calls Tryz.prog 170 #[.slice (some ⟨w3.heap.size,0,none⟩) 1 1,.int .i64 (m:Int)] (w3.alloc (.cells #[.int .i64 (zn:Int)] 3)) fun e w'=>e= .returned (.slice (some ⟨w3.heap.size+1,0,none⟩) m m)∧w'.heap[w3.heap.size+1]?=some (.cells ((List.replicate m (zn:Int)).map (Value.int .i64)).toArray 3 (0,0))∧Below (w3.heap.size+1) (w3.alloc (.cells #[.int .i64 (zn:Int)] 3)) w'):=by
        have h1:=Quu w3.heap.size m (zn:Int) (w3.alloc (.cells #[.int .i64 (zn:Int)] 3)) (Joins.cell_of_block (Qag w3 (.cells #[.int .i64 (zn:Int)] 3)) 0) (by have:=HN.out;have:=HML.out;omega)
        rw[World.size_alloc] at h1
        exact h1
       have HR3:=hid (HR2.out.keep (Below.heap_alloc w3 (.cells #[.int .i64 (zn:Int)] 3) g HR2.out.lt) (HR2.out.bel.alloc HR2.out.bel.size _))
       have HF3:=hid (HF2.out.trans (Fa.alloc g w3 (.cells #[.int .i64 (zn:Int)] 3)))
       have HO3:=hid (HO2.out.alloc (.cells #[.int .i64 (zn:Int)] 3))
       clear HR2 HF2 HO2
       go_wp2_with fail
       refine HRW.out.mono ?_
       rintro _ w5 ⟨rfl,hg5,hb5⟩
       have hsz3:(w3.alloc (.cells #[.int .i64 (zn:Int)] 3)).heap.size=w3.heap.size+1:=World.size_alloc ..
       rw[<-hsz3] at hb5
       have HR5:=hid (HR3.out.keep (hb5.block g HR3.out.lt) (Bn HR3.out.bel hb5))
       have HF5:=hid (HF3.out.trans (Fa.below hb5))
       have HO5:=hid (Qa9 HO3.out hb5)
       have HNW:Hid (∀j u,((List.replicate m (zn:Int)).map (Value.int .i64))[j]?=some u->w5.cell? (Addr.add ⟨w3.heap.size+1,0,none⟩ j)=some u):=by
        intro j u hj
        rw[Go.WideShapes.add_plain,Nat.zero_add,<-hj]
        refine(Joins.cell_of_block hg5 j).trans ?_
        rw[List.getElem?_toArray]
       have HSZ5:Hid (w.heap.size<=w5.heap.size):=HF5.out.size
       clear HR3 HF3 HO3 HRW hg5 hb5 hsz3
       go_wp2_with (at_builtin;refine wpList_append_own _ rfl _ _ 112 rfl w.heap.size 3 i0 (.int .i64 0) 1 8 Tryz.underlying112 hi hz0 hz1 hz2 rfl (by decide) _ _ _ rfl HO5.out ⟨w3.heap.size+1,0,none⟩ m m ((List.replicate m (zn:Int)).map (Value.int .i64)) rfl ?c1 HNW.out ?c2 ?c3 ?c4 HSZ5.out ?_)
       case c1=>simp
       case c2=>intro u hu;obtain⟨y,_,rfl⟩:=List.mem_map.1 hu;rfl
       case c3=>have:=HN.out;have:=HML.out;unfold maxLen;omega
       case c4=>have:=HN.out;have:=HML.out;omega
       intro v6 w6 hown6 hgrow6 hv6
       have hnb:∀k,(Value.slice la ll lc).ownBlock=some k->w.heap.size<=k:=fun k hk=>by
        rcases HO5.out.2 with ⟨hv,_⟩ | ⟨g',cap',cur',hv,hB',_⟩
        ·rw[hv] at hk;cases hk
        ·rw[hv] at hk
         simp only[Value.ownBlock,Option.some.injEq] at hk
         omega
       have HR6:=hid (HR5.out.keep (hgrow6.block g HR5.out.lt (fun e=>by have:=hnb g e.symm;have:=HGW.out;omega)) (HR5.out.bel.grown hgrow6 HR5.out.bel.size (fun k hk=>Nat.le_trans HW0.out (hnb k hk))))
       have HF6:Hid (Fa g w w6):=⟨Nat.le_trans HF5.out.size hgrow6.size,fun i hi hn=>(hgrow6.block i (Nat.lt_of_lt_of_le hi HF5.out.size) (fun e=>by have:=hnb i e.symm;omega)).trans (HF5.out.same i hi hn)⟩
       obtain⟨l2,hl2⟩:∃x,x=l++List.replicate m (zn:Int):=⟨_,rfl⟩
       have hll2:l2.length=ll+m:=by rw[hl2,List.length_append,List.length_replicate,<-HLL.out]
       have hown7:w6.ownsRow w.heap.size 3 1 v6 l2.length (l2.map (Value.int .i64)):=by rw[hll2,hl2,List.map_append,List.map_replicate];exact hown6
       obtain⟨a6,c6,hv6'⟩:∃a6 c6,v6= .slice a6 l2.length c6:=by
        rcases hown7.2 with ⟨h1,h2⟩ | ⟨g',cap',cur',h1,_⟩
        ·exact⟨none,0,by rw[h2];exact h1⟩
        ·exact⟨_,_,h1⟩
       subst hv6'
       have HO7:=hid hown7
       have HLG2:Hid (Qhq n f' l2 rs=R):=by rw[hl2];exact HLG.out
       have HL2:Hid (l2.length<=n):=by show _<=_;rw[hll2];exact HML.out
       clear hown6 hgrow6 hv6 hnb hl2 hll2 hown7 HR5 HF5 HO5 HNW HSZ5
       generalize hl3:l2.length=l3 at *
       have HL3:=hid hl3
       clear hl3
       go_wp2_with fail
       refine⟨⟨l2,rs,c6,a6,by rw[HL3.out],by rw[HL3.out];exact HL2.out,by rw[HL3.out];exact HO7.out,⟨_,_,HR6.out⟩,HF6.out,f',?_,HLG2.out⟩,?_⟩
       ·have h1:=HF.out
        have h2:=HM2.out
        rw[List.length_cons] at h1
        omega
       ·have h1:=HR6.out.Qqo
        have h2:=HLA.out
        have h3:=HM2.out
        rw[List.length_cons] at h2
        show Qqo g w6<Qqo g wr
        omega
  ·rw[if_neg hlt] at hlg
   subst hlg
   have HOW:=hid hown
   have HRR:=hid hRr
   have HFA:=hid hFa
   clear hown hRr hFa
   have hli:¬(ll:Int)<(n:Int):=by omega
   go_wp2_with fail
   go_ret
   refine⟨_,rfl,?_,⟨_,_,HRR.out⟩,HFA.out⟩
   rw[<-HLL.out]
   exact HOW.out
theorem Qp2(n:Nat)(P:Int->Prop):∀(f:Nat) (l zs l' rs:List Int),Qhq n f l zs=some (l',rs)->l.length<=n->(∀x∈l,P x)->(∀x∈zs,P x)->l'.length=n∧∀x∈l',P x:=by
 intro f
 induction f with
 | zero=>intro l zs l' rs h;simp[Qhq] at h
 | succ f ih=>
   intro l zs l' rs h hl h1 h2
   rw[Qja] at h
   by_cases hlt:l.length<n
   ·rw[if_pos hlt] at h
    cases zs with
    | nil=>cases h
    | cons z zs=>
      dsimp only at h
      cases hn:Qnz (n-l.length) zs with
      | none=>rw[hn] at h;cases h
      | some mr=>
        obtain⟨m,r⟩:=mr
        rw[hn] at h
        dsimp only at h
        have hm:=Qg5 hn
        have hr:∀x∈r,x∈zs:=by
         unfold Qnz at hn
         split at hn
         ·simp only[Option.some.injEq,Prod.mk.injEq] at hn
          rw[<-hn.2]
          exact fun x hx=>List.mem_of_mem_drop hx
         ·cases hn
        refine ih _ _ _ _ h (by rw[List.length_append,List.length_replicate];omega) (fun x hx=>?_) (fun x hx=>h2 x (List.mem_cons_of_mem _ (hr x hx)))
        rcases List.mem_append.1 hx with hx | hx
        ·exact h1 x hx
        ·rw[List.eq_of_mem_replicate hx];exact h2 z (List.mem_cons_self ..)
   ·rw[if_neg hlt] at h
    simp only[Option.some.injEq,Prod.mk.injEq] at h
    rw[<-h.1]
    exact⟨by omega,h1⟩
theorem Xbl(n:Nat)(zs l rs:List Int)(h:Qj1 n zs=some (l,rs))(hz:∀j,(Lit.int .u8 (zs.getD j 0)).wf=true):l.length=n∧∀j,(Lit.int .i64 (l.getD j 0)).wf=true:=by
 have h1:=Qp2 n (fun x=>0<=x∧x<=255) _ _ _ _ _ h (by simp) (by simp) (fun x hx=>by
  obtain⟨j,hj,rfl⟩:=List.getElem_of_mem hx
  have:=wf_u8 (hz j)
  simpa [List.getD,List.getElem?_eq_getElem hj] using this)
 refine⟨h1.1,fun j=>?_⟩
 by_cases hj:j<l.length
 ·have:=h1.2 (l[j]) (List.getElem_mem _)
  have e:l.getD j 0=l[j]:=by simp[List.getD,List.getElem?_eq_getElem hj]
  rw[e]
  exact Qby (by omega) (by omega)
 ·have e:l.getD j 0=0:=by simp[List.getD,List.getElem?_eq_none (show l.length<=j by omega)]
  rw[e]
  exact Qby (by omega) (by omega)
def Qin(T1 T2:Tr):Nat->List Tkz->Bst->Option (List Tkz×Bst)
 | 0,l,s=>some (l,s)
 | n+1,l,s=>match Qyq T1 T2 s with
   | none=>none
   | some (t,s')=>Qin T1 T2 n (l++ [t]) s'
def Qmg(zs:List Int):Option (List Tkz×Bst):=
 match Qj1 511 zs with
 | none=>none
 | some (ls,z1)=>if Qaq ls=true then
  match Qj1 13 z1 with
  | none=>none
  | some (ds,z2)=>if Qaq ds=true then
   match Qnz 65536 z2 with
   | none=>none
   | some (n,z3)=>Qin (Qbw ls ls.length) (Qbw ds ds.length) n [] (z3,0,0)
   else none
  else none
def zL(t:Tkz):List Value:= [.int .i64 t.1,.int .i64 t.2.1,.int .u8 t.2.2]
def Xby(w0 w:World)(g:Nat)(r:Option (List Tkz×Bst))(e:Ending)(w':World):Prop:=
 match r with
 | none=>e= .panicked Qd4∧Fa g w w'∧Below w0.heap.size w0 w'
 | some (l,s')=>∃v,e= .returned v∧w'.ownsRow w.heap.size 109 3 v l.length (l.flatMap zL)∧Rk w0 w' g s'∧Fa g w w'
theorem Tm.th{B g:Nat}{w:World}{v:Value}{T:Tr}(h:Tm B w v T)(h0:0<T.length)(hg:g<B):Th g w v T:=by
 obtain⟨gt,cap,h1,h2,h3,_,h5,_⟩:=h.cells h0
 exact⟨gt,cap,h1,by omega,h3,h5⟩
theorem Tryz.info109':(Tryz.prog.info? 109).map (fun i=>(i.zero,i.size,i.bytes))=some (some (.agg #[.int .i64 0,.int .i64 0,.int .u8 0]),3,24):=by kernel_rfl
theorem Xkv(w:World)(t:Tkz):∀j u,(zL t)[j]?=some u->(w.alloc (.cells (zC t) 109)).cell? (Addr.add ⟨w.heap.size,0,none⟩ j)=some u:=by
 intro j u hj
 rw[Go.WideShapes.add_plain,Nat.zero_add,<-hj]
 exact(Joins.cell_of_block (Qag w (.cells (zC t) 109)) j).trans (by unfold zC zL;rw[<-List.getElem?_toArray])
theorem Xlc{w w':World}{B g e size n:Nat}{v:Value}{xs:List Value}(h:w.ownsRow B e size v n xs)(hg:g<B)(hf:Fa g w w'):w'.ownsRow B e size v n xs:=by
 rcases h.2 with ⟨h1,h2⟩ | ⟨k,cap,cur,h1,h2,h3,h4⟩
 ·exact⟨h.1,.inl ⟨h1,h2⟩⟩
 ·exact⟨h.1,.inr ⟨k,cap,cur,h1,h2,(hf.same k (Array.getElem?_eq_some_iff.1 h3).1 (by omega)).trans h3,h4⟩⟩
theorem Qr2{w:World}{B e size n:Nat}{v:Value}{xs:List Value}(h:w.ownsRow B e size v n xs)(k:Nat)(hk:v.ownBlock=some k):B<=k:=by
 rcases h.2 with ⟨hv,_⟩ | ⟨g',cap',cur',hv,hB',_⟩
 ·rw[hv] at hk;cases hk
 ·rw[hv] at hk
  simp only[Value.ownBlock,Option.some.injEq] at hk
  omega
theorem Xk0(t:Tkz):∀u∈zL t,u.oneCell'=true:=by
 intro u hu
 simp only[zL,List.mem_cons,List.not_mem_nil,or_false] at hu
 rcases hu with rfl | rfl | rfl<;>rfl
theorem Qky(w w1:World)(n:Nat)(zs l rs:List Int)(v:Value)(hz:∀j,(Lit.int .u8 (zs.getD j 0)).wf=true)(h:Qj1 n zs=some (l,rs))(ho:w1.ownsRow w.heap.size 3 1 v l.length (l.map (Value.int .i64))):
 ∃a cap,v= .slice a l.length cap∧Ri w1 .i64 a cap l∧l.length=n:=by
 obtain⟨h1,h2⟩:=Xbl n zs l rs h hz
 obtain⟨a,cap,h3,h4⟩:=Ri.own ho h2
 exact⟨a,cap,h3,h4,h1⟩
theorem Qyd(w0 w:World)(g:Nat)(a:Option Addr)(cap:Nat)(zs:List Int)(h:Rr w0 w g 206 [.int .u8 0,.int .i64 0] a cap zs):
 Calls Tryz.prog 141 #[.pointer (some ⟨g,0,none⟩)] w (Xby w0 w g (Qmg zs)):=by
 obtain⟨i0,hi,hz0,hz1,hz2⟩:=info_parts Tryz.info109'
 have HZF:=hid h.row.fits
 have HGW:=hid h.lt
 have HW0:=hid h.bel.size
 have HL1:=hid (Qnd w0 w g 206 _ a cap 511 zs h (by omega))
 obtain⟨R,hR⟩:∃R,R=Qmg zs:=⟨_,rfl⟩
 rw[<-hR]
 unfold Qmg at hR
 have HR:=hid hR
 clear hR h
 go_enter Tryz.func141,Tryz.ntmps141
 go_wp2_with fail
 refine HL1.out.mono ?_
 intro e w1 he
 unfold Qto at he
 cases hl1:Qj1 511 zs with
 | none=>
   rw[hl1] at he HR
   obtain⟨rfl,h1,h2⟩:=he
   have hR:=HR.out
   dsimp only at hR
   subst hR
   exact⟨rfl,rfl,h1,h2⟩
 | some lr=>
   obtain⟨ls,z1⟩:=lr
   rw[hl1] at he HR
   obtain⟨v,rfl,hown,⟨ra,rc,hR1⟩,hF1⟩:=he
   obtain⟨a1,c1,rfl,hri,hln⟩:=Qky w w1 511 zs ls z1 v HZF.out hl1 hown
   dsimp only at HR
   have HR1:=hid hR1
   have HF1:=hid hF1
   have HRI:=hid hri
   have HG1:=hid hR1.lt
   clear hown hR1 hF1 hri hl1 HL1 hln
   cases hc1:Qaq ls with
   | false=>
     rw[hc1,if_neg (by decide)] at HR
     have hR:=HR.out
     subst hR
     have HT:=hid (Qsi a1 c1 ls w1 HRI.out hc1)
     generalize ls.length=len1 at *
     clear hc1
     go_wp2_with fail
     refine HT.out.mono ?_
     rintro _ w2 ⟨rfl,hb⟩
     exact⟨rfl,rfl,HF1.out.trans (Fa.below hb),Bn HR1.out.bel hb⟩
   | true=>
     rw[hc1,if_pos rfl] at HR
     have HT:=hid (Qmi a1 c1 ls w1 HRI.out hc1)
     have HK1:=hid (Qoq hc1)
     generalize Qbw ls ls.length=T1 at *
     generalize ls.length=len1 at *
     clear hc1 HRI
     go_wp2_with fail
     refine HT.out.mono ?_
     rintro _ w2 ⟨v1,rfl,hT1,hb2⟩
     have HTH1:=hid (hT1.th HK1.out.pos HG1.out)
     have hR2:=HR1.out.keep (hb2.block g HG1.out) (Bn HR1.out.bel hb2)
     have HR2:=hid hR2
     have HF2:=hid (HF1.out.trans (Fa.below hb2))
     have HZ2:=hid hR2.row.fits
     have HL2:=hid (Qnd w0 w2 g 206 _ ra rc 13 z1 hR2 (by omega))
     clear hT1 hb2 hR2 HT HR1 HF1 HG1
     go_wp2_with fail
     refine HL2.out.mono ?_
     intro e w3 he
     unfold Qto at he
     cases hl2:Qj1 13 z1 with
     | none=>
       rw[hl2] at he HR
       obtain⟨rfl,h1,h2⟩:=he
       have hR:=HR.out
       dsimp only at hR
       subst hR
       exact⟨rfl,rfl,HF2.out.trans h1,h2⟩
     | some dr=>
       obtain⟨ds,z2⟩:=dr
       rw[hl2] at he HR
       obtain⟨v,rfl,hown,⟨rb,rd,hR3⟩,hF3⟩:=he
       obtain⟨a3,c3,rfl,hri,hdn⟩:=Qky w2 w3 13 z1 ds z2 v HZ2.out hl2 hown
       dsimp only at HR
       have HR3:=hid hR3
       have HF3:=hid (HF2.out.trans hF3)
       have HTH3:=hid (HTH1.out.later hF3)
       have HRI:=hid hri
       have HG3:=hid hR3.lt
       have HDN:=hid hdn
       clear hown hR3 hF3 hri hl2 HL2 hdn HTH1 HR2 HF2
       cases hc2:Qaq ds with
       | false=>
         rw[hc2,if_neg (by decide)] at HR
         have hR:=HR.out
         subst hR
         have HT:=hid (Qsi a3 c3 ds w3 HRI.out hc2)
         clear HDN
         generalize ds.length=len2 at *
         clear hc2
         go_wp2_with fail
         refine HT.out.mono ?_
         rintro _ w4 ⟨rfl,hb⟩
         exact⟨rfl,rfl,HF3.out.trans (Fa.below hb),Bn HR3.out.bel hb⟩
       | true=>
         rw[hc2,if_pos rfl] at HR
         have HT:=hid (Qmi a3 c3 ds w3 HRI.out hc2)
         have HK2:=hid (Qoq hc2)
         have H13:Hid (∀i b,b<2-> -13<=ent (Qbw ds ds.length) i b):=fun i b hb=>Qk6 ds ds.length 13 (by rw[HDN.out];exact Nat.le_refl _) i b hb
         generalize Qbw ds ds.length=T2 at *
         clear HDN
         generalize ds.length=len2 at *
         clear hc2 HRI
         go_wp2_with fail
         refine HT.out.mono ?_
         rintro _ w4 ⟨v2,rfl,hT2,hb4⟩
         have HTH2:=hid (hT2.th HK2.out.pos HG3.out)
         have HTH4:=hid (HTH3.out.later (Fa.below hb4))
         have hR4:=HR3.out.keep (hb4.block g HG3.out) (Bn HR3.out.bel hb4)
         have HR4:=hid hR4
         have HF4:=hid (HF3.out.trans (Fa.below hb4))
         clear hT2 hb4 hR4 HT HR3 HF3 HG3 HTH3
         cases hnu:Qnz 65536 z2 with
         | none=>
           rw[hnu] at HR
           have hR:=HR.out
           dsimp only at hR
           subst hR
           have HNU:=hid (Qhx w0 w4 g 206 _ rb rd 65536 z2 HR4.out (by omega) hnu)
           clear hnu
           go_wp2_with fail
           refine HNU.out.mono ?_
           rintro _ w5 ⟨rfl,hw⟩
           obtain rfl:=hw.symm
           exact⟨rfl,rfl,HF4.out,HR4.out.bel⟩
         | some nr=>
           obtain⟨n,z3⟩:=nr
           rw[hnu] at HR
           dsimp only at HR
           have HNU:=hid (Qht w0 w4 g 206 _ rb rd 65536 z2 HR4.out (by omega) n z3 hnu)
           have HN:=hid (Qg5 hnu).1
           clear hnu
           go_wp2_with fail
           refine HNU.out.mono ?_
           rintro _ w5 ⟨rfl,a5,c5,rfl,hr5⟩
           have hF5:=(Fg.refl g w4).put (i:=0) (.slice a5 z3.length c5)
           have HQ5:Hid (Rk w0 (w4.setCell ⟨g,0,none⟩ (.slice a5 z3.length c5)) g (z3,0,0)):=⟨by show 0<256;decide,by show 0<=8;decide,a5,c5,HR4.out.put hr5⟩
           have HF5:=hid (HF4.out.trans hF5.fa)
           have HA5:=hid (HTH4.out.keep hF5)
           have HB5:=hid (HTH2.out.keep hF5)
           clear HNU HR4 HF4 HTH4 HTH2 hr5 hF5
           generalize w4.setCell ⟨g,0,none⟩ (.slice a5 z3.length c5)=w6 at *
           have HG6:=hid HQ5.out.lt
           have HS6:=hid HF5.out.size
           have HO6:Hid (w6.ownsRow w6.heap.size 109 3 (.slice none 0 0) ([]:List Tkz).length (([]:List Tkz).flatMap zL)):=⟨rfl,.inl ⟨rfl,rfl⟩⟩
           go_wp2_with fail
           go_loopw [6,22] (fun x i wr=>∃(k:Nat) (l:List Tkz) (s':Bst) (a:Option Addr) (c:Nat),x= .slice a l.length c∧i= .int .i64 (k:Int)∧k<=n∧Hid (l.length=k)∧Hid (wr.ownsRow w6.heap.size 109 3 (.slice a l.length c) l.length (l.flatMap zL))∧Hid (Rk w0 wr g s')∧Hid (Fa g w6 wr)∧Hid (Qin T1 T2 (n-k) l s'=R)) (fun _ i _=>n-(intOf i).toNat)
           case atStart=>exact⟨0,[],(z3,0,0),none,0,rfl,rfl,Nat.zero_le _,rfl,HO6,HQ5,Fa.refl g w6,HR.out.symm⟩
           case round=>
            obtain⟨k,l,s',la,lc,rfl,rfl,hk,HLK,HO,HQ,HF,HG⟩:=hrel
            clear HO6 HQ5
            rw[HLK.out] at HO|-
            by_cases hlt:k<n
            ·have hki:(k:Int)<(n:Int):=by omega
             have HTW:=hid (Qzg w0 wr g s' v1 v2 T1 T2 HQ.out (HA5.out.later HF.out) HK1.out (HB5.out.later HF.out) HK2.out H13.out)
             have HGR:Hid (Qin T1 T2 (n-k) l s'=match Qyq T1 T2 s' with | none=>none | some (t,s'')=>Qin T1 T2 (n-(k+1)) (l++ [t]) s''):=by
              show _=_
              rw[show n-k=(n-(k+1))+1 from by omega,Qin]
             go_wp2_with fail
             refine HTW.out.mono ?_
             intro e w7 he
             unfold Xax at he
             cases ht:Qyq T1 T2 s' with
             | none=>
               rw[ht] at he HGR
               obtain⟨rfl,h1,h2⟩:=he
               have hR:=HGR.out
               rw[HG.out] at hR
               dsimp only at hR
               subst hR
               exact⟨rfl,rfl,(HF5.out.trans HF.out).trans h1,h2⟩
             | some ts=>
               obtain⟨⟨t1,t2,t3⟩,s2⟩:=ts
               rw[ht] at he HGR
               obtain⟨rfl,hq7,hf7⟩:=he
               dsimp only at HGR
               have HG7:Hid (Qin T1 T2 (n-(k+1)) (l++ [(t1,t2,t3)]) s2=R):=by rw[<-HGR.out];exact HG.out
               have hO7:=Xlc HO.out HG6.out hf7
               have HO8:=hid (hO7.alloc (.cells (zC (t1,t2,t3)) 109))
               have HF8:=hid ((HF.out.trans hf7).trans (Fa.alloc g w7 (.cells (zC (t1,t2,t3)) 109)))
               have HQ8:=hid (hq7.alloc (.cells (zC (t1,t2,t3)) 109))
               have HNW:=hid (Xkv w7 (t1,t2,t3))
               have HS8:Hid (w6.heap.size<=(w7.alloc (.cells (zC (t1,t2,t3)) 109)).heap.size):=HF8.out.size
               clear hq7 hf7 hO7 HO HQ HF HG HGR HTW ht
               simp only[zC] at HO8 HF8 HQ8 HNW HS8|-
               go_wp2_with (at_builtin;refine wpList_append_own _ rfl _ _ 81 rfl w6.heap.size 109 i0 (.agg #[.int .i64 0,.int .i64 0,.int .u8 0]) 3 24 Tryz.underlying81 hi hz0 hz1 hz2 rfl (by decide) _ _ _ rfl HO8.out ⟨w7.heap.size,0,none⟩ 1 1 (zL (t1,t2,t3)) rfl rfl HNW.out (Xk0 _) (by have:=HN.out;unfold maxLen;omega) (by have:=HN.out;omega) HS8.out ?_)
               intro v9 w9 hown9 hgrow9 _
               have hnb:=Qr2 HO8.out
               have HQ9:=hid (HQ8.out.keep (hgrow9.block g HQ8.out.lt (fun e=>by have:=hnb g e.symm;have:=HG6.out;omega)) (HQ8.out.bel.grown hgrow9 HQ8.out.bel.size (fun j hj=>by have:=hnb j hj;have:=HS6.out;have:=HW0.out;omega)))
               have HF9:Hid (Fa g w6 w9):=⟨Nat.le_trans HF8.out.size hgrow9.size,fun i hi hn=>(hgrow9.block i (Nat.lt_of_lt_of_le hi HF8.out.size) (fun e=>by have:=hnb i e.symm;omega)).trans (HF8.out.same i hi hn)⟩
               obtain⟨l2,hl2⟩:∃x,x=l++ [(t1,t2,t3)]:=⟨_,rfl⟩
               have hll2:l2.length=k+1:=by rw[hl2,List.length_append,HLK.out];rfl
               have hown10:w9.ownsRow w6.heap.size 109 3 v9 l2.length (l2.flatMap zL):=by
                rw[hll2,hl2,List.flatMap_append]
                simpa using hown9
               obtain⟨a9,c9,hv9⟩:∃a9 c9,v9= .slice a9 l2.length c9:=by
                rcases hown10.2 with ⟨h1,h2⟩ | ⟨g',cap',cur',h1,_⟩
                ·exact⟨none,0,by rw[h2];exact h1⟩
                ·exact⟨_,_,h1⟩
               subst hv9
               have HO10:=hid hown10
               rw[<-hl2] at HG7
               have HL2:=hid hll2
               clear hown9 hgrow9 hnb hl2 hown10 HO8 HF8 HQ8 HNW HS8
               rw[hll2]
               clear hll2
               go_wp2_with fail
               have hwk:wrap64 ((k:Int)+1)=((k+1:Nat):Int):=by have:=HN.out;rw[Qit (by omega) (by omega)];omega
               rw[hwk]
               exact⟨⟨k+1,l2,s2,a9,c9,by rw[HL2.out],rfl,by omega,HL2,HO10,HQ9,HF9,HG7⟩,by simp only[intOf];omega⟩
            ·have hkn:n-k=0:=by omega
             rw[hkn,Qin] at HG
             have hR:=HG.out
             subst hR
             clear hkn
             have hli:¬(k:Int)<(n:Int):=by omega
             have HKN:=hid hk
             clear hk
             go_wp2_with fail
             go_ret
             refine⟨_,rfl,?_,HQ.out,HF5.out.trans HF.out⟩
             have ho:=HO.out
             rw[HLK.out]
             rcases ho.2 with h1 | ⟨g',cap',cur',h1,h2,h3⟩
             ·exact⟨ho.1,.inl h1⟩
             ·exact⟨ho.1,.inr ⟨g',cap',cur',h1,Nat.le_trans HS6.out h2,h3⟩⟩
end
section
open Go.RowKit
theorem Qxc(n:Nat)(w:World)(hn:n<=10000000):
 Calls Tryz.prog 133 #[.slice none 0 0,.int .i64 (n:Int)] w fun e w'=>∃v,e= .returned v∧w'.ownsRow w.heap.size 5 1 v 0 []∧Below w.heap.size w w':=by
 obtain⟨i0,hi,hz0,hz1,hz2⟩:=info_parts Tryz.info5Z
 have h1:¬((n:Int)<0):=by omega
 by_cases h0:n=0
 ·subst h0
  go_enter Tryz.func133,Tryz.ntmps133
  go_wp2
  go_ret
  exact⟨_,rfl,World.ownsRow_nil _ _ _ _,Below.refl _ _⟩
 ·have h4:(n:Int)>0:=by omega
  have hold:(Builtin.firstCells i0.size 0 (.slice none 0 0)).run Tryz.prog w.drew= .ok ([]:List Value).toArray w.drew:=run_firstCells_none w.drew i0.size 0 0 0
  have hrz:∀ty,(Builtin.append_ #[22,3] ty #[.slice none 0 0,.int .i64 (n:Int)]).run Tryz.prog w =
   .ok (.slice (some ⟨w.heap.size,0,none⟩) n (grownCap w n 0 5)) (w.drew.alloc (.cells (([]:List Value).toArray++Builtin.zeroCells (.int .u8 0:Value).cells n++Builtin.zeroCells (.int .u8 0:Value).cells (grownCap w n 0 5-n)) 5)):=fun ty=>by
   have h:=Lib.run_append_grow_zeros w 22 3 ty 5 i0 (.int .u8 0) .i64 .i64 Tryz.underlying22 Tryz.underlying3 hi hz0 none 0 0 [] hold n (by omega) (by rw[hz1];decide) (by omega) (by omega) (by rw[hz2];omega)
    (by rw[Nat.zero_add];exact growslice_fits (by omega) (by rw[hz2];omega))
   rw[Nat.zero_add] at h
   exact h
  have hGn:n<=grownCap w n 0 5:=grownCap_ge w _ _ _
  have hGm:=grownCap_le_maxLen w n 0 5 (by unfold maxLen;omega)
  generalize grownCap w n 0 5=G at *
  have hsz:(([]:List Value).toArray++Builtin.zeroCells (.int .u8 0:Value).cells n++Builtin.zeroCells (.int .u8 0:Value).cells (G-n)).size=G*1:=by
   simp[Builtin.zeroCells,Value.cells]
   omega
  have HO:Hid ((w.drew.alloc (.cells (([]:List Value).toArray++Builtin.zeroCells (.int .u8 0:Value).cells n++Builtin.zeroCells (.int .u8 0:Value).cells (G-n)) 5)).ownsRow w.heap.size 5 1 (.slice (some ⟨w.heap.size,0,none⟩) 0 G) 0 []):=
   ⟨rfl,Or.inr ⟨w.heap.size,G,_,rfl,Nat.le_refl _,Qaj w.drew _,by omega,hGm,hsz,by simp⟩⟩
  have HB:Hid (Below w.heap.size w (w.drew.alloc (.cells (([]:List Value).toArray++Builtin.zeroCells (.int .u8 0:Value).cells n++Builtin.zeroCells (.int .u8 0:Value).cells (G-n)) 5))):=(Below.refl _ _).drew.alloc (by simp) _
  clear hold hsz
  generalize w.drew.alloc (.cells (([]:List Value).toArray++Builtin.zeroCells (.int .u8 0:Value).cells n++Builtin.zeroCells (.int .u8 0:Value).cells (G-n)) 5)=wG at *
  go_enter Tryz.func133,Tryz.ntmps133
  go_wp2_with (at_builtin;refine Lib.wpList_append_run _ rfl _ _ _ _ rfl _ _ rfl rfl _ _ (hrz _) ?_)
  go_ret
  exact⟨_,rfl,HO.out,HB.out⟩
abbrev Rw:=Option Addr×Nat×List Int
def Qi2(R:Nat->Rw):Nat->List Int
 | 0=> []
 | k+1=>Qi2 R k++(R k).2.2
theorem Qme(R:Nat->Rw):∀ {k n:Nat},k<=n->(Qi2 R k).length<=(Qi2 R n).length
 | k,0,h=>by rw[show k=0 from by omega];exact Nat.le_refl _
 | k,n+1,h=>by
   by_cases e:k=n+1
   ·rw[e];exact Nat.le_refl _
   ·have:=Qme R (show k<=n by omega)
    rw[Qi2,List.length_append];omega
theorem Qsy(g n:Nat)(R:Nat->Rw)(w:World)(hg:g<w.heap.size)(hn:n<=100)(hc:∀j,j<n->w.cell? ⟨g,j,none⟩=some (.slice (R j).1 (R j).2.2.length (R j).2.1))(hr:∀j,j<n->Ri w .u8 (R j).1 (R j).2.1 (R j).2.2)(hs:(Qi2 R n).length<=1000000):
 Calls Tryz.prog 103 #[.slice (some ⟨g,0,none⟩) n n] w fun e w'=>∃v,e= .returned v∧w'.ownsRow w.heap.size 5 1 v (Qi2 R n).length ((Qi2 R n).map (Value.int .u8))∧Below w.heap.size w w':=by
 have HG:=hid (fun W:World=>Qxc (Qi2 R n).length W (by omega))
 have HC:=hid hc
 have HR:=hid hr
 have HS:=hid hs
 clear hc hr hs
 go_enter Tryz.func103,Tryz.ntmps103
 go_wp2_with fail
 go_loopw [3,11] (fun s i wr=>wr=w∧∃k:Nat,k<=n∧i= .int .i64 (k:Int)∧s= .int .i64 ((Qi2 R k).length:Int)) (fun _ i _=>n-(intOf i).toNat)
 case atStart=>exact⟨rfl,0,by omega,rfl,rfl⟩
 case round=>
  obtain⟨hw,k,hk,rfl,rfl⟩:=hrel
  obtain rfl:=hw.symm
  clear hw
  by_cases hlt:k<n
  ·have hkn:(k:Int)<(n:Int):=by omega
   have c:=HC.out k hlt
   have HE:Hid ((Qi2 R (k+1)).length=(Qi2 R k).length+(R k).2.2.length):=by show _=_;rw[Qi2,List.length_append]
   have hm:=Qme R (show k+1<=n by omega)
   have hm2:(Qi2 R k).length+(R k).2.2.length<=1000000:=by rw[<-HE.out];exact Nat.le_trans hm HS.out
   clear hm
   generalize (R k).2.2.length=m at *
   generalize (Qi2 R k).length=t at *
   have hp:¬((t:Int)+(m:Int)<0):=by omega
   have hm3:(t:Int)+(m:Int)<=1000000:=by omega
   go_wp2
   exact⟨⟨by trivial,k+1,by omega,by go_num,by rw[HE.out];go_num⟩,by simp[intOf];omega⟩
  ·obtain rfl:k=n:=by omega
   go_wp2_with fail
   go_at_call 133
   refine(HG.out w).mono ?_
   rintro _ w1 ⟨v,rfl,hown,hb1⟩
   have HB1:=hid hb1
   have HO1:=hid hown
   clear hb1 hown
   go_wp2_with fail
   go_loopw [6,27] (fun v i wq=>∃j:Nat,j<=k∧i= .int .i64 (j:Int)∧Hid (Below w.heap.size w wq)∧Hid (wq.ownsRow w.heap.size 5 1 v (Qi2 R j).length ((Qi2 R j).map (Value.int .u8)))) (fun _ i _=>k-(intOf i).toNat)
   case atStart=>exact⟨0,by omega,rfl,HB1.out,HO1.out⟩
   case round=>
    obtain⟨j,hj,rfl,HBQ,HOQ⟩:=hrel
    clear HB1 HO1
    by_cases hjt:j<k
    ·have hjn:(j:Int)<(k:Int):=by omega
     have c:=(HBQ.out.cell (p:=⟨g,j,none⟩) hg).trans (HC.out j hjt)
     have rj:=(HR.out j hjt).later HBQ.out
     have HE:Hid (Qi2 R (j+1)=Qi2 R j++(R j).2.2):=rfl
     have hm:=Qme R (show j+1<=k by omega)
     have hm2:(Qi2 R j).length+(R j).2.2.length<=10000000:=by
      have h:=HS.out
      have h2:(Qi2 R (j+1)).length=(Qi2 R j).length+(R j).2.2.length:=by rw[Qi2,List.length_append]
      omega
     have hz:=HBQ.out.size
     have HO:=hid HOQ.out
     clear hm HOQ
     obtain⟨L1,hL1⟩:∃x,x=Qi2 R (j+1):=⟨_,rfl⟩
     rw[<-hL1] at HE
     have HL1:Hid (Qi2 R (j+1)=L1):=hL1.symm
     clear hL1
     generalize Qi2 R j=L at *
     clear HC HR
     generalize R j=r at *
     obtain⟨ra,rc,rz⟩:=r
     dsimp only at *
     go_wp2_with (at_builtin;refine Qch _ rfl _ _ rfl w.heap.size _ L rfl HO.out ra rc rz rfl rj hm2 hz ?_)
     intro v' w2 hown' hgrow
     have HB2:=hid (HBQ.out.grown hgrow (by omega) (fun j hj=>(HO.out.lt j hj).1))
     have HO2:=hid hown'
     clear hgrow hown' HO HBQ rj c
     go_wp2
     exact⟨⟨j+1,by omega,by go_num,HB2.out,by rw[HL1.out,HE.out];show World.ownsRow _ _ _ _ _ _ _;rw[List.length_append,List.map_append];exact HO2.out⟩,by simp[intOf];omega⟩
    ·obtain rfl:j=k:=by omega
     clear HC HR
     go_wp2
     go_ret
     exact⟨_,rfl,HOQ.out,HBQ.out⟩
end
namespace Inv
open Go.RowKit
section
variable {P : Program} {md : Region.Mode} {ops : Array Oper} {Q : Exit → Act → World → Prop}
theorem Quk(l:Array Bool)(i:Nat):(l.setIfInBounds i true).size=l.size:=by simp
def left(l:Array Bool):Nat:=l.toList.countP (fun b=> !b)
theorem Xf0(l:Array Bool)(i:Nat)(h:l.getD i true=false):left (l.setIfInBounds i true)+1=left l:=by
 have hi:i<l.size:=by
  by_cases c:i<l.size
  ·exact c
  ·simp[c] at h
 have hv:l[i]=false:=by simpa [hi] using h
 unfold left
 have e:(l.setIfInBounds i true).toList=l.toList.set i true:=by simp
 rw[e,List.countP_set (by simpa using hi)]
 have h1:l.toList[i]'(by simpa using hi)=false:=by simpa using hv
 have hp:0<l.toList.countP (fun b=> !b):=List.countP_pos_iff.2 ⟨false,by rw[<-h1];exact List.getElem_mem _,rfl⟩
 simp only[h1,Bool.not_false,if_true,Bool.not_true,Bool.false_eq_true,if_false]
 omega
theorem Qzp{l:Array Bool}(h:left l=0)(i:Nat):l.getD i true=true:=by
 unfold left at h
 rw[List.countP_eq_zero] at h
 by_cases c:i<l.size
 ·have:=h (l.toList[i]'(by simpa using c)) (List.getElem_mem _)
  simp at this
  simp[c,this]
 ·simp[c]
theorem any{I:Array Bool->Act->World->Prop}(hstep:∀l a w,I l a w->∀i o,ops[i]?=some o->l.getD i true=false->(∀e∈o.after,Region.binds md e=true->l.getD e.on false=true)->wpOp P ops Q i (fun a' w'=>I (l.setIfInBounds i true) a' w') a w)
 (hend:∀l a w,I l a w->Region.ready md ops l= []->Q .normal a w):∀n l a w,left l<=n->I l a w->wpAny P md ops Q n l a w
 | 0,l,a,w,hn,h=>by
   have hr:Region.ready md ops l= []:=by
    rw[List.eq_nil_iff_forall_not_mem]
    intro i hi
    have:=(mem_ready.1 hi).1
    rw[Qzp (by omega) i] at this
    cases this
   exact⟨hr,hend l a w h hr⟩
 | n+1,l,a,w,hn,h=>by
   refine⟨fun hr=>hend l a w h hr,fun i hi=>?_⟩
   obtain⟨h1,o,h2,h3⟩:=mem_ready.1 hi
   refine wpOp_mono (fun a' w' h'=>any hstep hend n _ a' w' ?_ h') (hstep l a w h i o h2 h1 h3)
   have:=Xf0 l i h1
   omega
theorem region{id:Nat}{a:Act}{w:World}(I:Array Bool->Act->World->Prop)(hm:P.follows .mixedOrders=true)(h0:I (Array.replicate ops.size false) a w.drew)
 (hstep:∀l a w,I l a w->∀i o,ops[i]?=some o->l.getD i true=false->(∀e∈o.after,Region.binds .any e=true->l.getD e.on false=true)->wpOp P ops Q i (fun a' w'=>I (l.setIfInBounds i true) a' w') a w)
 (hend:∀l a w,I l a w->Region.ready .any ops l= []->Q .normal a w):(Code.region id ops true).wp P Q a w:=
 wp_region_any hm (any hstep hend _ _ _ _ (by unfold left;refine Nat.le_trans List.countP_le_length ?_;simp) h0)
theorem Qtk{l:Array Bool}{i:Nat}(j:Nat)(h:i<l.size):(l.setIfInBounds i true).getD j false=if i=j then true else l.getD j false:=by
 by_cases e:i=j
 ·subst e;simp[h]
 ·rw[if_neg e]
  simp[e]
theorem gg{l:Array Bool}{i j:Nat}{b:Bool}(hb:∀j,(l.setIfInBounds i true).getD j false=if i=j then true else l.getD j false)(h:(l.setIfInBounds i true).getD j false=b)(e:decide (i=j)=false:=by rfl):l.getD j false=b:=by rw[hb,if_neg (of_decide_eq_false e)] at h;exact h
theorem Xf7{l:Array Bool}{i:Nat}(h:l.getD i true=false):i<l.size:=by
 by_cases c:i<l.size
 ·exact c
 ·simp[c] at h
theorem done{l:Array Bool}{j:Nat}{o:Oper}(hr:Region.ready md ops l= [])(ho:ops[j]?=some o)(hs:j<l.size)(hd:∀e∈o.after,Region.binds md e=true->l.getD e.on false=true):l.getD j false=true:=by
 cases c:l.getD j true with
 | true=>simpa [hs] using c
 | false=>
   have:j∈Region.ready md ops l:=mem_ready.2 ⟨c,o,ho,hd⟩
   rw[hr] at this
   cases this
end
end Inv
end Go.Proofs.YtibjlbcnapoblaaGreatDoor
