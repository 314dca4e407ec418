/- Contracts and facts. -/
import Derived.Test.YtibjlbcnapoblaaGreatDoorPart32
namespace Go.Proofs.YtibjlbcnapoblaaGreatDoor
set_option maxRecDepth 100000
set_option maxHeartbeats 6400000
section
open Go.RowKit Hf
theorem Qso(a:Option Addr)(cap:Nat)(cs:List Int)(w:World)(hr:Ri w .i64 a cap cs):
 Calls Tryz.prog 109 #[.slice a cs.length cap] w fun e w'=>e= .returned (.bool (Qne cs))∧w'=w:=by
 have HR:=hid hr
 have hmax:=hr.most
 have hroom:=hr.room
 unfold maxLen at hmax
 obtain⟨len,hl⟩:∃n,n=cs.length:=⟨_,rfl⟩
 have HL:=hid hl
 rw[<-hl] at hroom|-
 clear hr hl
 go_enter Tryz.func109,Tryz.ntmps109
 go_wp2
 go_loop [3] (fun i=>∃k:Nat,k<=len∧i= .int .i64 k∧Hid (∀j,j<k->¬(512<=j∨cs.getD j 0<0∨1073741824<cs.getD j 0))) (fun i=>len-(intOf i).toNat)
 case atStart=>exact⟨0,by omega,rfl,fun j hj=>absurd hj (by omega)⟩
 case round=>
  obtain⟨k,hk,rfl,HA⟩:=hrel
  by_cases hlt:k<len
  ·have hkl:(k:Int)<(len:Int):=by omega
   have HZ:Hid (k<cs.length):=by show _<_;rw[<-HL.out];exact hlt
   obtain⟨b,off,rfl,hbw,hc⟩:=(HR.out).cells (by rw[<-HL.out];omega)
   have ck:=hc k HZ.out
   clear hc
   by_cases h1:512<=k
   ·have h1':(512:Int)<=(k:Int):=by omega
    have E:=hid (Qu5 cs k HZ.out (Or.inl h1))
    go_wp2
    go_ret
    exact⟨by rw[E.out];rfl,rfl⟩
   ·have h1':¬(512:Int)<=(k:Int):=by omega
    have HB:=hid (fun h=>Qu5 cs k HZ.out (Or.inr h))
    have HA2:Hid (¬(cs.getD k 0<0∨1073741824<cs.getD k 0)->∀j,j<k+1->¬(512<=j∨cs.getD j 0<0∨1073741824<cs.getD j 0)):=fun hn j hj=>by
     by_cases e:j=k
     ·subst e;omega
     ·exact HA.out j (by omega)
    generalize cs.getD k 0=z at *
    by_cases h2:z<0
    ·have E:=hid (HB.out (Or.inl h2))
     go_wp2
     go_ret
     exact⟨by rw[E.out];rfl,rfl⟩
    ·by_cases h3:1073741824<z
     ·have E:=hid (HB.out (Or.inr h3))
      go_wp2
      go_ret
      exact⟨by rw[E.out];rfl,rfl⟩
     ·go_wp2
      exact⟨⟨k+1,by omega,by go_num,HA2.out (by omega)⟩,by simp[intOf];omega⟩
  ·obtain rfl:k=len:=by omega
   have E:=hid (Qql cs (fun j hj=>HA.out j (by rw[HL.out];exact hj)))
   go_wp2
   go_ret
   exact⟨by rw[E.out];rfl,rfl⟩
end
/-
 The contracts of the document's Deep and Lengths.
-/
section
open Go.RowKit Hf
theorem Xfi(a:Option Addr)(cap:Nat)(cs:List Int)(w:World)(hr:Ri w .i64 a cap cs):
 Calls Tryz.prog 111 #[.slice a cs.length cap] w fun e w'=>e= .returned (.bool (cs.any Qbn))∧w'=w:=by
 have HR:=hid hr
 have hmax:=hr.most
 have hroom:=hr.room
 unfold maxLen at hmax
 obtain⟨len,hl⟩:∃n,n=cs.length:=⟨_,rfl⟩
 have HL:=hid hl
 rw[<-hl] at hroom|-
 clear hr hl
 go_enter Tryz.func111,Tryz.ntmps111
 go_wp2
 go_loop [3] (fun i=>∃k:Nat,k<=len∧i= .int .i64 k∧Hid (∀j,j<k->¬15<cs.getD j 0)) (fun i=>len-(intOf i).toNat)
 case atStart=>exact⟨0,by omega,rfl,fun j hj=>absurd hj (by omega)⟩
 case round=>
  obtain⟨k,hk,rfl,HA⟩:=hrel
  by_cases hlt:k<len
  ·have hkl:(k:Int)<(len:Int):=by omega
   have HZ:Hid (k<cs.length):=by show _<_;rw[<-HL.out];exact hlt
   obtain⟨b,off,rfl,hbw,hc⟩:=(HR.out).cells (by rw[<-HL.out];omega)
   have ck:=hc k HZ.out
   clear hc
   have HB:Hid (15<cs.getD k 0->cs.any Qbn=true):=fun h=>by
    rw[List.any_eq_true]
    exact⟨_,Hf.getD_in k HZ.out,by unfold Qbn;rw[decide_eq_true_eq];exact h⟩
   have HA2:Hid (¬15<cs.getD k 0->∀j,j<k+1->¬15<cs.getD j 0):=fun hn j hj=>by
    by_cases e:j=k
    ·subst e;exact hn
    ·exact HA.out j (by omega)
   generalize cs.getD k 0=z at *
   by_cases h2:15<z
   ·have E:=hid (HB.out h2)
    go_wp2
    go_ret
    exact⟨by rw[E.out];rfl,rfl⟩
   ·have HA3:=hid (HA2.out h2)
    go_wp2
    exact⟨⟨k+1,by omega,by go_num,HA3⟩,by simp[intOf];omega⟩
  ·obtain rfl:k=len:=by omega
   have E:Hid (cs.any Qbn=false):=by
    show _=_
    rw[List.any_eq_false]
    intro z hz
    obtain⟨p,hp,e⟩:=Qej hz
    unfold Qbn
    rw[decide_eq_true_eq,<-e]
    exact HA.out p (by rw[HL.out];exact hp)
   go_wp2
   go_ret
   exact⟨by rw[E.out];rfl,rfl⟩
def Xg6(w:World):Value->List Int
 | .slice (some a) n _=>(List.range n).map (fun j=>match w.cell? ⟨a.block,a.off+j,none⟩ with | some (.int _ x)=>x | _=>0)
 | _=> []
theorem Xao{w:World}{a:Option Addr}{c:Nat}{X:List Int}(h:Ri w .i64 a c X):Xg6 w (.slice a X.length c)=X:=by
 by_cases h0:0<X.length
 ·obtain⟨b,off,rfl,_,hc⟩:=h.cells h0
  refine Qnf (by simp[Xg6]) (fun i hi=>?_)
  have hin:i<X.length:=by simpa [Xg6] using hi
  have:=hc i hin
  simp[Xg6,List.getD,hin] at this|-
  simp[this]
 ·have:X= []:=List.length_eq_zero_iff.1 (by omega)
  subst this
  cases a<;>simp[Xg6]
def Qic(X:List Int)(p:Nat):List Int:=(X.take p).map Qci
theorem Qwh(X:List Int)(p:Nat)(h:p<X.length):Qic X (p+1)=Qic X p++ [Qci (X.getD p 0)]:=by
 unfold Qic
 rw[Qbo X p h,List.map_append]
 rfl
theorem Qqe(X:List Int)(p:Nat)(h:p<=X.length):(Qic X p).length=p:=by simp[Qic];omega
theorem Xas(X:List Int):Qic X X.length=X.map Qci:=by simp[Qic]
theorem Xfs(a:Option Addr)(cap:Nat)(cs:List Int)(w:World)(hr:Ri w .i64 a cap cs)(hc:Qne cs=true)(h60:cs.length<=512):
 Calls Tryz.prog 72 #[.slice a cs.length cap] w fun e w'=>∃k a2 c2,e= .returned (.tuple #[.slice a2 cs.length c2,.int .i64 0])∧(∀j,j<k->(Qae (Qai cs j)).any Qbn=true)∧(Qae (Qai cs k)).any Qbn=false∧Ri w' .i64 a2 c2 (Qae (Qai cs k))∧Below w.heap.size w w':=by
 have hcr:=Qdt hc
 obtain⟨i0,hi,hz0,hz1,hz2⟩:=info_parts Tryz.info3'
 have HA:=hid (Qso a cap cs w hr)
 rw[hc] at HA
 have HFL:Hid (∀k,(Qai cs k).length=cs.length):=fun k=>Qak cs k
 have HDL:Hid (∀k,(Qae (Qai cs k)).length=cs.length):=fun k=>by rw[Qdd,Qak]
 have HD:Hid (∀(k:Nat) (W:World) (a1:Option Addr) (c1:Nat),Ri W .i64 a1 c1 (Qai cs k)->Calls Tryz.prog 110 #[.slice a1 cs.length c1] W fun e w'=>∃a2 c2,e= .returned (.slice a2 cs.length c2)∧Ri w' .i64 a2 c2 (Qae (Qai cs k))∧Below W.heap.size W w'):=by
  intro k W a1 c1 hr1
  have h:=Qww a1 c1 (Qai cs k) W hr1 (by rw[Qak];omega) (Qbh hcr.2 k)
  rw[Xk9 _ (Qbh hcr.2 k),Qak] at h
  refine h.mono ?_
  rintro _ w' ⟨v,rfl,ho,hb⟩
  rw[<-HDL.out k] at ho
  obtain⟨a2,c2,rfl,hr2⟩:=Ri.own ho (fun j=>by have:=Qtd (Qai cs k) (by rw[Qak];omega) (Qbh hcr.2 k) j;exact Qbz (by omega) (by omega))
  exact⟨a2,c2,by rw[HDL.out k],hr2,hb⟩
 have HX:Hid (∀(k:Nat) (W:World) (a2:Option Addr) (c2:Nat),Ri W .i64 a2 c2 (Qae (Qai cs k))->Calls Tryz.prog 111 #[.slice a2 cs.length c2] W fun e w'=>e= .returned (.bool ((Qae (Qai cs k)).any Qbn))∧w'=W):=fun k W a2 c2 h2=>by
  have h:=Xfi a2 c2 (Qae (Qai cs k)) W h2
  rwa[HDL.out k] at h
 have HRG:=hid (fun k=>Qbh hcr.2 k)
 have HLS:Hid (∀k,(Qae (Qai cs k)).any Qbn=true->(Qai cs (k+1)).sum.toNat<(Qai cs k).sum.toNat):=fun k=>Qof h60 hcr.2 k
 have HR:=hid hr
 clear hr hc hcr
 obtain⟨len,hl⟩:∃n,n=cs.length:=⟨_,rfl⟩
 rw[<-hl] at HA HD HX HDL HFL h60|-
 clear hl
 have HD0:=hid (HD.out 0 w a cap HR.out)
 go_enter Tryz.func72,Tryz.ntmps72
 go_wp2_with fail
 refine HA.out.mono ?_
 rintro _ w1 ⟨rfl,hw⟩
 obtain rfl:=hw.symm
 clear hw HA
 go_wp2_with fail
 refine HD0.out.mono ?_
 rintro _ w2 ⟨a2,c2,rfl,hr2,hb2⟩
 have HR2:=hid hr2
 have HB2:=hid hb2
 have HR0:=hid (HR.out.later hb2)
 clear hr2 hb2 HD0 HR
 go_wp2_with fail
 go_loopw [0,4] (fun x y wr=>∃(k:Nat) (a1:Option Addr) (c1:Nat) (a2:Option Addr) (c2:Nat),x= .slice a1 len c1∧y= .slice a2 len c2∧Hid (∀j,j<k->(Qae (Qai cs j)).any Qbn=true)∧Hid (Ri wr .i64 a1 c1 (Qai cs k))∧Hid (Ri wr .i64 a2 c2 (Qae (Qai cs k)))∧Hid (Below w.heap.size w wr)) (fun x _ wr=>(Xg6 wr x).sum.toNat)
 case atStart=>exact⟨0,a,cap,a2,c2,rfl,rfl,fun j hj=>by omega,HR0,HR2,HB2⟩
 case round=>
  clear HR0 HR2 HB2
  obtain⟨k,a1,c1,a3,c3,rfl,rfl,HK,HRK,HRD,HB⟩:=hrel
  have HXK:=hid (HX.out k wr a3 c3 HRD.out)
  have HM:Hid (Xg6 wr (.slice a1 len c1)=Qai cs k):=by
   have h:=Xao HRK.out
   rw[HFL.out k] at h
   exact h
  cases hdk:(Qae (Qai cs k)).any Qbn with
  | true=>
    rw[hdk] at HXK
    have HK2:Hid (∀j,j<k+1->(Qae (Qai cs j)).any Qbn=true):=fun j hj=>by
     by_cases e:j=k
     ·rw[e];exact hdk
     ·exact HK.out j (by omega)
    have HLT:=hid (HLS.out k hdk)
    clear hdk HK
    go_wp2_with fail
    refine HXK.out.mono ?_
    rintro _ w3 ⟨rfl,hw⟩
    obtain rfl:=hw
    clear HXK
    go_wp2_with fail
    go_loopw [5,6] (fun v y wq=>∃p:Nat,p<=len∧y= .int .i64 p∧Hid (wq.ownsRow w3.heap.size 3 1 v (Qic (Qai cs k) p).length ((Qic (Qai cs k) p).map (Value.int .i64)))∧Hid (Below w3.heap.size w3 wq)) (fun _ y _=>len-(intOf y).toNat)
    case atStart=>exact⟨0,by omega,rfl,World.ownsRow_nil _ _ _ _,Below.refl _ _⟩
    case round=>
     obtain⟨p,hp,rfl,HOW,HBQ⟩:=hrel
     have hsz:w3.heap.size<=wr.heap.size:=HBQ.out.size
     have HHL:Hid ((Qic (Qai cs k) p).length=p):=Qqe _ _ (by rw[HFL.out];exact hp)
     by_cases hlt:p<len
     ·have hkl:(p:Int)<(len:Int):=by omega
      have K1:Hid (p<(Qai cs k).length):=by show _<_;rw[HFL.out];exact hlt
      obtain⟨b,off,rfl,hbw,hcl⟩:=(HRK.out).cells (by rw[HFL.out];omega)
      have ck:wr.cell? ⟨b,off+p,none⟩=some (.int .i64 ((Qai cs k).getD p 0)):=(HBQ.out.cell (p:=⟨b,off+p,none⟩) hbw).trans (hcl p K1.out)
      clear hcl
      have hrg:=HRG.out k p
      have HN2:=hid (Qwh (Qai cs k) p K1.out)
      generalize (Qai cs k).getD p 0=c at *
      by_cases hc0:c=0
      ·subst hc0
       have ef:Qci 0=0:=rfl
       rw[ef] at HN2
       clear ef
       go_wp2_with (at_builtin;refine wpList_append_own _ rfl _ _ 112 rfl w3.heap.size 3 i0 (.int .i64 0) 1 8 Tryz.underlying112 hi hz0 hz1 hz2 rfl (by decide) _ _ _ rfl (HOW.out.alloc _) ⟨wr.heap.size,0,none⟩ 1 1 [.int .i64 0] rfl rfl ?c1 ?c2 ?c3 ?c4 ?c5 ?_)
       case c1=>
        intro j u hj
        match j,hj with
        | 0,hj=>simp at hj;subst hj;simp[Addr.add]
       case c2=>intro u hu;simp at hu;subst hu;rfl
       case c3=>unfold maxLen;have:=HHL.out;omega
       case c4=>have:=HHL.out;omega
       case c5=>simp;omega
       intro v1 w5 hown0 hgrow _
       have HB1:=hid ((HBQ.out.alloc hsz _).grown hgrow (by simp;omega) (fun j hj=>(HOW.out.lt j hj).1))
       have HO1:Hid (w5.ownsRow w3.heap.size 3 1 v1 (Qic (Qai cs k) (p+1)).length ((Qic (Qai cs k) (p+1)).map (Value.int .i64))):=by
        show World.ownsRow _ _ _ _ _ _ _
        rw[HN2.out];simpa using hown0
       clear hown0 hgrow ck HOW HBQ HN2
       go_wp2
       exact⟨⟨p+1,by omega,by go_num,HO1,HB1⟩,by simp[intOf];omega⟩
      ·obtain⟨cn,rfl⟩:∃cn:Nat,c=(cn:Int):=⟨c.toNat,by omega⟩
       obtain⟨q,hq⟩:∃q:Nat,(cn:Int)/2=(q:Int):=⟨cn/2,by omega⟩
       have ef:Qci (cn:Int)=(q:Int)+1:=by unfold Qci;rw[if_pos (by omega),hq]
       rw[ef] at HN2
       have hqb:q<=1073741824:=by omega
       have htd:(cn:Int).tdiv 2=(q:Int):=by rw[Int.tdiv_eq_ediv_of_nonneg (by omega)];exact hq
       have hcn:((cn:Int) != 0)=true:=by simp;omega
       clear hq ef hc0
       go_wp2_with (at_builtin;refine wpList_append_own _ rfl _ _ 112 rfl w3.heap.size 3 i0 (.int .i64 0) 1 8 Tryz.underlying112 hi hz0 hz1 hz2 rfl (by decide) _ _ _ rfl (HOW.out.alloc _) ⟨wr.heap.size,0,none⟩ 1 1 [.int .i64 ((q:Int)+1)] rfl rfl ?c1 ?c2 ?c3 ?c4 ?c5 ?_)
       case c1=>
        intro j u hj
        match j,hj with
        | 0,hj=>simp at hj;subst hj;simp[Addr.add]
       case c2=>intro u hu;simp at hu;subst hu;rfl
       case c3=>unfold maxLen;have:=HHL.out;omega
       case c4=>have:=HHL.out;omega
       case c5=>simp;omega
       intro v1 w5 hown0 hgrow _
       have HB1:=hid ((HBQ.out.alloc hsz _).grown hgrow (by simp;omega) (fun j hj=>(HOW.out.lt j hj).1))
       have HO1:Hid (w5.ownsRow w3.heap.size 3 1 v1 (Qic (Qai cs k) (p+1)).length ((Qic (Qai cs k) (p+1)).map (Value.int .i64))):=by
        show World.ownsRow _ _ _ _ _ _ _
        rw[HN2.out];simpa using hown0
       clear hown0 hgrow ck HOW HBQ HN2
       go_wp2
       exact⟨⟨p+1,by omega,by go_num,HO1,HB1⟩,by simp[intOf];omega⟩
     ·have hkl:¬(p:Int)<(len:Int):=by omega
      have HFK:Hid (Qic (Qai cs k) p=Qai cs (k+1)):=by
       show _=_
       rw[show p=(Qai cs k).length from by rw[HFL.out];omega,Xas];rfl
      have ho:=HOW.out
      rw[HFK.out] at ho
      obtain⟨a5,c5,e5,hr5⟩:=Ri.own ho (fun j=>by have:=HRG.out (k+1) j;exact Qbz (by omega) (by omega))
      rw[HFL.out] at e5
      subst e5
      have HR5:=hid hr5
      have HD5:=hid (HD.out (k+1) wr a5 c5 hr5)
      clear ho hr5 HOW HFK
      go_wp2_with fail
      refine HD5.out.mono ?_
      rintro _ w6 ⟨a6,c6,rfl,hr6,hb6⟩
      have HR6:=hid hr6
      have HR7:=hid (HR5.out.later hb6)
      have HB6:=hid (Bn HB.out (Bn HBQ.out hb6))
      have HM6:Hid (Xg6 w6 (.slice a5 len c5)=Qai cs (k+1)):=by
       have h:=Xao HR7.out
       rw[HFL.out] at h
       exact h
      clear hr6 hb6 HD5 HR5
      go_wp2
      exact⟨⟨k+1,a5,c5,a6,c6,rfl,rfl,HK2,HR7,HR6,HB6⟩,by rw[HM.out,HM6.out];exact HLT.out⟩
  | false=>
    rw[hdk] at HXK
    have HDK:=hid hdk
    clear hdk
    go_wp2_with fail
    refine HXK.out.mono ?_
    rintro _ w3 ⟨rfl,hw⟩
    obtain rfl:=hw.symm
    clear hw HXK
    go_wp2
    go_ret2
    exact⟨k,a3,c3,rfl,HK.out,HDK.out,HRD.out,HB.out⟩
end
/-
 What RefCodes lacks: the document's contracts.
-/
section
open Go.RowKit Hf
theorem Xbq(a:Option Addr)(cap:Nat)(zs:List Int)(w:World)(hr:Ri w .i64 a cap zs)(hc:Qal zs=true):
 Calls Tryz.prog 74 #[.slice a zs.length cap] w fun e w'=>∃v,e= .returned (.tuple #[v,.int .i64 0])∧w'.ownsRow w.heap.size 124 1 v (Qaj zs).length ((Qaj zs).map (Value.int .u16))∧Below w.heap.size w w':=by
 obtain⟨i0,hi,hz0,hz1,hz2⟩:=info_parts Tryz.info124
 have HT:=hid (Qr4 a cap zs w hr)
 have e2:Qb8 zs=0:=by unfold Qb8;rw[hc];rfl
 rw[e2] at HT
 have hok:Qhl zs=true:=by unfold Qal at hc;rw[Bool.and_eq_true] at hc;exact hc.1
 have hlen:=(Qb1 hok).1
 have HA:=hid (Qb1 hok).2
 have HR:=hid hr
 obtain⟨len,hl⟩:∃n,n=zs.length:=⟨_,rfl⟩
 have HL:=hid hl
 rw[<-hl] at hlen HT|-
 clear hr e2 hok hc hl
 go_enter Tryz.func74,Tryz.ntmps74
 go_wp2_with fail
 refine HT.out.mono ?_
 rintro _ w1 ⟨rfl,hw⟩
 obtain rfl:=hw.symm
 clear hw HT
 go_wp2_with (first
  | (at_make;refine wpList_make_full _ rfl _ _ 118 rfl w.heap.size 124 i0 (.int .u16 0) 1 Tryz.underlying118 hi hz0 hz1 .i64 .i64 _ _ len rfl rfl (by first | rfl | omega) (by first | rfl | omega) ?b2 ?b3 ?b4 ?_))
 case b2=>rw[hz2];omega
 case b3=>unfold maxLen;omega
 case b4=>exact Nat.le_refl _
 intro w1 hown0 hgrow
 have hb1:Below w.heap.size w w1:=(Below.refl _ _).grown hgrow (Nat.le_refl _) (fun k hk=>by cases hk)
 rw[toList_madeCells_one,show List.replicate len (Value.int .u16 0)=(pcL zs 1 0).map (Value.int .u16) from by rw[Qz4,HL.out];simp] at hown0
 have HO:=hid hown0
 clear hgrow hown0
 go_wp2
 go_loopw [6,7] (fun x y wr=>∃m:Nat,1<=m∧m<=16∧y= .int .i64 m∧x= .int .i64 ((first zs m:Nat):Int)∧wr.ownsRow w.heap.size 124 1 (.slice (some ⟨w.heap.size,0,none⟩) len len) len ((pcL zs m 0).map (Value.int .u16))∧Below w.heap.size w wr) (fun _ y _=>16-(intOf y).toNat)
 case atStart=>exact⟨1,by omega,by omega,rfl,rfl,HO.out,hb1⟩
 case round=>
  clear HO hb1
  obtain⟨m,hm1,hm2,rfl,rfl,hown,hbel⟩:=hrel
  by_cases hm:m<=15
  ·have hm':(m:Int)<=15:=by omega
   have hfs:=Qh2 zs m (by omega) (by rw[<-HL.out];omega)
   have HO:=hid hown
   have HB:=hid hbel
   clear hown hbel
   have hx:((first zs m:Nat):Int)=((first zs m+cnt (zs.take 0) m:Nat):Int):=by simp[cnt]
   go_wp2_with fail
   go_loopw [6,8] (fun x y wr=>∃i:Nat,i<=len∧y= .int .i64 i∧x= .int .i64 ((first zs m+cnt (zs.take i) m:Nat):Int)∧wr.ownsRow w.heap.size 124 1 (.slice (some ⟨w.heap.size,0,none⟩) len len) len ((pcL zs m i).map (Value.int .u16))∧Below w.heap.size w wr) (fun _ y _=>len-(intOf y).toNat)
   case atStart=>exact⟨0,by omega,rfl,by rw[hx],HO.out,HB.out⟩
   case round=>
    clear HO HB hx
    obtain⟨i,hi2,rfl,rfl,hown,hbel⟩:=hrel
    have hcn:=Ql0 (zs.take i) m
    have hcl2:(zs.take i).length<=len:=by rw[List.length_take];omega
    by_cases hlt:i<len
    ·have hil:(i:Int)<(len:Int):=by omega
     have HZ:Hid (i<zs.length):=by show _<_;rw[<-HL.out];exact hlt
     obtain⟨b,off,rfl,hbw,hc⟩:=(HR.out).cells (by rw[<-HL.out];omega)
     have ck:wr.cell? ⟨b,off+i,none⟩=some (.int .i64 (zs.getD i 0)):=(hbel.cell (p:=⟨b,off+i,none⟩) hbw).trans (hc i HZ.out)
     clear hc
     have HC:=hid (Qhi (zs.take i) (zs.getD i 0) m)
     rw[<-Qbo zs i HZ.out] at HC
     by_cases hz:zs.getD i 0=(m:Int)
     ·have hcell:∃u,wr.cell? ⟨w.heap.size,i,none⟩=some u:=by
       rw[hown.cellAt i (by omega)]
       exact⟨_,List.getElem?_eq_getElem (by rw[List.length_map,Qds,<-HL.out];exact hlt)⟩
      obtain⟨u,hu⟩:=hcell
      have hfz:=hown.frozenAt i
      have hst:=hown.stored i (.int .u16 (codeF zs i))
      rw[<-List.map_set,Xil zs m i HZ.out hz] at hst
      have hnb:=hbel.grown hst.2 hbel.size (fun j hj=>by injection hj with hj;omega)
      have hcv:codeF zs i=(((first zs m+cnt (zs.take i) m)%65536:Nat):Int):=by
       unfold codeF Qbt;rw[hz,if_pos (by omega)];rfl
      rw[hcv] at hst hnb
      have HS:=hid hst.1
      have HB:=hid hnb
      rw[if_pos ⟨by omega,hz⟩] at HC
      rw[hz] at ck
      clear hst hnb hown hcv hbel hz
      generalize first zs m=f at *
      generalize cnt (zs.take i) m=c at *
      have HV:Hid (IntKind.u16.wrap ((f:Int)+(c:Int))=(((f+c)%65536:Nat):Int)):=by show _=_;rw[IntKind.wrap_u16];omega
      have hbb:((m:Int)==(m:Int))=true:=by simp
      go_wp2
      rw[HV.out]
      exact⟨⟨i+1,by omega,by go_num,by rw[HC.out];simp;omega,HS.out,HB.out⟩,by simp[intOf];omega⟩
     ·rw[if_neg (by omega)] at HC
      have HO:Hid (wr.ownsRow w.heap.size 124 1 (.slice (some ⟨w.heap.size,0,none⟩) len len) len ((pcL zs m (i+1)).map (Value.int .u16))):=by
       show World.ownsRow _ _ _ _ _ _ _
       rw[Xgk zs m i hz];exact hown
      have HB:=hid hbel
      clear hown hbel
      generalize first zs m=f at *
      generalize cnt (zs.take i) m=c at *
      generalize zs.getD i 0=z at *
      have hbb:(z==(m:Int))=false:=by simp[hz]
      go_wp2
      exact⟨⟨i+1,by omega,by go_num,by rw[HC.out];simp,HO.out,HB.out⟩,by simp[intOf];omega⟩
    ·obtain rfl:i=len:=by omega
     have HO:Hid (wr.ownsRow w.heap.size 124 1 (.slice (some ⟨w.heap.size,0,none⟩) i i) i ((pcL zs (m+1) 0).map (Value.int .u16))):=by
      show World.ownsRow _ _ _ _ _ _ _
      rw[<-Xeb zs m (by omega),<-HL.out];exact hown
     have HF:Hid (first zs (m+1)=(first zs m+cnt (zs.take i) m)*2):=by
      show _=_
      rw[show zs.take i=zs from by rw[HL.out];exact List.take_length];rfl
     have HB:=hid hbel
     clear hown hbel
     generalize first zs m=f at *
     generalize cnt (zs.take i) m=c at *
     go_wp2
     exact⟨⟨m+1,by omega,by omega,by go_num,by rw[HF.out];simp,HO.out,HB.out⟩,by simp[intOf];omega⟩
  ·obtain rfl:m=16:=by omega
   rw[Xds zs HA.out] at hown
   have HCL:Hid ((Qaj zs).length=len):=by show _=_;rw[Qaq,HL.out]
   go_wp2
   go_ret2
   exact⟨_,rfl,by rw[HCL.out];exact hown,hbel⟩
end
/-
 What RefPack lacks: the document's contracts.
-/
section
open Go.RowKit Hf
theorem Qoz(c n:Nat)(w:World)(hc:c<65536)(hn:n<=1000):
 Calls Tryz.prog 76 #[.int .u16 (c:Int),.int .i64 (n:Int)] w fun e w'=>∃v,e= .returned v∧w'.ownsRow w.heap.size 4 1 v (Qct c n).length ((Qct c n).map Value.bool)∧Below w.heap.size w w':=by
 obtain⟨i0,hi,hz0,hz1,hz2⟩:=info_parts Tryz.info4
 go_enter Tryz.func76,Tryz.ntmps76
 go_wp2_with (at_make;refine wpList_make_full _ rfl _ _ 121 rfl w.heap.size 4 i0 (.bool false) 1 Tryz.underlying121 hi hz0 hz1 .i64 .i64 _ _ n rfl rfl (by first | rfl | omega) (by first | rfl | omega) ?b2 ?b3 ?b4 ?_)
 case b2=>rw[hz2];omega
 case b3=>unfold maxLen;omega
 case b4=>exact Nat.le_refl _
 intro w1 hown0 hgrow
 have hb1:Below w.heap.size w w1:=(Below.refl _ _).grown hgrow (Nat.le_refl _) (fun k hk=>by cases hk)
 rw[toList_madeCells_one,show List.replicate n (Value.bool false)=(Qjt c n 0).map Value.bool from by rw[Qxc];simp] at hown0
 have HO:=hid hown0
 clear hgrow hown0
 go_wp2
 go_loopw [0,6] (fun x y wr=>∃j:Nat,j<=n∧y= .int .i64 ((n:Int)-1-(j:Int))∧x= .int .u16 ((c/2^j:Nat):Int)∧wr.ownsRow w.heap.size 4 1 (.slice (some ⟨w.heap.size,0,none⟩) n n) n ((Qjt c n j).map Value.bool)∧Below w.heap.size w wr) (fun _ y _=>(intOf y+1).toNat)
 case atStart=>exact⟨0,by omega,by simp,by simp,HO.out,hb1⟩
 case round=>
  clear HO hb1
  obtain⟨j,hj,rfl,rfl,hown,hbel⟩:=hrel
  by_cases hlt:j<n
  ·obtain⟨i,hij⟩:∃i:Nat,(n:Int)-1-(j:Int)=(i:Int):=⟨n-1-j,by omega⟩
   have HI:Hid (i=n-1-j):=by show _=_;omega
   have hin:i<n:=by omega
   have hin':(i:Int)<(n:Int):=by omega
   have hcell:∃u,wr.cell? ⟨w.heap.size,i,none⟩=some u:=by
    rw[hown.cellAt i (by omega)]
    exact⟨_,List.getElem?_eq_getElem (by rw[List.length_map,Qd6];exact hin)⟩
   obtain⟨u,hu⟩:=hcell
   have hfz:=hown.frozenAt i
   have hst:=hown.stored i (.bool (c/2^j%2==1))
   rw[<-List.map_set,HI.out,Xbj c n j hlt,<-HI.out] at hst
   have hnb:=hbel.grown hst.2 hbel.size (fun j hj=>by injection hj with hj;omega)
   have HS:=hid hst.1
   have HB:=hid hnb
   have hle:c/2^j<=c:=Nat.div_le_self _ _
   have HD:Hid (c/2^(j+1)=c/2^j/2):=by show _=_;rw[Nat.pow_succ,<-Nat.div_div_eq_div_mul]
   have HQ:Hid (Value.int .i64 ((i:Int)-1)=Value.int .i64 ((n:Int)-1-((j+1:Nat):Int))):=by
    show _=_
    congr 1
    omega
   rw[hij]
   clear hst hnb hown hbel hij
   generalize c/2^j=d at *
   have HV:Hid (((d:Int)%2==1)=(d%2==1)):=by show _=_;rw[Bool.eq_iff_iff,beq_iff_eq,beq_iff_eq];omega
   have hi0:(0:Int)<=(i:Int):=by omega
   go_wp2
   rw[HV.out]
   exact⟨⟨j+1,by omega,HQ.out,by rw[HD.out];simp,HS.out,HB.out⟩,by simp[intOf]⟩
  ·obtain rfl:j=n:=by omega
   rw[Qxq] at hown
   have hneg:¬(0:Int)<=(j:Int)-1-(j:Int):=by omega
   generalize (j:Int)-1-(j:Int)=z at *
   generalize c/2^j=d at *
   go_wp2
   go_ret
   exact⟨_,rfl,by rw[Qbi];exact hown,hbel⟩
theorem Xfp(a:Option Addr)(cap:Nat)(bs:List Bool)(w:World)(hr:Rb w a cap bs)(hn:bs.length<=1000000):
 Calls Tryz.prog 78 #[.slice a bs.length cap] w fun e w'=>∃v,e= .returned v∧w'.ownsRow w.heap.size 5 1 v (Qbw (nB bs bs.length) bs.length).length ((Qbw (nB bs bs.length) bs.length).map (Value.int .u8))∧Below w.heap.size w w':=by
 obtain⟨i0,hi,hz0,hz1,hz2⟩:=info_parts Tryz.info5
 have HR:=hid hr
 obtain⟨len,hl⟩:∃n,n=bs.length:=⟨_,rfl⟩
 have HL:=hid hl
 rw[<-hl] at hn|-
 clear hr hl
 go_enter Tryz.func78,Tryz.ntmps78
 go_wp2
 go_loopw [3,4] (fun v y wr=>∃k:Nat,k<=len∧y= .int .i64 k∧wr.ownsRow w.heap.size 5 1 v (Qbw (nB bs k) k).length ((Qbw (nB bs k) k).map (Value.int .u8))∧Below w.heap.size w wr) (fun _ y _=>len-(intOf y).toNat)
 case atStart=>exact⟨0,by omega,rfl,World.ownsRow_nil _ _ _ _,Below.refl _ _⟩
 case round=>
  obtain⟨k,hk,rfl,hown,hbel⟩:=hrel
  by_cases hlt:k<len
  ·have hkl:(k:Int)<(len:Int):=by omega
   have K1:Hid (k<bs.length):=by show _<_;rw[<-HL.out];exact hlt
   obtain⟨b,off,rfl,hbw,hc⟩:=(HR.out).cells (by rw[<-HL.out];omega)
   have hck:=hc k K1.out
   clear hc
   have HNB:=hid (show nB bs (k+1)=nB bs k*2+(if bs.getD k false then 1 else 0) from rfl)
   generalize bs.getD k false=x at *
   generalize nB bs k=N at *
   by_cases h8:k%8=0
   ·have h8i:(k:Int)%8=0:=by omega
    have h8b:((k:Int)%8==0)=true:=by simp;omega
    have hnl:(Qbw N k).length<=1000000:=by rw[Qbr];omega
    go_wp2_with (at_builtin;refine wpList_append_own _ rfl _ _ 22 rfl w.heap.size 5 i0 (.int .u8 0) 1 1 Tryz.underlying22 hi hz0 hz1 hz2 rfl (by decide) _ _ _ rfl (hown.alloc _) ⟨wr.heap.size,0,none⟩ 1 1 [.int .u8 0] rfl rfl ?c1 ?c2 ?c3 ?c4 ?c5 ?_)
    case c1=>
     intro j u hj
     match j,hj with
     | 0,hj=>simp at hj;subst hj;simp[Addr.add]
    case c2=>intro u hu;simp at hu;subst hu;rfl
    case c3=>unfold maxLen;omega
    case c4=>omega
    case c5=>have:=hbel.size;simp;omega
    intro v1 w1 hown0 hgrow _
    have hB1:Below w.heap.size w w1:=(hbel.alloc hbel.size _).grown hgrow (by have:=hbel.size;simp;omega) (fun j hj=>(hown.lt j hj).1)
    have hown1:w1.ownsRow w.heap.size 5 1 v1 (Qbw (N*2) (k+1)).length ((Qbw (N*2) (k+1)).map (Value.int .u8)):=by
     rw[Qo3 N k h8];simpa using hown0
    have HB1:=hid hB1
    have ck1:w1.cell? ⟨b,off+k,none⟩=some (.bool x):=(hB1.cell (p:=⟨b,off+k,none⟩) hbw).trans hck
    clear hown hbel hown0 hgrow hB1 hnl hck
    cases x with
    | false=>
      have HX:Hid (nB bs (k+1)=N*2):=by show _=_;rw[HNB.out];simp
      have HO1:=hid hown1
      clear hown1
      go_wp2
      exact⟨⟨k+1,by omega,by go_num,by rw[HX.out];exact HO1.out,HB1.out⟩,by simp[intOf];omega⟩
    | true=>
      have HX:Hid (nB bs (k+1)=N*2+1):=by show _=_;rw[HNB.out];simp
      have hpl:(Qbw (N*2) (k+1)).length=k/8+1:=by rw[Qbr];omega
      obtain⟨g,cp,rfl,hgw,hgc⟩:=Qhb hown1 (by omega)
      rw[hpl] at hown1 hgc
      have cc:=hown1.cellAt (k/8) (by omega)
      rw[List.getElem?_map] at cc
      have cc2:(Qbw (N*2) (k+1))[k/8]?=some ((Qbw (N*2) (k+1)).getD (k/8) 0):=by
       simp[List.getD,List.getElem?_eq_getElem (show k/8<(Qbw (N*2) (k+1)).length from by omega)]
      rw[cc2] at cc
      have ff:=hown1.frozenAt (k/8)
      have hst:=hown1.stored (k/8) (.int .u8 ((Qbw (N*2) (k+1)).getD (k/8) 0+((2^(7-k%8):Nat):Int)))
      rw[<-List.map_set,<-Qkr] at hst
      have hnb:=HB1.out.grown hst.2 HB1.out.size (fun j hj=>by injection hj with hj;omega)
      have hrg:=Qgz (N*2) (k+1) (k/8)
      have hrg2:=Qgz (N*2+1) (k+1) (k/8)
      have hsum:(Qbw (N*2) (k+1)).getD (k/8) 0+((2^(7-k%8):Nat):Int)<=255:=by
       rw[Qkr,Ql6 _ _ _ _ (by omega),if_pos rfl] at hrg2
       exact hrg2.2
      have hpl2:(Qbw (N*2+1) (k+1)).length=k/8+1:=by rw[Qbr];omega
      have HS:=hid hst.1
      have HPL:=hid hpl2
      have HB2:=hid hnb
      rw[hpl]
      clear hst hnb hown1 hpl hpl2 cc2 hrg2
      generalize (Qbw (N*2) (k+1)).getD (k/8) 0=y at *
      obtain⟨q,hq⟩:∃q,q=k/8:=⟨_,rfl⟩
      have hqi:((k:Int)/8)=(q:Int):=by omega
      rw[<-hq] at cc ff HS HB2 HPL
      rw[<-hq] at hgc
      rw[<-hq]
      clear hq
      have h7:2^(7-k%8)<=128:=Xga (k%8) (by omega)
      go_wp2_with fail
      go_loopw [5,6] (fun p i W=>W=w1∧∃m:Nat,m<=k%8∧i= .int .i64 m∧p= .int .u8 ((2^(7-m):Nat):Int)) (fun _ i _=>k%8-(intOf i).toNat)
      case atStart=>exact⟨rfl,0,by omega,rfl,rfl⟩
      case round=>
       obtain⟨rfl,m,hm,rfl,rfl⟩:=hrel
       by_cases hm2:m<k%8
       ·have hm3:(m:Int)<(k:Int)%8:=by omega
        have HP:Hid (2^(7-(m+1))=2^(7-m)/2):=by
         show _=_
         rw[show 7-m=(7-(m+1))+1 from by omega,Nat.pow_succ];omega
        have hp7:=Xga m (by omega)
        generalize 2^(7-m)=pp at *
        go_wp2
        all_goals first | exact⟨⟨trivial,m+1,by omega,by go_num,by rw[HP.out];simp⟩,by simp[intOf];omega⟩ | exact⟨⟨rfl,m+1,by omega,by go_num,by rw[HP.out];simp⟩,by simp[intOf];omega⟩ | exact⟨⟨m+1,by omega,by go_num,by rw[HP.out];simp⟩,by simp[intOf];omega⟩
       ·obtain rfl:m=k%8:=by omega
        have hm3:¬((k%8:Nat):Int)<(k:Int)%8:=by omega
        generalize ((k%8:Nat):Int)=mm at *
        generalize 2^(7-k%8)=pp at *
        have hq2:(q:Int)<(q:Int)+1:=by omega
        go_wp2
        exact⟨⟨k+1,by omega,by go_num,by rw[HX.out,HPL.out];exact HS.out,HB2.out⟩,by simp[intOf];omega⟩
   ·have h8i:¬(k:Int)%8=0:=by omega
    have h8b:((k:Int)%8==0)=false:=by simp;omega
    have hown1:wr.ownsRow w.heap.size 5 1 u3 (Qbw (N*2) (k+1)).length ((Qbw (N*2) (k+1)).map (Value.int .u8)):=by
     rw[Qpk N k h8];exact hown
    have HB1:=hid hbel
    have ck1:wr.cell? ⟨b,off+k,none⟩=some (.bool x):=(hbel.cell (p:=⟨b,off+k,none⟩) hbw).trans hck
    clear hown hbel hck
    cases x with
    | false=>
      have HX:Hid (nB bs (k+1)=N*2):=by show _=_;rw[HNB.out];simp
      have HO1:=hid hown1
      clear hown1
      go_wp2
      exact⟨⟨k+1,by omega,by go_num,by rw[HX.out];exact HO1.out,HB1.out⟩,by simp[intOf];omega⟩
    | true=>
      have HX:Hid (nB bs (k+1)=N*2+1):=by show _=_;rw[HNB.out];simp
      have hpl:(Qbw (N*2) (k+1)).length=k/8+1:=by rw[Qbr];omega
      obtain⟨g,cp,rfl,hgw,hgc⟩:=Qhb hown1 (by omega)
      rw[hpl] at hown1 hgc
      have cc:=hown1.cellAt (k/8) (by omega)
      rw[List.getElem?_map] at cc
      have cc2:(Qbw (N*2) (k+1))[k/8]?=some ((Qbw (N*2) (k+1)).getD (k/8) 0):=by
       simp[List.getD,List.getElem?_eq_getElem (show k/8<(Qbw (N*2) (k+1)).length from by omega)]
      rw[cc2] at cc
      have ff:=hown1.frozenAt (k/8)
      have hst:=hown1.stored (k/8) (.int .u8 ((Qbw (N*2) (k+1)).getD (k/8) 0+((2^(7-k%8):Nat):Int)))
      rw[<-List.map_set,<-Qkr] at hst
      have hnb:=HB1.out.grown hst.2 HB1.out.size (fun j hj=>by injection hj with hj;omega)
      have hrg:=Qgz (N*2) (k+1) (k/8)
      have hrg2:=Qgz (N*2+1) (k+1) (k/8)
      have hsum:(Qbw (N*2) (k+1)).getD (k/8) 0+((2^(7-k%8):Nat):Int)<=255:=by
       rw[Qkr,Ql6 _ _ _ _ (by omega),if_pos rfl] at hrg2
       exact hrg2.2
      have hpl2:(Qbw (N*2+1) (k+1)).length=k/8+1:=by rw[Qbr];omega
      have HS:=hid hst.1
      have HPL:=hid hpl2
      have HB2:=hid hnb
      rw[hpl]
      clear hst hnb hown1 hpl hpl2 cc2 hrg2
      generalize (Qbw (N*2) (k+1)).getD (k/8) 0=y at *
      obtain⟨q,hq⟩:∃q,q=k/8:=⟨_,rfl⟩
      have hqi:((k:Int)/8)=(q:Int):=by omega
      rw[<-hq] at cc ff HS HB2 HPL
      rw[<-hq] at hgc
      rw[<-hq]
      clear hq
      have h7:2^(7-k%8)<=128:=Xga (k%8) (by omega)
      go_wp2_with fail
      go_loopw [5,6] (fun p i W=>W=wr∧∃m:Nat,m<=k%8∧i= .int .i64 m∧p= .int .u8 ((2^(7-m):Nat):Int)) (fun _ i _=>k%8-(intOf i).toNat)
      case atStart=>exact⟨rfl,0,by omega,rfl,rfl⟩
      case round=>
       obtain⟨rfl,m,hm,rfl,rfl⟩:=hrel
       by_cases hm2:m<k%8
       ·have hm3:(m:Int)<(k:Int)%8:=by omega
        have HP:Hid (2^(7-(m+1))=2^(7-m)/2):=by
         show _=_
         rw[show 7-m=(7-(m+1))+1 from by omega,Nat.pow_succ];omega
        have hp7:=Xga m (by omega)
        generalize 2^(7-m)=pp at *
        go_wp2
        all_goals first | exact⟨⟨trivial,m+1,by omega,by go_num,by rw[HP.out];simp⟩,by simp[intOf];omega⟩ | exact⟨⟨rfl,m+1,by omega,by go_num,by rw[HP.out];simp⟩,by simp[intOf];omega⟩ | exact⟨⟨m+1,by omega,by go_num,by rw[HP.out];simp⟩,by simp[intOf];omega⟩
       ·obtain rfl:m=k%8:=by omega
        have hm3:¬((k%8:Nat):Int)<(k:Int)%8:=by omega
        generalize ((k%8:Nat):Int)=mm at *
        generalize 2^(7-k%8)=pp at *
        have hq2:(q:Int)<(q:Int)+1:=by omega
        go_wp2
        exact⟨⟨k+1,by omega,by go_num,by rw[HX.out,HPL.out];exact HS.out,HB2.out⟩,by simp[intOf];omega⟩
  ·obtain rfl:k=len:=by omega
   go_wp2
   go_ret
   exact⟨_,rfl,hown,hbel⟩
end
/-
 What Com lacks: the document's contracts.
-/
section
open Go.RowKit Lz
end
/-
 What RefLong lacks: the document's contracts.
-/
section
open Go.RowKit Lz
end
/-
 What RefTok lacks: the document's contracts.
-/
section
open Go.RowKit Go.Shelf Lz Go.ChangeShapes Go.WideShapes
end
/-
 What ChkR lacks: the document's contracts.
-/
section
open Go.RowKit Lz
theorem Qnr(t:Tkz)(w:World):Calls Tryz.prog 87 #[.agg (zC t)] w fun e w'=>e= .returned (.int .i64 (Qdw t))∧Below w.heap.size w w':=by
 obtain⟨d,n,x⟩:=t
 have HE:=hid (Xk6 d n x)
 unfold zC
 dsimp only
 by_cases hd0:d=0
 ·have b1:(d==0)=true:=by simpa using hd0
  have c1:¬1<=d:=by omega
  by_cases hn1:n=1
  ·have b2:(n==1)=true:=by simpa using hn1
   have HC:Hid (Qdw (d,n,x)=0):=by show _=_;rw[HE.out,if_pos (.inl ⟨hd0,hn1⟩)]
   clear HE hd0 hn1
   go_enter Tryz.func87,Tryz.ntmps87
   go_wp2
   go_ret
   exact⟨by rw[HC.out];rfl,Qag _ _⟩
  ·have b2:(n==1)=false:=by simpa using hn1
   have HC:Hid (Qdw (d,n,x)=60):=by show _=_;rw[HE.out,if_neg (by omega)]
   clear HE hd0 hn1
   go_enter Tryz.func87,Tryz.ntmps87
   go_wp2
   go_ret
   exact⟨by rw[HC.out];rfl,Qag _ _⟩
 ·have b1:(d==0)=false:=by simpa using hd0
  by_cases h1:1<=d
  ·by_cases h2:d<=4096
   ·by_cases h3:4<=n
    ·by_cases h4:n<=258
     ·by_cases h5:x=0
      ·have b5:(x==0)=true:=by simpa using h5
       have HC:Hid (Qdw (d,n,x)=0):=by show _=_;rw[HE.out,if_pos (.inr ⟨h1,h2,h3,h4,h5⟩)]
       clear HE hd0 h5
       go_enter Tryz.func87,Tryz.ntmps87
       go_wp2
       go_ret
       exact⟨by rw[HC.out];rfl,Qag _ _⟩
      ·have b5:(x==0)=false:=by simpa using h5
       have HC:Hid (Qdw (d,n,x)=60):=by show _=_;rw[HE.out,if_neg (by omega)]
       clear HE hd0 h5
       go_enter Tryz.func87,Tryz.ntmps87
       go_wp2
       go_ret
       exact⟨by rw[HC.out];rfl,Qag _ _⟩
     ·skip
      have HC:Hid (Qdw (d,n,x)=60):=by show _=_;rw[HE.out,if_neg (by omega)]
      clear HE hd0
      go_enter Tryz.func87,Tryz.ntmps87
      go_wp2
      go_ret
      exact⟨by rw[HC.out];rfl,Qag _ _⟩
    ·skip
     have HC:Hid (Qdw (d,n,x)=60):=by show _=_;rw[HE.out,if_neg (by omega)]
     clear HE hd0
     go_enter Tryz.func87,Tryz.ntmps87
     go_wp2
     go_ret
     exact⟨by rw[HC.out];rfl,Qag _ _⟩
   ·skip
    have HC:Hid (Qdw (d,n,x)=60):=by show _=_;rw[HE.out,if_neg (by omega)]
    clear HE hd0
    go_enter Tryz.func87,Tryz.ntmps87
    go_wp2
    go_ret
    exact⟨by rw[HC.out];rfl,Qag _ _⟩
  ·skip
   have HC:Hid (Qdw (d,n,x)=60):=by show _=_;rw[HE.out,if_neg (by omega)]
   clear HE hd0
   go_enter Tryz.func87,Tryz.ntmps87
   go_wp2
   go_ret
   exact⟨by rw[HC.out];rfl,Qag _ _⟩
end
/-
 What SizeR lacks: the document's contracts.
-/
section
open Go.RowKit Lz
theorem Qvd(a:Option Addr)(cap:Nat)(l:List Tkz)(w:World)(hr:Rt w a cap l)(hn:l.length<=65536):
 Calls Tryz.prog 70 #[.slice a l.length cap] w fun e w'=>e= .returned (.tuple #[.int .i64 (Qbs l).1,.int .i64 (Qbs l).2])∧Below w.heap.size w w':=by
 have hroom:=hr.room
 have hmost:=hr.most
 unfold maxLen at hmost
 have HR:=hid hr
 obtain⟨len,hle⟩:∃n,n=l.length:=⟨_,rfl⟩
 have HL:=hid hle
 rw[<-hle] at hn hroom|-
 clear hr hle
 go_enter Tryz.func70,Tryz.ntmps70
 go_wp2
 go_loopw [4] (fun x4 wr=>∃k:Nat,k<=len∧x4= .int .i64 (k:Int)∧Below w.heap.size w wr∧Hid (∀j,j<k->Qdw (l.getD j tk0)=0)) (fun x4 _=>len-(intOf x4).toNat)
 case atStart=>exact⟨0,by omega,rfl,Below.refl _ _,fun j hj=>absurd hj (by omega)⟩
 case round=>
  obtain⟨k,hk,rfl,hbel,HA⟩:=hrel
  by_cases hlt:k<len
  ·have hkz:(k:Int)<(len:Int):=by omega
   obtain⟨b,off,rfl,hbw,hc⟩:=HR.out.cells (by rw[<-HL.out];omega)
   obtain⟨c0,c1,c2⟩:=hc k (by rw[<-HL.out];exact hlt)
   have d0:=(hbel.cell (p:=⟨b,off+k*3,none⟩) hbw).trans c0
   have d1:=(hbel.cell (p:=⟨b,off+k*3+1,none⟩) hbw).trans c1
   have d2:=(hbel.cell (p:=⟨b,off+k*3+2,none⟩) hbw).trans c2
   have HCK:=hid (Qnr (l.getD k tk0) wr)
   have HNOT:=hid (fun h=>Qz8 (l:=l) (k:=k) (by rw[<-HL.out];exact hlt) h)
   have hor:=Qyj (l.getD k tk0)
   have HAK:Hid (Qdw (l.getD k tk0)=0->∀j,j<k+1->Qdw (l.getD j tk0)=0):=fun h j hj=>by
    by_cases e:j=k
    ·subst e;exact h
    ·exact HA.out j (by omega)
   clear hc c0 c1 c2
   generalize l.getD k tk0=t at *
   obtain⟨d,n,x⟩:=t
   unfold zC at HCK
   dsimp only at *
   have HBL:=hid hbel
   clear hbel
   go_wp2_with fail
   refine HCK.out.mono ?_
   rintro _ w2 ⟨rfl,hb2⟩
   have HB2:=hid (Bn HBL.out hb2)
   clear hb2 HCK HBL d0 d1 d2
   rcases hor with hor | hor
   ·have HAK2:=hid (HAK.out hor)
    rw[hor]
    clear hor HNOT
    go_wp2
    exact⟨⟨k+1,by omega,by go_num,HB2.out,HAK2⟩,by simp[intOf];omega⟩
   ·have HO:Hid (Qbs l=(0,60)):=by
     show _=_
     unfold Qbs
     rw[HNOT.out (by omega),if_neg (by simp)]
    rw[hor]
    clear hor HNOT
    go_wp2
    go_ret2
    exact⟨by rw[HO.out];rfl,HB2.out⟩
  ·obtain rfl:k=len:=by omega
   have hkz:¬(k:Int)<(k:Int):=by omega
   have HAL:Hid (Qsh l=true):=Xg7 (fun j hj=>HA.out j (by rw[HL.out];exact hj))
   have HO:Hid (Qbs l=if 65536<Qer l then (0,2) else (Qer l,0)):=by show _=_;unfold Qbs;rw[HAL.out,if_pos rfl]
   have HSB:Hid (∀j,0<=Qer (l.take j)∧Qer (l.take j)<=Qer l∧Qer (l.take j)<=258*65536):=fun j=>by
    have h1:=Qmq (l.take j) (fun t ht=>Qsv HAL.out t (List.mem_of_mem_take ht))
    have h2:=Qte l (Qsv HAL.out) j
    have h3:((l.take j).length:Int)<=65536:=by have:=HL.out;simp;omega
    omega
   have HLEN:Hid (∀j,j<l.length->1<=(l.getD j tk0).2.1∧(l.getD j tk0).2.1<=258):=fun j hj=>Qur (Qsv HAL.out _ (Qqj l j hj))
   clear HA HAL
   go_wp2_with fail
   go_loopw [5,6] (fun x5 x6 wi=>∃j:Nat,j<=k∧x6= .int .i64 (j:Int)∧x5= .int .i64 (Qer (l.take j))∧Below w.heap.size w wi) (fun _ x6 _=>k-(intOf x6).toNat)
   case atStart=>exact⟨0,by omega,rfl,rfl,hbel⟩
   case round=>
    clear hbel
    obtain⟨j,hj,rfl,rfl,hb⟩:=hrel
    obtain⟨s1,s2,s3⟩:=HSB.out j
    by_cases hjl:j<k
    ·have hjz:(j:Int)<(k:Int):=by omega
     by_cases hs:Qer (l.take j)<=65536
     ·obtain⟨b,off,rfl,hbw,hc⟩:=HR.out.cells (by rw[<-HL.out];omega)
      have d1:=(hb.cell (p:=⟨b,off+j*3+1,none⟩) hbw).trans (hc j (by rw[<-HL.out];exact hjl)).2.1
      have hl1:=HLEN.out j (by rw[<-HL.out];exact hjl)
      have HS:Hid (Qer (l.take (j+1))=Qer (l.take j)+(l.getD j tk0).2.1):=by
       show _=_
       rw[Qsi l j (by rw[<-HL.out];exact hjl),Qh3]
       simp[Qer]
      clear hc
      obtain⟨hl1,hl2⟩:=hl1
      generalize Qer (l.take j)=s at *
      generalize (l.getD j tk0).2.1=n at *
      go_wp2
      exact⟨⟨j+1,by omega,by go_num,by rw[HS.out],hb⟩,by simp[intOf];omega⟩
     ·have HO2:Hid (Qbs l=(0,2)):=by show _=_;rw[HO.out,if_pos (by omega)]
      have hs2:65536<Qer (l.take j):=by omega
      generalize Qer (l.take j)=s at *
      go_wp2
      go_ret2
      exact⟨by rw[HO2.out];rfl,hb⟩
    ·obtain rfl:j=k:=by omega
     have hjz:¬(j:Int)<(j:Int):=by omega
     have HT:Hid (l.take j=l):=List.take_of_length_le (by rw[<-HL.out];omega)
     rw[HT.out] at s1 s2 s3|-
     generalize Qer l=s at *
     by_cases hs:65536<s
     ·rw[if_pos hs] at HO
      go_wp2
      go_ret2
      exact⟨by rw[HO.out];rfl,hb⟩
     ·rw[if_neg hs] at HO
      go_wp2
      go_ret2
      exact⟨by rw[HO.out];rfl,hb⟩
end
/-
 The document's append of bits, and its Lengths by Qgu.
-/
section
open Go.RowKit Hf Lz
theorem Qt5(w:World){o:Oper}{ac:Act}{K:Act->World->Prop}{Q:Exit->Act->World->Prop}(s x:Operand)
 (ho:o.op= .call {callee:= .builtin .append,args:= #[s,x],argTypes:= #[121,121]}) (B:Nat) (v:Value) (l:List Bool) (hs:ac.eval s=v) (hown:w.ownsRow B 4 1 v l.length (l.map Value.bool))
 (ad:Addr) (m cap:Nat) (bs:List Bool) (hm:bs.length=m) (hx:ac.eval x= .slice (some ad) m cap) (hc:∀j,j<m->w.cell? ⟨ad.block,ad.off+j,none⟩=some (.bool (bs.getD j false))) (had:ad.spot=none) (hbd:l.length+m<=1000000) (hB:B<=w.heap.size)
 (h:∀v' w',w'.ownsRow B 4 1 v' (l++bs).length ((l++bs).map Value.bool)->w.grownBy w' v.ownBlock->K (ac.put o.dst v') w'):o.wp Tryz.prog ac w K Q:=by
 obtain⟨i0,hi,hz0,hz1,hz2⟩:=info_parts Tryz.info4
 obtain⟨gb,go,sp⟩:=ad
 simp only at had hc
 subst had
 refine wp_append_own w s x 121 ho B 4 i0 (.bool false) 1 1 Tryz.underlying121 hi hz0 hz1 hz2 rfl (by decide) v l.length _ hs hown ⟨gb,go,none⟩ m cap (bs.map Value.bool) hx (by simp;omega) ?_ ?_ (by unfold maxLen;omega) (by omega) hB ?_
 ·intro j u hj
  have hjl:j<bs.length:=by
   have:=(List.getElem?_eq_some_iff.1 hj).1
   simpa using this
  rw[Go.WideShapes.add_plain,hc j (by omega),<-hj]
  simp[List.getD,List.getElem?_eq_getElem hjl]
 ·intro u hu
  rw[List.mem_map] at hu
  obtain⟨b,_,rfl⟩:=hu
  rfl
 ·intro v' w' h1 h2 _
  refine h v' w' ?_ h2
  rw[List.length_append,List.map_append,hm]
  exact h1
theorem Qtn(w:World){o:Oper}{ac:Act}{K:Act->World->Prop}{Q:Exit->Act->World->Prop}(s x:Operand)
 (ho:o.op= .call {callee:= .builtin .append,args:= #[s,x],argTypes:= #[121,121]}) (B:Nat) (v:Value) (l:List Bool) (hs:ac.eval s=v) (hown:w.ownsRow B 4 1 v l.length (l.map Value.bool))
 (B2:Nat) (vx:Value) (bs:List Bool) (hx:ac.eval x=vx) (hox:w.ownsRow B2 4 1 vx bs.length (bs.map Value.bool)) (hbd:l.length+bs.length<=1000000) (hB:B<=w.heap.size)
 (h:∀v' w',w'.ownsRow B 4 1 v' (l++bs).length ((l++bs).map Value.bool)->w.grownBy w' v.ownBlock->K (ac.put o.dst v') w'):o.wp Tryz.prog ac w K Q:=by
 obtain⟨i0,hi,hz0,hz1,hz2⟩:=info_parts Tryz.info4
 rcases id hox.2 with ⟨rfl,h0⟩ | ⟨g,cap,cur,rfl,_,_,_,_,_,_⟩
 ·have hb:bs= []:=List.eq_nil_of_length_eq_zero h0
  subst hb
  have hrun:=run_append_owned_none (P:=Tryz.prog) (w:=w) B 121 o.type 4 i0 1 Tryz.underlying121 hi v l.length _ hown
  unfold Oper.wp execOp
  simp only[ho,resolve,invoke,builtin,Sem.run_bind,Sem.run_pure,Result.andThen_ok,List.map_toArray,List.map_cons,List.map_nil,hs,hx,hrun]
  exact h v w (by rw[List.append_nil];exact hown) (World.grownBy.refl _ _)
 ·refine Qt5 w s x ho B v l hs hown ⟨g,0,none⟩ bs.length cap bs rfl hx (fun j hj=>?_) rfl hbd hB h
  rw[Nat.zero_add,hox.cellAt j (by omega),List.getElem?_map]
  simp[List.getD,List.getElem?_eq_getElem hj]
theorem Xg1(a:Option Addr)(cap:Nat)(cs:List Int)(n:Nat)(w:World)(hr:Ri w .i64 a cap cs)(hc:Qne cs=true)(hl:cs.length=n)(h5:n<=512):
 Calls Tryz.prog 72 #[.slice a n cap] w fun e w'=>∃a2 c2,e= .returned (.tuple #[.slice a2 n c2,.int .i64 0])∧Ri w' .i64 a2 c2 (Qgu cs)∧Below w.heap.size w w':=by
 subst hl
 refine(Xfs a cap cs w hr hc h5).mono ?_
 rintro e w' ⟨k,a2,c2,rfl,h1,h2,h3,h4⟩
 refine⟨a2,c2,rfl,?_,h4⟩
 rw[<-Qpb h5 (Qdt hc).2 h1 h2]
 exact h3
theorem Xhi(a:Option Addr)(cap:Nat)(zs:List Int)(n:Nat)(w:World)(hr:Ri w .i64 a cap zs)(hl:zs.length=n)(hn:n<=1000)(hz:∀j,0<=zs.getD j 0∧zs.getD j 0<=15):
 Calls Tryz.prog 73 #[.slice a n cap] w fun e w'=>∃v,e= .returned v∧w'.ownsRow w.heap.size 5 1 v (Qcu zs).length ((Qcu zs).map (Value.int .u8))∧Below w.heap.size w w':=by
 subst hl
 exact Qyp a cap zs w hr hn (fun j=>⟨(hz j).1,by have:=(hz j).2;omega⟩)
theorem Qux(a:Option Addr)(cap:Nat)(zs:List Int)(n:Nat)(w:World)(hr:Ri w .i64 a cap zs)(hc:Qal zs=true)(hl:zs.length=n):
 Calls Tryz.prog 74 #[.slice a n cap] w fun e w'=>∃a2 c2,e= .returned (.tuple #[.slice a2 n c2,.int .i64 0])∧Ri w' .u16 a2 c2 (Qaj zs)∧Below w.heap.size w w':=by
 subst hl
 refine(Xbq a cap zs w hr hc).mono ?_
 rintro e w' ⟨v,rfl,ho,hb⟩
 obtain⟨a2,c2,rfl,h2⟩:=Ri.own ho (fun j=>Qqf (Qc5 zs j).1 (Qc5 zs j).2)
 rw[Qaq]
 exact⟨a2,c2,rfl,h2,hb⟩
def Qsq(ls ds:List Int)(t:Tkz):List Bool:=
 Qct ((Qaj ls).getD (Qfa t).toNat 0).toNat (ls.getD (Qfa t).toNat 0).toNat++(if 0<t.1 then Qct ((Qaj ds).getD (Qet t.1).toNat 0).toNat (ds.getD (Qet t.1).toNat 0).toNat++Qct t.1.toNat (Qet t.1).toNat else [])
def Qhn(ls ds:List Int)(l:List Tkz):Nat->List Bool
 | 0=> []
 | k+1=>Qhn ls ds l k++Qsq ls ds (l.getD k tk0)
theorem Xc8(ls ds:List Int)(hl:∀j,ls.getD j 0<=15)(hd:∀j,ds.getD j 0<=15)(t:Tkz)(ht:t.1<=4096):(Qsq ls ds t).length<=42:=by
 unfold Qsq
 rw[List.length_append,Qbi]
 have h1:=hl (Qfa t).toNat
 have h2:=hd (Qet t.1).toNat
 split
 ·rename_i hp
  rw[List.length_append,Qbi,Qbi]
  have h3:=Qe7 (d:=t.1) (by omega) ht
  omega
 ·rw[List.length_nil];omega
theorem Qvk(ls ds:List Int)(hl:∀j,ls.getD j 0<=15)(hd:∀j,ds.getD j 0<=15)(l:List Tkz)(ht:∀j,j<l.length->(l.getD j tk0).1<=4096):∀k,k<=l.length->(Qhn ls ds l k).length<=42*k
 | 0,_=>by simp[Qhn]
 | k+1,hk=>by
   have h1:=Qvk ls ds hl hd l ht k (by omega)
   have h2:=Xc8 ls ds hl hd (l.getD k tk0) (ht k (by omega))
   rw[Qhn,List.length_append]
   omega
def Qfy(l:List Tkz):List Int:=Ql7 l++Qbw (nB (Qhn (lsF l) (dsF l) l l.length) (Qhn (lsF l) (dsF l) l l.length).length) (Qhn (lsF l) (dsF l) l l.length).length
end
end Go.Proofs.YtibjlbcnapoblaaGreatDoor
