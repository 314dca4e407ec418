/- Contracts and facts. -/
import Derived.Test.YtibjlbcnapoblaaGreatDoorPart34
namespace Go.Proofs.YtibjlbcnapoblaaGreatDoor
set_option maxRecDepth 100000
set_option maxHeartbeats 6400000
section
open Go.RowKit Hf
theorem Qti(a:Option Addr)(cap:Nat)(cs:List Int)(w:World)(hr:Ri w .i64 a cap cs):
 Calls Tryz.prog 109 #[.slice a cs.length cap] w fun e w'=>e= .returned (.bool (Qnw cs))∧w'=w:=by
 have HR:=hid hr
 have hmax:=hr.most
 have hroom:=hr.room
 unfold maxLen at hmax
 obtain⟨len,hl⟩:∃n,n=cs.length:=⟨_,rfl⟩
 have HL:=hid hl
 rw[<-hl] at hroom|-
 clear hr hl
 go_enter Tryz.func109,Tryz.ntmps109
 go_wp2
 go_loop [3] (fun i=>∃k:Nat,k<=len∧i= .int .i64 k∧Hid (∀j,j<k->¬(512<=j∨cs.getD j 0<0∨1073741824<cs.getD j 0))) (fun i=>len-(intOf i).toNat)
 case atStart=>exact⟨0,by omega,rfl,fun j hj=>absurd hj (by omega)⟩
 case round=>
  obtain⟨k,hk,rfl,HA⟩:=hrel
  by_cases hlt:k<len
  ·have hkl:(k:Int)<(len:Int):=by omega
   have HZ:Hid (k<cs.length):=by show _<_;rw[<-HL.out];exact hlt
   obtain⟨b,off,rfl,hbw,hc⟩:=(HR.out).cells (by rw[<-HL.out];omega)
   have ck:=hc k HZ.out
   clear hc
   by_cases h1:512<=k
   ·have h1':(512:Int)<=(k:Int):=by omega
    have E:=hid (Qu4 cs k HZ.out (Or.inl h1))
    go_wp2
    go_ret
    exact⟨by rw[E.out];rfl,rfl⟩
   ·have h1':¬(512:Int)<=(k:Int):=by omega
    have HB:=hid (fun h=>Qu4 cs k HZ.out (Or.inr h))
    have HA2:Hid (¬(cs.getD k 0<0∨1073741824<cs.getD k 0)->∀j,j<k+1->¬(512<=j∨cs.getD j 0<0∨1073741824<cs.getD j 0)):=fun hn j hj=>by
     by_cases e:j=k
     ·subst e;omega
     ·exact HA.out j (by omega)
    generalize cs.getD k 0=z at *
    by_cases h2:z<0
    ·have E:=hid (HB.out (Or.inl h2))
     go_wp2
     go_ret
     exact⟨by rw[E.out];rfl,rfl⟩
    ·by_cases h3:1073741824<z
     ·have E:=hid (HB.out (Or.inr h3))
      go_wp2
      go_ret
      exact⟨by rw[E.out];rfl,rfl⟩
     ·go_wp2
      exact⟨⟨k+1,by omega,by go_num,HA2.out (by omega)⟩,by simp[intOf];omega⟩
  ·obtain rfl:k=len:=by omega
   have E:=hid (Qq1 cs (fun j hj=>HA.out j (by rw[HL.out];exact hj)))
   go_wp2
   go_ret
   exact⟨by rw[E.out];rfl,rfl⟩
theorem Xgl(a:Option Addr)(cap:Nat)(cs:List Int)(w:World)(hr:Ri w .i64 a cap cs):
 Calls Tryz.prog 111 #[.slice a cs.length cap] w fun e w'=>e= .returned (.bool (cs.any Qbp))∧w'=w:=by
 have HR:=hid hr
 have hmax:=hr.most
 have hroom:=hr.room
 unfold maxLen at hmax
 obtain⟨len,hl⟩:∃n,n=cs.length:=⟨_,rfl⟩
 have HL:=hid hl
 rw[<-hl] at hroom|-
 clear hr hl
 go_enter Tryz.func111,Tryz.ntmps111
 go_wp2
 go_loop [3] (fun i=>∃k:Nat,k<=len∧i= .int .i64 k∧Hid (∀j,j<k->¬15<cs.getD j 0)) (fun i=>len-(intOf i).toNat)
 case atStart=>exact⟨0,by omega,rfl,fun j hj=>absurd hj (by omega)⟩
 case round=>
  obtain⟨k,hk,rfl,HA⟩:=hrel
  by_cases hlt:k<len
  ·have hkl:(k:Int)<(len:Int):=by omega
   have HZ:Hid (k<cs.length):=by show _<_;rw[<-HL.out];exact hlt
   obtain⟨b,off,rfl,hbw,hc⟩:=(HR.out).cells (by rw[<-HL.out];omega)
   have ck:=hc k HZ.out
   clear hc
   have HB:Hid (15<cs.getD k 0->cs.any Qbp=true):=fun h=>by
    rw[List.any_eq_true]
    exact⟨_,Hf.getD_in k HZ.out,by unfold Qbp;rw[decide_eq_true_eq];exact h⟩
   have HA2:Hid (¬15<cs.getD k 0->∀j,j<k+1->¬15<cs.getD j 0):=fun hn j hj=>by
    by_cases e:j=k
    ·subst e;exact hn
    ·exact HA.out j (by omega)
   generalize cs.getD k 0=z at *
   by_cases h2:15<z
   ·have E:=hid (HB.out h2)
    go_wp2
    go_ret
    exact⟨by rw[E.out];rfl,rfl⟩
   ·have HA3:=hid (HA2.out h2)
    go_wp2
    exact⟨⟨k+1,by omega,by go_num,HA3⟩,by simp[intOf];omega⟩
  ·obtain rfl:k=len:=by omega
   have E:Hid (cs.any Qbp=false):=by
    show _=_
    rw[List.any_eq_false]
    intro z hz
    obtain⟨p,hp,e⟩:=Qeg hz
    unfold Qbp
    rw[decide_eq_true_eq,<-e]
    exact HA.out p (by rw[HL.out];exact hp)
   go_wp2
   go_ret
   exact⟨by rw[E.out];rfl,rfl⟩
def Xgz(w:World):Value->List Int
 | .slice (some a) n _=>(List.range n).map (fun j=>match w.cell? ⟨a.block,a.off+j,none⟩ with | some (.int _ x)=>x | _=>0)
 | _=> []
theorem Xbt{w:World}{a:Option Addr}{c:Nat}{X:List Int}(h:Ri w .i64 a c X):Xgz w (.slice a X.length c)=X:=by
 by_cases h0:0<X.length
 ·obtain⟨b,off,rfl,_,hc⟩:=h.cells h0
  refine Qnl (by simp[Xgz]) (fun i hi=>?_)
  have hin:i<X.length:=by simpa [Xgz] using hi
  have:=hc i hin
  simp[Xgz,List.getD,hin] at this|-
  simp[this]
 ·have:X= []:=List.length_eq_zero_iff.1 (by omega)
  subst this
  cases a<;>simp[Xgz]
def Qh7(X:List Int)(p:Nat):List Int:=(X.take p).map Qcm
theorem Qx0(X:List Int)(p:Nat)(h:p<X.length):Qh7 X (p+1)=Qh7 X p++ [Qcm (X.getD p 0)]:=by
 unfold Qh7
 rw[Qbq X p h,List.map_append]
 rfl
theorem Qrl(X:List Int)(p:Nat)(h:p<=X.length):(Qh7 X p).length=p:=by simp[Qh7];omega
theorem Xbw(X:List Int):Qh7 X X.length=X.map Qcm:=by simp[Qh7]
theorem Xf9(a:Option Addr)(cap:Nat)(cs:List Int)(w:World)(hr:Ri w .i64 a cap cs)(hc:Qnw cs=true)(h60:cs.length<=512):
 Calls Tryz.prog 72 #[.slice a cs.length cap] w fun e w'=>∃k a2 c2,e= .returned (.tuple #[.slice a2 cs.length c2,.int .i64 0])∧(∀j,j<k->(Qaf (Qak cs j)).any Qbp=true)∧(Qaf (Qak cs k)).any Qbp=false∧Ri w' .i64 a2 c2 (Qaf (Qak cs k))∧Below w.heap.size w w':=by
 have hcr:=Qc3 hc
 obtain⟨i0,hi,hz0,hz1,hz2⟩:=info_parts Tryz.info3'
 have HA:=hid (Qti a cap cs w hr)
 rw[hc] at HA
 have HFL:Hid (∀k,(Qak cs k).length=cs.length):=fun k=>Qal cs k
 have HDL:Hid (∀k,(Qaf (Qak cs k)).length=cs.length):=fun k=>by rw[Qdd,Qal]
 have HD:Hid (∀(k:Nat) (W:World) (a1:Option Addr) (c1:Nat),Ri W .i64 a1 c1 (Qak cs k)->Calls Tryz.prog 110 #[.slice a1 cs.length c1] W fun e w'=>∃a2 c2,e= .returned (.slice a2 cs.length c2)∧Ri w' .i64 a2 c2 (Qaf (Qak cs k))∧Below W.heap.size W w'):=by
  intro k W a1 c1 hr1
  have h:=Qxr a1 c1 (Qak cs k) W hr1 (by rw[Qal];omega) (Qbl hcr.2 k)
  rw[Xk3 _ (Qbl hcr.2 k),Qal] at h
  refine h.mono ?_
  rintro _ w' ⟨v,rfl,ho,hb⟩
  rw[<-HDL.out k] at ho
  obtain⟨a2,c2,rfl,hr2⟩:=Ri.own ho (fun j=>by have:=Qs0 (Qak cs k) (by rw[Qal];omega) (Qbl hcr.2 k) j;exact Qby (by omega) (by omega))
  exact⟨a2,c2,by rw[HDL.out k],hr2,hb⟩
 have HX:Hid (∀(k:Nat) (W:World) (a2:Option Addr) (c2:Nat),Ri W .i64 a2 c2 (Qaf (Qak cs k))->Calls Tryz.prog 111 #[.slice a2 cs.length c2] W fun e w'=>e= .returned (.bool ((Qaf (Qak cs k)).any Qbp))∧w'=W):=fun k W a2 c2 h2=>by
  have h:=Xgl a2 c2 (Qaf (Qak cs k)) W h2
  rwa[HDL.out k] at h
 have HRG:=hid (fun k=>Qbl hcr.2 k)
 have HLS:Hid (∀k,(Qaf (Qak cs k)).any Qbp=true->(Qak cs (k+1)).sum.toNat<(Qak cs k).sum.toNat):=fun k=>Qnb h60 hcr.2 k
 have HR:=hid hr
 clear hr hc hcr
 obtain⟨len,hl⟩:∃n,n=cs.length:=⟨_,rfl⟩
 rw[<-hl] at HA HD HX HDL HFL h60|-
 clear hl
 have HD0:=hid (HD.out 0 w a cap HR.out)
 go_enter Tryz.func72,Tryz.ntmps72
 go_wp2_with fail
 refine HA.out.mono ?_
 rintro _ w1 ⟨rfl,hw⟩
 obtain rfl:=hw.symm
 clear hw HA
 go_wp2_with fail
 refine HD0.out.mono ?_
 rintro _ w2 ⟨a2,c2,rfl,hr2,hb2⟩
 have HR2:=hid hr2
 have HB2:=hid hb2
 have HR0:=hid (HR.out.later hb2)
 clear hr2 hb2 HD0 HR
 go_wp2_with fail
 go_loopw [0,4] (fun x y wr=>∃(k:Nat) (a1:Option Addr) (c1:Nat) (a2:Option Addr) (c2:Nat),x= .slice a1 len c1∧y= .slice a2 len c2∧Hid (∀j,j<k->(Qaf (Qak cs j)).any Qbp=true)∧Hid (Ri wr .i64 a1 c1 (Qak cs k))∧Hid (Ri wr .i64 a2 c2 (Qaf (Qak cs k)))∧Hid (Below w.heap.size w wr)) (fun x _ wr=>(Xgz wr x).sum.toNat)
 case atStart=>exact⟨0,a,cap,a2,c2,rfl,rfl,fun j hj=>by omega,HR0,HR2,HB2⟩
 case round=>
  clear HR0 HR2 HB2
  obtain⟨k,a1,c1,a3,c3,rfl,rfl,HK,HRK,HRD,HB⟩:=hrel
  have HXK:=hid (HX.out k wr a3 c3 HRD.out)
  have HM:Hid (Xgz wr (.slice a1 len c1)=Qak cs k):=by
   have h:=Xbt HRK.out
   rw[HFL.out k] at h
   exact h
  cases hdk:(Qaf (Qak cs k)).any Qbp with
  | true=>
    rw[hdk] at HXK
    have HK2:Hid (∀j,j<k+1->(Qaf (Qak cs j)).any Qbp=true):=fun j hj=>by
     by_cases e:j=k
     ·rw[e];exact hdk
     ·exact HK.out j (by omega)
    have HLT:=hid (HLS.out k hdk)
    clear hdk HK
    go_wp2_with fail
    refine HXK.out.mono ?_
    rintro _ w3 ⟨rfl,hw⟩
    obtain rfl:=hw
    clear HXK
    go_wp2_with fail
    go_loopw [5,6] (fun v y wq=>∃p:Nat,p<=len∧y= .int .i64 p∧Hid (wq.ownsRow w3.heap.size 3 1 v (Qh7 (Qak cs k) p).length ((Qh7 (Qak cs k) p).map (Value.int .i64)))∧Hid (Below w3.heap.size w3 wq)) (fun _ y _=>len-(intOf y).toNat)
    case atStart=>exact⟨0,by omega,rfl,World.ownsRow_nil _ _ _ _,Below.refl _ _⟩
    case round=>
     obtain⟨p,hp,rfl,HOW,HBQ⟩:=hrel
     have hsz:w3.heap.size<=wr.heap.size:=HBQ.out.size
     have HHL:Hid ((Qh7 (Qak cs k) p).length=p):=Qrl _ _ (by rw[HFL.out];exact hp)
     by_cases hlt:p<len
     ·have hkl:(p:Int)<(len:Int):=by omega
      have K1:Hid (p<(Qak cs k).length):=by show _<_;rw[HFL.out];exact hlt
      obtain⟨b,off,rfl,hbw,hcl⟩:=(HRK.out).cells (by rw[HFL.out];omega)
      have ck:wr.cell? ⟨b,off+p,none⟩=some (.int .i64 ((Qak cs k).getD p 0)):=(HBQ.out.cell (p:=⟨b,off+p,none⟩) hbw).trans (hcl p K1.out)
      clear hcl
      have hrg:=HRG.out k p
      have HN2:=hid (Qx0 (Qak cs k) p K1.out)
      generalize (Qak cs k).getD p 0=c at *
      by_cases hc0:c=0
      ·subst hc0
       have ef:Qcm 0=0:=rfl
       rw[ef] at HN2
       clear ef
       go_wp2_with (at_builtin;refine wpList_append_own _ rfl _ _ 112 rfl w3.heap.size 3 i0 (.int .i64 0) 1 8 Tryz.underlying112 hi hz0 hz1 hz2 rfl (by decide) _ _ _ rfl (HOW.out.alloc _) ⟨wr.heap.size,0,none⟩ 1 1 [.int .i64 0] rfl rfl ?c1 ?c2 ?c3 ?c4 ?c5 ?_)
       case c1=>
        intro j u hj
        match j,hj with
        | 0,hj=>simp at hj;subst hj;simp[Addr.add]
       case c2=>intro u hu;simp at hu;subst hu;rfl
       case c3=>unfold maxLen;have:=HHL.out;omega
       case c4=>have:=HHL.out;omega
       case c5=>simp;omega
       intro v1 w5 hown0 hgrow _
       have HB1:=hid ((HBQ.out.alloc hsz _).grown hgrow (by simp;omega) (fun j hj=>(HOW.out.lt j hj).1))
       have HO1:Hid (w5.ownsRow w3.heap.size 3 1 v1 (Qh7 (Qak cs k) (p+1)).length ((Qh7 (Qak cs k) (p+1)).map (Value.int .i64))):=by
        show World.ownsRow _ _ _ _ _ _ _
        rw[HN2.out];simpa using hown0
       clear hown0 hgrow ck HOW HBQ HN2
       go_wp2
       exact⟨⟨p+1,by omega,by go_num,HO1,HB1⟩,by simp[intOf];omega⟩
      ·obtain⟨cn,rfl⟩:∃cn:Nat,c=(cn:Int):=⟨c.toNat,by omega⟩
       obtain⟨q,hq⟩:∃q:Nat,(cn:Int)/2=(q:Int):=⟨cn/2,by omega⟩
       have ef:Qcm (cn:Int)=(q:Int)+1:=by unfold Qcm;rw[if_pos (by omega),hq]
       rw[ef] at HN2
       have hqb:q<=1073741824:=by omega
       have htd:(cn:Int).tdiv 2=(q:Int):=by rw[Int.tdiv_eq_ediv_of_nonneg (by omega)];exact hq
       have hcn:((cn:Int) != 0)=true:=by simp;omega
       clear hq ef hc0
       go_wp2_with (at_builtin;refine wpList_append_own _ rfl _ _ 112 rfl w3.heap.size 3 i0 (.int .i64 0) 1 8 Tryz.underlying112 hi hz0 hz1 hz2 rfl (by decide) _ _ _ rfl (HOW.out.alloc _) ⟨wr.heap.size,0,none⟩ 1 1 [.int .i64 ((q:Int)+1)] rfl rfl ?c1 ?c2 ?c3 ?c4 ?c5 ?_)
       case c1=>
        intro j u hj
        match j,hj with
        | 0,hj=>simp at hj;subst hj;simp[Addr.add]
       case c2=>intro u hu;simp at hu;subst hu;rfl
       case c3=>unfold maxLen;have:=HHL.out;omega
       case c4=>have:=HHL.out;omega
       case c5=>simp;omega
       intro v1 w5 hown0 hgrow _
       have HB1:=hid ((HBQ.out.alloc hsz _).grown hgrow (by simp;omega) (fun j hj=>(HOW.out.lt j hj).1))
       have HO1:Hid (w5.ownsRow w3.heap.size 3 1 v1 (Qh7 (Qak cs k) (p+1)).length ((Qh7 (Qak cs k) (p+1)).map (Value.int .i64))):=by
        show World.ownsRow _ _ _ _ _ _ _
        rw[HN2.out];simpa using hown0
       clear hown0 hgrow ck HOW HBQ HN2
       go_wp2
       exact⟨⟨p+1,by omega,by go_num,HO1,HB1⟩,by simp[intOf];omega⟩
     ·have hkl:¬(p:Int)<(len:Int):=by omega
      have HFK:Hid (Qh7 (Qak cs k) p=Qak cs (k+1)):=by
       show _=_
       rw[show p=(Qak cs k).length from by rw[HFL.out];omega,Xbw];rfl
      have ho:=HOW.out
      rw[HFK.out] at ho
      obtain⟨a5,c5,e5,hr5⟩:=Ri.own ho (fun j=>by have:=HRG.out (k+1) j;exact Qby (by omega) (by omega))
      rw[HFL.out] at e5
      subst e5
      have HR5:=hid hr5
      have HD5:=hid (HD.out (k+1) wr a5 c5 hr5)
      clear ho hr5 HOW HFK
      go_wp2_with fail
      refine HD5.out.mono ?_
      rintro _ w6 ⟨a6,c6,rfl,hr6,hb6⟩
      have HR6:=hid hr6
      have HR7:=hid (HR5.out.later hb6)
      have HB6:=hid (Bn HB.out (Bn HBQ.out hb6))
      have HM6:Hid (Xgz w6 (.slice a5 len c5)=Qak cs (k+1)):=by
       have h:=Xbt HR7.out
       rw[HFL.out] at h
       exact h
      clear hr6 hb6 HD5 HR5
      go_wp2
      exact⟨⟨k+1,a5,c5,a6,c6,rfl,rfl,HK2,HR7,HR6,HB6⟩,by rw[HM.out,HM6.out];exact HLT.out⟩
  | false=>
    rw[hdk] at HXK
    have HDK:=hid hdk
    clear hdk
    go_wp2_with fail
    refine HXK.out.mono ?_
    rintro _ w3 ⟨rfl,hw⟩
    obtain rfl:=hw.symm
    clear hw HXK
    go_wp2
    go_ret2
    exact⟨k,a3,c3,rfl,HK.out,HDK.out,HRD.out,HB.out⟩
theorem Xbv(a:Option Addr)(cap:Nat)(zs:List Int)(w:World)(hr:Ri w .i64 a cap zs)(hc:Qaq zs=true):
 Calls Tryz.prog 74 #[.slice a zs.length cap] w fun e w'=>∃v,e= .returned (.tuple #[v,.int .i64 0])∧w'.ownsRow w.heap.size 124 1 v (Qam zs).length ((Qam zs).map (Value.int .u16))∧Below w.heap.size w w':=by
 obtain⟨i0,hi,hz0,hz1,hz2⟩:=info_parts Tryz.info124
 have HT:=hid (Xay a cap zs w hr)
 have e2:Qco zs=0:=by unfold Qco;rw[hc];rfl
 rw[e2] at HT
 have hok:Qhl zs=true:=by unfold Qaq at hc;rw[Bool.and_eq_true] at hc;exact hc.1
 have hlen:=(Qb0 hok).1
 have HA:=hid (Qb0 hok).2
 have HR:=hid hr
 obtain⟨len,hl⟩:∃n,n=zs.length:=⟨_,rfl⟩
 have HL:=hid hl
 rw[<-hl] at hlen HT|-
 clear hr e2 hok hc hl
 go_enter Tryz.func74,Tryz.ntmps74
 go_wp2_with fail
 refine HT.out.mono ?_
 rintro _ w1 ⟨rfl,hw⟩
 obtain rfl:=hw.symm
 clear hw HT
 go_wp2_with (first
  | (at_make;refine wpList_make_full _ rfl _ _ 118 rfl w.heap.size 124 i0 (.int .u16 0) 1 Tryz.underlying118 hi hz0 hz1 .i64 .i64 _ _ len rfl rfl (by first | rfl | omega) (by first | rfl | omega) ?b2 ?b3 ?b4 ?_))
 case b2=>rw[hz2];omega
 case b3=>unfold maxLen;omega
 case b4=>exact Nat.le_refl _
 intro w1 hown0 hgrow
 have hb1:Below w.heap.size w w1:=(Below.refl _ _).grown hgrow (Nat.le_refl _) (fun k hk=>by cases hk)
 rw[toList_madeCells_one,show List.replicate len (Value.int .u16 0)=(pcL zs 1 0).map (Value.int .u16) from by rw[Xat,HL.out];simp] at hown0
 have HO:=hid hown0
 clear hgrow hown0
 go_wp2
 go_loopw [6,7] (fun x y wr=>∃m:Nat,1<=m∧m<=16∧y= .int .i64 m∧x= .int .i64 ((first zs m:Nat):Int)∧wr.ownsRow w.heap.size 124 1 (.slice (some ⟨w.heap.size,0,none⟩) len len) len ((pcL zs m 0).map (Value.int .u16))∧Below w.heap.size w wr) (fun _ y _=>16-(intOf y).toNat)
 case atStart=>exact⟨1,by omega,by omega,rfl,rfl,HO.out,hb1⟩
 case round=>
  clear HO hb1
  obtain⟨m,hm1,hm2,rfl,rfl,hown,hbel⟩:=hrel
  by_cases hm:m<=15
  ·have hm':(m:Int)<=15:=by omega
   have hfs:=Qhz zs m (by omega) (by rw[<-HL.out];omega)
   have HO:=hid hown
   have HB:=hid hbel
   clear hown hbel
   have hx:((first zs m:Nat):Int)=((first zs m+cnt (zs.take 0) m:Nat):Int):=by simp[cnt]
   go_wp2_with fail
   go_loopw [6,8] (fun x y wr=>∃i:Nat,i<=len∧y= .int .i64 i∧x= .int .i64 ((first zs m+cnt (zs.take i) m:Nat):Int)∧wr.ownsRow w.heap.size 124 1 (.slice (some ⟨w.heap.size,0,none⟩) len len) len ((pcL zs m i).map (Value.int .u16))∧Below w.heap.size w wr) (fun _ y _=>len-(intOf y).toNat)
   case atStart=>exact⟨0,by omega,rfl,by rw[hx],HO.out,HB.out⟩
   case round=>
    clear HO HB hx
    obtain⟨i,hi2,rfl,rfl,hown,hbel⟩:=hrel
    have hcn:=Qle (zs.take i) m
    have hcl2:(zs.take i).length<=len:=by rw[List.length_take];omega
    by_cases hlt:i<len
    ·have hil:(i:Int)<(len:Int):=by omega
     have HZ:Hid (i<zs.length):=by show _<_;rw[<-HL.out];exact hlt
     obtain⟨b,off,rfl,hbw,hc⟩:=(HR.out).cells (by rw[<-HL.out];omega)
     have ck:wr.cell? ⟨b,off+i,none⟩=some (.int .i64 (zs.getD i 0)):=(hbel.cell (p:=⟨b,off+i,none⟩) hbw).trans (hc i HZ.out)
     clear hc
     have HC:=hid (Qhg (zs.take i) (zs.getD i 0) m)
     rw[<-Qbq zs i HZ.out] at HC
     by_cases hz:zs.getD i 0=(m:Int)
     ·have hcell:∃u,wr.cell? ⟨w.heap.size,i,none⟩=some u:=by
       rw[hown.cellAt i (by omega)]
       exact⟨_,List.getElem?_eq_getElem (by rw[List.length_map,Qdq,<-HL.out];exact hlt)⟩
      obtain⟨u,hu⟩:=hcell
      have hfz:=hown.frozenAt i
      have hst:=hown.stored i (.int .u16 (codeF zs i))
      rw[<-List.map_set,Xjo zs m i HZ.out hz] at hst
      have hnb:=hbel.grown hst.2 hbel.size (fun j hj=>by injection hj with hj;omega)
      have hcv:codeF zs i=(((first zs m+cnt (zs.take i) m)%65536:Nat):Int):=by
       unfold codeF Qds;rw[hz,if_pos (by omega)];rfl
      rw[hcv] at hst hnb
      have HS:=hid hst.1
      have HB:=hid hnb
      rw[if_pos ⟨by omega,hz⟩] at HC
      rw[hz] at ck
      clear hst hnb hown hcv hbel hz
      generalize first zs m=f at *
      generalize cnt (zs.take i) m=c at *
      have HV:Hid (IntKind.u16.wrap ((f:Int)+(c:Int))=(((f+c)%65536:Nat):Int)):=by show _=_;rw[IntKind.wrap_u16];omega
      have hbb:((m:Int)==(m:Int))=true:=by simp
      go_wp2
      rw[HV.out]
      exact⟨⟨i+1,by omega,by go_num,by rw[HC.out];simp;omega,HS.out,HB.out⟩,by simp[intOf];omega⟩
     ·rw[if_neg (by omega)] at HC
      have HO:Hid (wr.ownsRow w.heap.size 124 1 (.slice (some ⟨w.heap.size,0,none⟩) len len) len ((pcL zs m (i+1)).map (Value.int .u16))):=by
       show World.ownsRow _ _ _ _ _ _ _
       rw[Xeo zs m i hz];exact hown
      have HB:=hid hbel
      clear hown hbel
      generalize first zs m=f at *
      generalize cnt (zs.take i) m=c at *
      generalize zs.getD i 0=z at *
      have hbb:(z==(m:Int))=false:=by simp[hz]
      go_wp2
      exact⟨⟨i+1,by omega,by go_num,by rw[HC.out];simp,HO.out,HB.out⟩,by simp[intOf];omega⟩
    ·obtain rfl:i=len:=by omega
     have HO:Hid (wr.ownsRow w.heap.size 124 1 (.slice (some ⟨w.heap.size,0,none⟩) i i) i ((pcL zs (m+1) 0).map (Value.int .u16))):=by
      show World.ownsRow _ _ _ _ _ _ _
      rw[<-Xd7 zs m (by omega),<-HL.out];exact hown
     have HF:Hid (first zs (m+1)=(first zs m+cnt (zs.take i) m)*2):=by
      show _=_
      rw[show zs.take i=zs from by rw[HL.out];exact List.take_length];rfl
     have HB:=hid hbel
     clear hown hbel
     generalize first zs m=f at *
     generalize cnt (zs.take i) m=c at *
     go_wp2
     exact⟨⟨m+1,by omega,by omega,by go_num,by rw[HF.out];simp,HO.out,HB.out⟩,by simp[intOf];omega⟩
  ·obtain rfl:m=16:=by omega
   rw[Xek zs HA.out] at hown
   have HCL:Hid ((Qam zs).length=len):=by show _=_;rw[Qax,HL.out]
   go_wp2
   go_ret2
   exact⟨_,rfl,by rw[HCL.out];exact hown,hbel⟩
theorem Qpd(c n:Nat)(w:World)(hc:c<65536)(hn:n<=1000):
 Calls Tryz.prog 76 #[.int .u16 (c:Int),.int .i64 (n:Int)] w fun e w'=>∃v,e= .returned v∧w'.ownsRow w.heap.size 4 1 v (Qcy c n).length ((Qcy c n).map Value.bool)∧Below w.heap.size w w':=by
 obtain⟨i0,hi,hz0,hz1,hz2⟩:=info_parts Tryz.info4
 go_enter Tryz.func76,Tryz.ntmps76
 go_wp2_with (at_make;refine wpList_make_full _ rfl _ _ 121 rfl w.heap.size 4 i0 (.bool false) 1 Tryz.underlying121 hi hz0 hz1 .i64 .i64 _ _ n rfl rfl (by first | rfl | omega) (by first | rfl | omega) ?b2 ?b3 ?b4 ?_)
 case b2=>rw[hz2];omega
 case b3=>unfold maxLen;omega
 case b4=>exact Nat.le_refl _
 intro w1 hown0 hgrow
 have hb1:Below w.heap.size w w1:=(Below.refl _ _).grown hgrow (Nat.le_refl _) (fun k hk=>by cases hk)
 rw[toList_madeCells_one,show List.replicate n (Value.bool false)=(Qjl c n 0).map Value.bool from by rw[Qw4];simp] at hown0
 have HO:=hid hown0
 clear hgrow hown0
 go_wp2
 go_loopw [0,6] (fun x y wr=>∃j:Nat,j<=n∧y= .int .i64 ((n:Int)-1-(j:Int))∧x= .int .u16 ((c/2^j:Nat):Int)∧wr.ownsRow w.heap.size 4 1 (.slice (some ⟨w.heap.size,0,none⟩) n n) n ((Qjl c n j).map Value.bool)∧Below w.heap.size w wr) (fun _ y _=>(intOf y+1).toNat)
 case atStart=>exact⟨0,by omega,by simp,by simp,HO.out,hb1⟩
 case round=>
  clear HO hb1
  obtain⟨j,hj,rfl,rfl,hown,hbel⟩:=hrel
  by_cases hlt:j<n
  ·obtain⟨i,hij⟩:∃i:Nat,(n:Int)-1-(j:Int)=(i:Int):=⟨n-1-j,by omega⟩
   have HI:Hid (i=n-1-j):=by show _=_;omega
   have hin:i<n:=by omega
   have hin':(i:Int)<(n:Int):=by omega
   have hcell:∃u,wr.cell? ⟨w.heap.size,i,none⟩=some u:=by
    rw[hown.cellAt i (by omega)]
    exact⟨_,List.getElem?_eq_getElem (by rw[List.length_map,Qdz];exact hin)⟩
   obtain⟨u,hu⟩:=hcell
   have hfz:=hown.frozenAt i
   have hst:=hown.stored i (.bool (c/2^j%2==1))
   rw[<-List.map_set,HI.out,Qyz c n j hlt,<-HI.out] at hst
   have hnb:=hbel.grown hst.2 hbel.size (fun j hj=>by injection hj with hj;omega)
   have HS:=hid hst.1
   have HB:=hid hnb
   have hle:c/2^j<=c:=Nat.div_le_self _ _
   have HD:Hid (c/2^(j+1)=c/2^j/2):=by show _=_;rw[Nat.pow_succ,<-Nat.div_div_eq_div_mul]
   have HQ:Hid (Value.int .i64 ((i:Int)-1)=Value.int .i64 ((n:Int)-1-((j+1:Nat):Int))):=by
    show _=_
    congr 1
    omega
   rw[hij]
   clear hst hnb hown hbel hij
   generalize c/2^j=d at *
   have HV:Hid (((d:Int)%2==1)=(d%2==1)):=by show _=_;rw[Bool.eq_iff_iff,beq_iff_eq,beq_iff_eq];omega
   have hi0:(0:Int)<=(i:Int):=by omega
   go_wp2
   rw[HV.out]
   exact⟨⟨j+1,by omega,HQ.out,by rw[HD.out];simp,HS.out,HB.out⟩,by simp[intOf]⟩
  ·obtain rfl:j=n:=by omega
   rw[Qxl] at hown
   have hneg:¬(0:Int)<=(j:Int)-1-(j:Int):=by omega
   generalize (j:Int)-1-(j:Int)=z at *
   generalize c/2^j=d at *
   go_wp2
   go_ret
   exact⟨_,rfl,by rw[Qbi];exact hown,hbel⟩
theorem Xe0(a:Option Addr)(cap:Nat)(bs:List Bool)(w:World)(hr:Rb w a cap bs)(hn:bs.length<=1000000):
 Calls Tryz.prog 78 #[.slice a bs.length cap] w fun e w'=>∃v,e= .returned v∧w'.ownsRow w.heap.size 5 1 v (Qbu (nB bs bs.length) bs.length).length ((Qbu (nB bs bs.length) bs.length).map (Value.int .u8))∧Below w.heap.size w w':=by
 obtain⟨i0,hi,hz0,hz1,hz2⟩:=info_parts Tryz.info5
 have HR:=hid hr
 obtain⟨len,hl⟩:∃n,n=bs.length:=⟨_,rfl⟩
 have HL:=hid hl
 rw[<-hl] at hn|-
 clear hr hl
 go_enter Tryz.func78,Tryz.ntmps78
 go_wp2
 go_loopw [3,4] (fun v y wr=>∃k:Nat,k<=len∧y= .int .i64 k∧wr.ownsRow w.heap.size 5 1 v (Qbu (nB bs k) k).length ((Qbu (nB bs k) k).map (Value.int .u8))∧Below w.heap.size w wr) (fun _ y _=>len-(intOf y).toNat)
 case atStart=>exact⟨0,by omega,rfl,World.ownsRow_nil _ _ _ _,Below.refl _ _⟩
 case round=>
  obtain⟨k,hk,rfl,hown,hbel⟩:=hrel
  by_cases hlt:k<len
  ·have hkl:(k:Int)<(len:Int):=by omega
   have K1:Hid (k<bs.length):=by show _<_;rw[<-HL.out];exact hlt
   obtain⟨b,off,rfl,hbw,hc⟩:=(HR.out).cells (by rw[<-HL.out];omega)
   have hck:=hc k K1.out
   clear hc
   have HNB:=hid (show nB bs (k+1)=nB bs k*2+(if bs.getD k false then 1 else 0) from rfl)
   generalize bs.getD k false=x at *
   generalize nB bs k=N at *
   by_cases h8:k%8=0
   ·have h8i:(k:Int)%8=0:=by omega
    have h8b:((k:Int)%8==0)=true:=by simp;omega
    have hnl:(Qbu N k).length<=1000000:=by rw[Qbh];omega
    go_wp2_with (at_builtin;refine wpList_append_own _ rfl _ _ 22 rfl w.heap.size 5 i0 (.int .u8 0) 1 1 Tryz.underlying22 hi hz0 hz1 hz2 rfl (by decide) _ _ _ rfl (hown.alloc _) ⟨wr.heap.size,0,none⟩ 1 1 [.int .u8 0] rfl rfl ?c1 ?c2 ?c3 ?c4 ?c5 ?_)
    case c1=>
     intro j u hj
     match j,hj with
     | 0,hj=>simp at hj;subst hj;simp[Addr.add]
    case c2=>intro u hu;simp at hu;subst hu;rfl
    case c3=>unfold maxLen;omega
    case c4=>omega
    case c5=>have:=hbel.size;simp;omega
    intro v1 w1 hown0 hgrow _
    have hB1:Below w.heap.size w w1:=(hbel.alloc hbel.size _).grown hgrow (by have:=hbel.size;simp;omega) (fun j hj=>(hown.lt j hj).1)
    have hown1:w1.ownsRow w.heap.size 5 1 v1 (Qbu (N*2) (k+1)).length ((Qbu (N*2) (k+1)).map (Value.int .u8)):=by
     rw[Qpt N k h8];simpa using hown0
    have HB1:=hid hB1
    have ck1:w1.cell? ⟨b,off+k,none⟩=some (.bool x):=(hB1.cell (p:=⟨b,off+k,none⟩) hbw).trans hck
    clear hown hbel hown0 hgrow hB1 hnl hck
    cases x with
    | false=>
      have HX:Hid (nB bs (k+1)=N*2):=by show _=_;rw[HNB.out];simp
      have HO1:=hid hown1
      clear hown1
      go_wp2
      exact⟨⟨k+1,by omega,by go_num,by rw[HX.out];exact HO1.out,HB1.out⟩,by simp[intOf];omega⟩
    | true=>
      have HX:Hid (nB bs (k+1)=N*2+1):=by show _=_;rw[HNB.out];simp
      have hpl:(Qbu (N*2) (k+1)).length=k/8+1:=by rw[Qbh];omega
      obtain⟨g,cp,rfl,hgw,hgc⟩:=Qg3 hown1 (by omega)
      rw[hpl] at hown1 hgc
      have cc:=hown1.cellAt (k/8) (by omega)
      rw[List.getElem?_map] at cc
      have cc2:(Qbu (N*2) (k+1))[k/8]?=some ((Qbu (N*2) (k+1)).getD (k/8) 0):=by
       simp[List.getD,List.getElem?_eq_getElem (show k/8<(Qbu (N*2) (k+1)).length from by omega)]
      rw[cc2] at cc
      have ff:=hown1.frozenAt (k/8)
      have hst:=hown1.stored (k/8) (.int .u8 ((Qbu (N*2) (k+1)).getD (k/8) 0+((2^(7-k%8):Nat):Int)))
      rw[<-List.map_set,<-Qkl] at hst
      have hnb:=HB1.out.grown hst.2 HB1.out.size (fun j hj=>by injection hj with hj;omega)
      have hrg:=Qgp (N*2) (k+1) (k/8)
      have hrg2:=Qgp (N*2+1) (k+1) (k/8)
      have hsum:(Qbu (N*2) (k+1)).getD (k/8) 0+((2^(7-k%8):Nat):Int)<=255:=by
       rw[Qkl,Qks _ _ _ _ (by omega),if_pos rfl] at hrg2
       exact hrg2.2
      have hpl2:(Qbu (N*2+1) (k+1)).length=k/8+1:=by rw[Qbh];omega
      have HS:=hid hst.1
      have HPL:=hid hpl2
      have HB2:=hid hnb
      rw[hpl]
      clear hst hnb hown1 hpl hpl2 cc2 hrg2
      generalize (Qbu (N*2) (k+1)).getD (k/8) 0=y at *
      obtain⟨q,hq⟩:∃q,q=k/8:=⟨_,rfl⟩
      have hqi:((k:Int)/8)=(q:Int):=by omega
      rw[<-hq] at cc ff HS HB2 HPL
      rw[<-hq] at hgc
      rw[<-hq]
      clear hq
      have h7:2^(7-k%8)<=128:=Xd1 (k%8) (by omega)
      go_wp2_with fail
      go_loopw [5,6] (fun p i W=>W=w1∧∃m:Nat,m<=k%8∧i= .int .i64 m∧p= .int .u8 ((2^(7-m):Nat):Int)) (fun _ i _=>k%8-(intOf i).toNat)
      case atStart=>exact⟨rfl,0,by omega,rfl,rfl⟩
      case round=>
       obtain⟨rfl,m,hm,rfl,rfl⟩:=hrel
       by_cases hm2:m<k%8
       ·have hm3:(m:Int)<(k:Int)%8:=by omega
        have HP:Hid (2^(7-(m+1))=2^(7-m)/2):=by
         show _=_
         rw[show 7-m=(7-(m+1))+1 from by omega,Nat.pow_succ];omega
        have hp7:=Xd1 m (by omega)
        generalize 2^(7-m)=pp at *
        go_wp2
        all_goals first | exact⟨⟨trivial,m+1,by omega,by go_num,by rw[HP.out];simp⟩,by simp[intOf];omega⟩ | exact⟨⟨rfl,m+1,by omega,by go_num,by rw[HP.out];simp⟩,by simp[intOf];omega⟩ | exact⟨⟨m+1,by omega,by go_num,by rw[HP.out];simp⟩,by simp[intOf];omega⟩
       ·obtain rfl:m=k%8:=by omega
        have hm3:¬((k%8:Nat):Int)<(k:Int)%8:=by omega
        generalize ((k%8:Nat):Int)=mm at *
        generalize 2^(7-k%8)=pp at *
        have hq2:(q:Int)<(q:Int)+1:=by omega
        go_wp2
        exact⟨⟨k+1,by omega,by go_num,by rw[HX.out,HPL.out];exact HS.out,HB2.out⟩,by simp[intOf];omega⟩
   ·have h8i:¬(k:Int)%8=0:=by omega
    have h8b:((k:Int)%8==0)=false:=by simp;omega
    have hown1:wr.ownsRow w.heap.size 5 1 u3 (Qbu (N*2) (k+1)).length ((Qbu (N*2) (k+1)).map (Value.int .u8)):=by
     rw[Qob N k h8];exact hown
    have HB1:=hid hbel
    have ck1:wr.cell? ⟨b,off+k,none⟩=some (.bool x):=(hbel.cell (p:=⟨b,off+k,none⟩) hbw).trans hck
    clear hown hbel hck
    cases x with
    | false=>
      have HX:Hid (nB bs (k+1)=N*2):=by show _=_;rw[HNB.out];simp
      have HO1:=hid hown1
      clear hown1
      go_wp2
      exact⟨⟨k+1,by omega,by go_num,by rw[HX.out];exact HO1.out,HB1.out⟩,by simp[intOf];omega⟩
    | true=>
      have HX:Hid (nB bs (k+1)=N*2+1):=by show _=_;rw[HNB.out];simp
      have hpl:(Qbu (N*2) (k+1)).length=k/8+1:=by rw[Qbh];omega
      obtain⟨g,cp,rfl,hgw,hgc⟩:=Qg3 hown1 (by omega)
      rw[hpl] at hown1 hgc
      have cc:=hown1.cellAt (k/8) (by omega)
      rw[List.getElem?_map] at cc
      have cc2:(Qbu (N*2) (k+1))[k/8]?=some ((Qbu (N*2) (k+1)).getD (k/8) 0):=by
       simp[List.getD,List.getElem?_eq_getElem (show k/8<(Qbu (N*2) (k+1)).length from by omega)]
      rw[cc2] at cc
      have ff:=hown1.frozenAt (k/8)
      have hst:=hown1.stored (k/8) (.int .u8 ((Qbu (N*2) (k+1)).getD (k/8) 0+((2^(7-k%8):Nat):Int)))
      rw[<-List.map_set,<-Qkl] at hst
      have hnb:=HB1.out.grown hst.2 HB1.out.size (fun j hj=>by injection hj with hj;omega)
      have hrg:=Qgp (N*2) (k+1) (k/8)
      have hrg2:=Qgp (N*2+1) (k+1) (k/8)
      have hsum:(Qbu (N*2) (k+1)).getD (k/8) 0+((2^(7-k%8):Nat):Int)<=255:=by
       rw[Qkl,Qks _ _ _ _ (by omega),if_pos rfl] at hrg2
       exact hrg2.2
      have hpl2:(Qbu (N*2+1) (k+1)).length=k/8+1:=by rw[Qbh];omega
      have HS:=hid hst.1
      have HPL:=hid hpl2
      have HB2:=hid hnb
      rw[hpl]
      clear hst hnb hown1 hpl hpl2 cc2 hrg2
      generalize (Qbu (N*2) (k+1)).getD (k/8) 0=y at *
      obtain⟨q,hq⟩:∃q,q=k/8:=⟨_,rfl⟩
      have hqi:((k:Int)/8)=(q:Int):=by omega
      rw[<-hq] at cc ff HS HB2 HPL
      rw[<-hq] at hgc
      rw[<-hq]
      clear hq
      have h7:2^(7-k%8)<=128:=Xd1 (k%8) (by omega)
      go_wp2_with fail
      go_loopw [5,6] (fun p i W=>W=wr∧∃m:Nat,m<=k%8∧i= .int .i64 m∧p= .int .u8 ((2^(7-m):Nat):Int)) (fun _ i _=>k%8-(intOf i).toNat)
      case atStart=>exact⟨rfl,0,by omega,rfl,rfl⟩
      case round=>
       obtain⟨rfl,m,hm,rfl,rfl⟩:=hrel
       by_cases hm2:m<k%8
       ·have hm3:(m:Int)<(k:Int)%8:=by omega
        have HP:Hid (2^(7-(m+1))=2^(7-m)/2):=by
         show _=_
         rw[show 7-m=(7-(m+1))+1 from by omega,Nat.pow_succ];omega
        have hp7:=Xd1 m (by omega)
        generalize 2^(7-m)=pp at *
        go_wp2
        all_goals first | exact⟨⟨trivial,m+1,by omega,by go_num,by rw[HP.out];simp⟩,by simp[intOf];omega⟩ | exact⟨⟨rfl,m+1,by omega,by go_num,by rw[HP.out];simp⟩,by simp[intOf];omega⟩ | exact⟨⟨m+1,by omega,by go_num,by rw[HP.out];simp⟩,by simp[intOf];omega⟩
       ·obtain rfl:m=k%8:=by omega
        have hm3:¬((k%8:Nat):Int)<(k:Int)%8:=by omega
        generalize ((k%8:Nat):Int)=mm at *
        generalize 2^(7-k%8)=pp at *
        have hq2:(q:Int)<(q:Int)+1:=by omega
        go_wp2
        exact⟨⟨k+1,by omega,by go_num,by rw[HX.out,HPL.out];exact HS.out,HB2.out⟩,by simp[intOf];omega⟩
  ·obtain rfl:k=len:=by omega
   go_wp2
   go_ret
   exact⟨_,rfl,hown,hbel⟩
end
section
open Go.RowKit Lz
theorem Xbx(bs:List Int)(q d g off cap:Nat)(w:World)(hq:q<bs.length)(hL:bs.length<=65536)(hd1:1<=d)(hd2:d<=q)
 (hc:∀j,j<bs.length->w.cell? ⟨g,off+j,none⟩=some (.int .u8 (bs.getD j 0))) :
 Calls Tryz.prog 108 #[.slice (some ⟨g,off,none⟩) bs.length cap,.int .i64 (q:Int),.int .i64 (d:Int)] w fun e w'=>e= .returned (.int .i64 ((com bs (q-d) q (most bs q):Nat):Int))∧∃m,w'=w.drewN m:=by
 have HC:=hid hc
 obtain⟨L,hLe⟩:∃L,L=bs.length:=⟨_,rfl⟩
 have HK:Hid (most bs q=min (L-q) 258):=by rw[hLe];rfl
 have HL:=hid hLe
 rw[<-hLe] at hq hL|-
 clear hc hLe
 go_enter Tryz.func108,Tryz.ntmps108
 go_wp2
 go_loopw [7] (fun y wr=>∃n m:Nat,n<=258∧q+n<=L∧y= .int .i64 n∧Hid (wr=w.drewN m)∧Hid (∀j,j<n->bs.getD (q-d+j) 0=bs.getD (q+j) 0)) (fun y _=>258-(intOf y).toNat)
 case atStart=>exact⟨0,0,by omega,by omega,rfl,rfl,fun j hj=>absurd hj (by omega)⟩
 case round=>
  obtain⟨n,m,hn,hn2,rfl,HW,HS⟩:=hrel
  by_cases hlt:n<258
  ·have hnz:(n:Int)<258:=by omega
   have hd:decide ((n:Int)<258)=true:=by simpa using hnz
   by_cases hlt2:q+n<L
   ·have hnz2:(q:Int)+(n:Int)<(L:Int):=by omega
    have hd2:decide ((q:Int)+(n:Int)<(L:Int))=true:=by simpa using hnz2
    obtain⟨r,hr⟩:∃r,r=q+n-d:=⟨_,rfl⟩
    have HR:Hid (r=q-d+n):=by show _=_;omega
    have hrz:(q:Int)+(n:Int)-(d:Int)=(r:Int):=by omega
    have hr0:r<L:=by omega
    obtain⟨s,hs⟩:∃s,s=q+n:=⟨_,rfl⟩
    have HSq:=hid hs
    have hsz:(q:Int)+(n:Int)=(s:Int):=by omega
    have hs0:s<L:=by omega
    have c1:wr.cell? ⟨g,off+s,none⟩=some (.int .u8 (bs.getD s 0)):=by rw[HW.out];exact HC.out s (by rw[<-HL.out];exact hs0)
    have c2:wr.cell? ⟨g,off+r,none⟩=some (.int .u8 (bs.getD r 0)):=by rw[HW.out];exact HC.out r (by rw[<-HL.out];exact hr0)
    have hsr:(s:Int)-(d:Int)=(r:Int):=by omega
    have hsL:(s:Int)<(L:Int):=by omega
    have hdL:decide ((s:Int)<(L:Int))=true:=by simpa using hsL
    clear hr hs
    by_cases he:bs.getD r 0=bs.getD s 0
    ·have HS2:Hid (∀j,j<n+1->bs.getD (q-d+j) 0=bs.getD (q+j) 0):=fun j hj=>by
      by_cases e:j=n
      ·subst e;rw[<-HR.out,<-HSq.out];exact he
      ·exact HS.out j (by omega)
     rw[he] at c2
     clear he
     generalize bs.getD s 0=z at *
     have hz:(z==z)=true:=by simp
     go_wp2_with fail
     go_big_quiet (fail)
     go_wp2
     exact⟨⟨n+1,_,by omega,by omega,by go_num,hid (by rw[HW.out,drewN_drewN]),HS2⟩,by simp[intOf];omega⟩
    ·have HCC:Hid (com bs (q-d) q (most bs q)=n):=by
      refine Qq7 _ _ _ _ _ (by rw[HK.out];omega) HS.out (.inr ?_)
      rw[<-HR.out,<-HSq.out];exact he
     have hz:(bs.getD s 0==bs.getD r 0)=false:=by simpa using fun h=>he h.symm
     clear he
     generalize bs.getD s 0=z at *
     generalize bs.getD r 0=y at *
     go_wp2_with fail
     go_big_quiet (fail)
     go_wp2
     go_ret
     exact⟨by rw[HCC.out];rfl,_,by rw[HW.out,drewN_drewN]⟩
   ·have HCC:Hid (com bs (q-d) q (most bs q)=n):=Qq7 _ _ _ _ _ (by rw[HK.out];omega) HS.out (.inl (by rw[HK.out];omega))
    have hnz2:¬(q:Int)+(n:Int)<(L:Int):=by omega
    have hd2:decide ((q:Int)+(n:Int)<(L:Int))=false:=by simpa using hnz2
    go_wp2_with fail
    go_big_quiet (fail)
    go_wp2
    go_ret
    exact⟨by rw[HCC.out];rfl,_,by rw[HW.out,drewN_drewN]⟩
  ·have HCC:Hid (com bs (q-d) q (most bs q)=n):=Qq7 _ _ _ _ _ (by rw[HK.out];omega) HS.out (.inl (by rw[HK.out];omega))
   have hnz:¬(n:Int)<258:=by omega
   have hd:decide ((n:Int)<258)=false:=by simpa using hnz
   go_wp2_with fail
   go_big_quiet (fail)
   go_wp2
   go_ret
   exact⟨by rw[HCC.out];rfl,_,by rw[HW.out,drewN_drewN]⟩
theorem Qtp(bs:List Int)(q g off cap:Nat)(w:World)(hq:q<bs.length)(hL:bs.length<=65536)(hg:g<w.heap.size)
 (hc:∀j,j<bs.length->w.cell? ⟨g,off+j,none⟩=some (.int .u8 (bs.getD j 0))) :
 Calls Tryz.prog 69 #[.slice (some ⟨g,off,none⟩) bs.length cap,.int .i64 (q:Int)] w fun e w'=>e= .returned (.agg (Qnk (Qb7 bs q)))∧Below w.heap.size w w':=by
 have HR:Hid (∀d,1<=d->d<=q->∀W,Below w.heap.size w W->Calls Tryz.prog 108 #[.slice (some ⟨g,off,none⟩) bs.length cap,.int .i64 (q:Int),.int .i64 (d:Int)] W fun e w'=>e= .returned (.int .i64 ((com bs (q-d) q (most bs q):Nat):Int))∧∃m,w'=W.drewN m):=
  fun d h1 h2 W hW=>Xbx bs q d g off cap W hq hL h1 h2 (fun j hj=>(hW.cell (p:=⟨g,off+j,none⟩) hg).trans (hc j hj))
 have cq:=hc q hq
 have HZ:Hid (∀s:Nat×Nat,Qcu bs q s=if s.1=0 then (0,1,bs.getD q 0) else (s.1,s.2,0)):=fun _=>rfl
 generalize bs.getD q 0=z at *
 obtain⟨L,hLe⟩:∃L,L=bs.length:=⟨_,rfl⟩
 have HL:=hid hLe
 have HM:Hid (most bs q<=258):=by show _<=_;unfold most;omega
 have HLT:Hid (Qb7 bs q=Qcu bs q (best bs q (most bs q) (Qbv q))):=rfl
 rw[<-hLe] at hq hL|-
 rw[<-hLe] at HR
 clear hc hLe
 go_enter Tryz.func69,Tryz.ntmps69
 go_wp2_with fail
 go_loopw [6] (fun y wr=>∃e d:Nat,Hid (e=d+1)∧e<=q+1∧e<=4097∧y= .int .i64 (e:Int)∧Below w.heap.size w wr∧Tb wr w.heap.size (0,0,0)∧Tb wr (w.heap.size+1) (Qcu bs q (best bs q (most bs q) ((Qbv q).take d)))) (fun y _=>q+1-(intOf y).toNat)
 case atStart=>
  refine⟨1,0,rfl,by omega,by omega,rfl,Bn (Qaa _ _) (Qaa _ _),Qai _ _ (Qaj _ _),?_⟩
  have:=Qaj (w.alloc (.cells #[.int .i64 0,.int .i64 0,.int .u8 0] 109)) (.cells #[.int .i64 0,.int .i64 1,.int .u8 z] 109)
  simp only[World.size_alloc] at this
  rw[HZ.out]
  exact this
 case round=>
  obtain⟨e,d,HE,hd1,hd2,rfl,hbel,h0,h1⟩:=hrel
  by_cases hlt:e<=q∧e<=4096
  ·obtain⟨hlt1,hlt2⟩:=hlt
   have hz1:(e:Int)<=(q:Int):=by omega
   have hz2:(e:Int)<=4096:=by omega
   have HC:=hid (HR.out e (by have:=HE.out;omega) hlt1 wr hbel)
   have HB:=hid (Qml bs q (most bs q) ((Qbv q).take d) (q-e))
   rw[HE.out,<-Qxx (by have:=HE.out;omega) (by have:=HE.out;omega),<-HE.out] at HB
   have HG:=hid (Qip (bs:=bs) (q:=q) (k:=most bs q) (ps:=(Qbv q).take d) (fun p hp=>(Qha (List.mem_of_mem_take hp)).1))
   have HCL:=hid (Qjs bs (most bs q) (q-e) q)
   have HP:=hid (List.take_prefix e (Qbv q))
   have HBF:=hid (fun h=>Qkr (bs:=bs) (q:=q) (k:=most bs q) (ps:=(Qbv q).take e) (qs:=Qbv q) h HP.out)
   obtain⟨n,hn⟩:∃n,n=com bs (q-e) q (most bs q):=⟨_,rfl⟩
   have HN:Hid (com bs (q-e) q (most bs q)=n):=hn.symm
   rw[HN.out] at HC HCL
   clear hn
   generalize best bs q (most bs q) ((Qbv q).take d)=s at *
   go_wp2_with fail
   refine HC.out.mono ?_
   rintro _ w2 ⟨rfl,m,rfl⟩
   have h0':Tb (wr.drewN m) w.heap.size (0,0,0):=h0
   have h1':Tb (wr.drewN m) (w.heap.size+1) (Qcu bs q s):=h1
   have hbel':=Qap hbel m
   clear h0 h1 hbel HC HR
   generalize wr.drewN m=W at *
   by_cases hhit:s.2<n
   ·have HBt:Hid (Qcu bs q (best bs q (most bs q) ((Qbv q).take e))=(e,n,0)):=by
     show _=_
     rw[HB.out,better,if_pos (by rw[HN.out];exact hhit)]
     have:=HE.out
     rw[HZ.out,if_neg (by simp;omega)]
     rw[<-HN.out]
     congr 1
     simp;omega
    have hn4:4<=n:=by rcases HG.out with ⟨_,h⟩ | ⟨_,_,h,_⟩<;>omega
    have hn4z:(4:Int)<=(n:Int):=by omega
    obtain⟨ln,hln⟩:∃ln:Nat,ln=(Qcu bs q s).2.1:=⟨_,rfl⟩
    have hlnn:ln<n:=by
     rw[hln,HZ.out]
     split
     ·simp;omega
     ·simpa using hhit
    have hlnz:(ln:Int)<(n:Int):=by omega
    have h1:=h1'
    have h0:=h0'
    clear h0' h1'
    have f00:=h0.f 0
    have f01:=h0.f 1
    have f02:=h0.f 2
    have f10:=h1.f 0
    have f11:=h1.f 1
    have f12:=h1.f 2
    have k00:=h0.c0
    have k01:=h0.c1
    have k02:=h0.c2
    have k10:=h1.c0
    have k11:=h1.c1
    have k12:=h1.c2
    rw[<-hln] at k11
    generalize (Qcu bs q s).1=x0 at *
    generalize (Qcu bs q s).2.2=x2 at *
    have HH0:=hid h0
    have HH1:=hid h1
    clear h0 h1 hln
    have HT:=hid (HH1.out.set (e,n,0))
    have HT0:Hid (Tb (Qna W (w.heap.size+1) (e,n,0)) w.heap.size (0,0,0)):=HH1.out.other (by omega) HH0.out
    have HTB:=hid (HH1.out.bel hbel' (by omega) (e,n,0))
    by_cases h258:n=258
    ·have hnz:((n:Int)==258)=true:=by simp;omega
     have HF:Hid (Qb7 bs q=(e,n,0)):=by
      show _=_
      rw[HLT.out,HBF.out,HBt.out]
      rw[HB.out]
      have h1:=Qrv bs q (most bs q) s (q-e)
      have h2:=HM.out
      have h3:(better bs q (most bs q) s (q-e)).2=n:=by rw[better,HN.out,if_pos hhit]
      omega
     have HX:=hid (HT0.out.set (e,n,0))
     have HXB:=hid (HT0.out.bel HTB.out (Nat.le_refl _) (e,n,0))
     clear h258
     go_wp2
     refine bodyPost_ret (results_cell_row (ty:=109) rfl _ _ _ _ _ _ _ rfl HX.out Tryz.underlying109 rfl (by kernel_rfl)) rfl ?_
     exact⟨by rw[HF.out],HXB.out⟩
    ·have hnz:((n:Int)==258)=false:=by simp;omega
     go_wp2
     exact⟨⟨e+1,e,rfl,by omega,by omega,by go_num,HTB.out,HT0.out,by rw[HBt.out];exact HT.out⟩,by simp[intOf];omega⟩
   ·have HBt:Hid (best bs q (most bs q) ((Qbv q).take e)=s):=by
     show _=_
     rw[HB.out,better,if_neg (by rw[HN.out];exact hhit)]
    obtain⟨⟨x0,ln,x2⟩,ht⟩:∃t,Qcu bs q s=t:=⟨_,rfl⟩
    have HTT:=hid ht
    have hlnn:n<4∨n<=ln:=by
     have hln:(Qcu bs q s).2.1=ln:=by rw[ht]
     rw[HZ.out] at hln
     rcases HG.out with ⟨h1,h2⟩ | ⟨h1,h2,h3,h4⟩
     ·left;omega
     ·right;rw[if_neg (by omega)] at hln;simp at hln;omega
    rw[ht] at h1'
    have h1:=h1'
    have h0:=h0'
    clear h0' h1' ht
    have f00:=h0.f 0
    have f01:=h0.f 1
    have f02:=h0.f 2
    have f10:=h1.f 0
    have f11:=h1.f 1
    have f12:=h1.f 2
    have k00:=h0.c0
    have k01:=h0.c1
    have k02:=h0.c2
    have k10:=h1.c0
    have k11:=h1.c1
    have k12:=h1.c2
    have HH0:=hid h0
    have HH1:=hid h1
    clear h0 h1
    dsimp only at k10 k11 k12
    have HX:=hid (HH0.out.set (x0,ln,x2))
    have HXB:=hid (HH0.out.bel hbel' (Nat.le_refl _) (x0,ln,x2))
    by_cases h258:n=258
    ·have HF:Hid (Qb7 bs q=(x0,ln,x2)):=by
      show _=_
      rw[HLT.out,HBF.out,HBt.out,HTT.out]
      rw[HBt.out]
      have h2:=HM.out
      omega
     have hnz:((n:Int)==258)=true:=by simp;omega
     clear h258
     rcases hlnn with hl4 | hln
     ·have hl4z:¬(4:Int)<=(n:Int):=by omega
      go_wp2
      refine bodyPost_ret (results_cell_row (ty:=109) rfl _ _ _ _ _ _ _ rfl HX.out Tryz.underlying109 rfl (by kernel_rfl)) rfl ?_
      exact⟨by rw[HF.out],HXB.out⟩
     ·by_cases hl4:4<=n
      ·have hl4z:(4:Int)<=(n:Int):=by omega
       have hlz:¬(ln:Int)<(n:Int):=by omega
       go_wp2
       refine bodyPost_ret (results_cell_row (ty:=109) rfl _ _ _ _ _ _ _ rfl HX.out Tryz.underlying109 rfl (by kernel_rfl)) rfl ?_
       exact⟨by rw[HF.out],HXB.out⟩
      ·have hl4z:¬(4:Int)<=(n:Int):=by omega
       go_wp2
       refine bodyPost_ret (results_cell_row (ty:=109) rfl _ _ _ _ _ _ _ rfl HX.out Tryz.underlying109 rfl (by kernel_rfl)) rfl ?_
       exact⟨by rw[HF.out],HXB.out⟩
    ·have hnz:((n:Int)==258)=false:=by simp;omega
     rcases hlnn with hl4 | hln
     ·have hl4z:¬(4:Int)<=(n:Int):=by omega
      go_wp2
      exact⟨⟨e+1,e,rfl,by omega,by omega,by go_num,hbel',HH0.out,by rw[HBt.out,HTT.out];exact HH1.out⟩,by simp[intOf];omega⟩
     ·by_cases hl4:4<=n
      ·have hl4z:(4:Int)<=(n:Int):=by omega
       have hlz:¬(ln:Int)<(n:Int):=by omega
       go_wp2
       exact⟨⟨e+1,e,rfl,by omega,by omega,by go_num,hbel',HH0.out,by rw[HBt.out,HTT.out];exact HH1.out⟩,by simp[intOf];omega⟩
      ·have hl4z:¬(4:Int)<=(n:Int):=by omega
       go_wp2
       exact⟨⟨e+1,e,rfl,by omega,by omega,by go_num,hbel',HH0.out,by rw[HBt.out,HTT.out];exact HH1.out⟩,by simp[intOf];omega⟩
  ·have HF:Hid ((Qbv q).take d=Qbv q):=by
    refine List.take_of_length_le ?_
    have:=HE.out
    simp[Qbv];omega
   rw[HF.out] at h1
   obtain⟨⟨x0,x1,x2⟩,ht⟩:∃t,Qcu bs q (best bs q (most bs q) (Qbv q))=t:=⟨_,rfl⟩
   have HTT:=hid ht
   rw[ht] at h1
   clear ht
   have f00:=h0.f 0
   have f01:=h0.f 1
   have f02:=h0.f 2
   have f10:=h1.f 0
   have f11:=h1.f 1
   have f12:=h1.f 2
   have k00:=h0.c0
   have k01:=h0.c1
   have k02:=h0.c2
   have k10:=h1.c0
   have k11:=h1.c1
   have k12:=h1.c2
   dsimp only at k10 k11 k12
   have HX:=hid (h0.set (x0,x1,x2))
   have HXB:=hid (h0.bel hbel (Nat.le_refl _) (x0,x1,x2))
   clear h0 h1
   by_cases hlt1:e<=q
   ·have hz1:(e:Int)<=(q:Int):=by omega
    have hz2:¬(e:Int)<=4096:=by omega
    go_wp2
    refine bodyPost_ret (results_cell_row (ty:=109) rfl _ _ _ _ _ _ _ rfl HX.out Tryz.underlying109 rfl (by kernel_rfl)) rfl ?_
    exact⟨by rw[HLT.out,HTT.out],HXB.out⟩
   ·have hz1:¬(e:Int)<=(q:Int):=by omega
    go_wp2
    refine bodyPost_ret (results_cell_row (ty:=109) rfl _ _ _ _ _ _ _ rfl HX.out Tryz.underlying109 rfl (by kernel_rfl)) rfl ?_
    exact⟨by rw[HLT.out,HTT.out],HXB.out⟩
end
end Go.Proofs.YtibjlbcnapoblaaGreatDoor
