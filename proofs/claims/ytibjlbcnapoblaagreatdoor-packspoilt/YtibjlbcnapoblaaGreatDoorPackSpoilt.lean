/-
 PackSpoilt is proved for every input, as a tied card: blocks of which up to four bytes side by side were turned are refused; no condition but that the tables of package sha start as the text lays them.
-/
import Derived.Test.YtibjlbcnapoblaaGreatDoorPart29
import Derived.Test.YtibjlbcnapoblaaGreatDoorPart30
namespace Go.Proofs.YtibjlbcnapoblaaGreatDoor.packSpoilt
open Go.ChangeShapes Go.WideShapes Go.ChangeAt Go.RowKit Hf Lz
set_option maxHeartbeats 3200000 in
set_option maxRecDepth 100000 in
theorem walk(a:Option Addr)(c0:Nat)(l0:List Int)(z:Int)(_:(Lit.int .i64 z).wf=true)(m0 m1 m2 m3:Int)(w:World)(hL:Sh.Laid w)(hr:Ri w .u8 a c0 l0)(hm:(Lit.int .u8 m0).wf=true∧(Lit.int .u8 m1).wf=true∧(Lit.int .u8 m2).wf=true∧(Lit.int .u8 m3).wf=true):
 Calls Tryz.prog 7 #[.slice a l0.length c0,.int .i64 z,.agg #[.int .u8 m0,.int .u8 m1,.int .u8 m2,.int .u8 m3]] w fun e w'=>e= .returned (.bool true)∧Below w.heap.size w w':=by
 obtain⟨w0,hw0⟩:∃w0,w0=w.alloc (.cells #[.int .u8 m0,.int .u8 m1,.int .u8 m2,.int .u8 m3] 49):=⟨_,rfl⟩
 have hb0:Below w.heap.size w w0:=by rw[hw0];exact bel_alc w _
 have hmk:∀k,k<4->∃y:Int,w0.cell? ⟨w.heap.size,k,none⟩=some (.int .u8 y)∧0<=y∧y<=255:=fun k hk=>by
  have hB:w0.heap[w.heap.size]?=some (.cells #[.int .u8 m0,.int .u8 m1,.int .u8 m2,.int .u8 m3] 49):=by rw[hw0];exact heap_alc w _
  have h1:=Joins.cell_of_block hB k
  match k,hk with
  | 0,_=>exact⟨m0,by simpa using h1,wf_u8 hm.1⟩
  | 1,_=>exact⟨m1,by simpa using h1,wf_u8 hm.2.1⟩
  | 2,_=>exact⟨m2,by simpa using h1,wf_u8 hm.2.2.1⟩
  | 3,_=>exact⟨m3,by simpa using h1,wf_u8 hm.2.2.2⟩
 have HMK:=hid hmk
 have hsz0:w.heap.size<w0.heap.size:=by rw[hw0];simp
 have HW0:=hid hw0
 have C1:=hid (pcut_word a c0 900 l0 w0 (hr.later hb0) (by decide))
 have hn1:(l0.take 900).length<=900:=List.length_take_le _ _
 have r1:=(hr.later hb0).take 900
 generalize l0.take 900=bs at *
 have hL0:=hL.later hb0
 have HAL:Hid (∀V,Below w.heap.size w V->Calls Tryz.prog 15 #[] V fun e w'=>e= .returned (.bool true)∧Below V.heap.size V w'):=fun V hV=>alive_pk V (hL.later hV)
 have HBY:=hid (bytes_pk a c0 bs w0 r1 (by omega) hL0)
 unfold BytPk at HBY
 have HR1:=hid r1
 have HL:=hid hL
 have HB0:=hid hb0
 generalize l0.length=L0 at *
 clear hr hL hL0 hb0 hw0 hm hmk
 cases hq:isC bs.length with
 | false=>
   rw[hq] at HBY
   generalize bs.length=L at *
   clear hq r1
   go_enter Tryz.func7,Tryz.ntmps7
   go_wp2_with fail
   rw[<-HW0.out]
   refine C1.out.mono ?_
   rintro _ w9 ⟨rfl,hw⟩
   obtain rfl:=hw.symm
   clear hw C1
   go_wp2_with fail
   refine HBY.out.mono ?_
   rintro _ W1 ⟨hb1,⟨_,rfl⟩ | ⟨h,_⟩⟩
   ·have HB1:=hid (Bn HB0.out hb1)
    clear hb1 HBY
    have HA9:=hid (HAL.out W1 HB1.out)
    clear HAL
    go_wp2_with fail
    refine HA9.out.mono ?_
    rintro _ W9 ⟨rfl,hb9⟩
    have HB9:=hid (Bn HB1.out hb9)
    clear hb9 HA9
    go_wp2_with fail
    go_ret
    exact⟨rfl,HB9.out⟩
   ·cases h
 | true=>
   have hrg:=isC_rng hq
   have h8:Bytes8 bs:=r1.fits
   have hel:=enc_len bs (by omega)
   have hpl:=pak_len bs
   have hpb:(pakB bs).length<=5000:=by rw[hpl];unfold blkN;omega
   have HRD:=hid (red_pak bs h8 hq [])
   rw[List.append_nil] at HRD
   have HP8:=hid (pak_u8 bs h8 (by omega))
   have HSP:=hid (fun x hl hx t ht ho hr=>spoilt bs x h8 hq hl hx (fun j=>wf_u8 (HP8.out j)) t ht ho hr)
   rw[hq] at HBY
   obtain⟨P,hP⟩:∃P,P=pakB bs:=⟨_,rfl⟩
   rw[<-hP] at HBY HRD HP8 HSP hpb
   obtain⟨PL,hPL⟩:∃PL,PL=P.length:=⟨_,rfl⟩
   have HPL:=hid hPL
   obtain⟨L,hLe⟩:∃L,L=bs.length:=⟨_,rfl⟩
   have HLE:=hid hLe
   rw[<-hPL] at hpb HSP
   rw[<-hLe] at C1 HBY hn1
   clear hq hrg h8 r1 hel hP hPL hLe hpl
   go_enter Tryz.func7,Tryz.ntmps7
   go_wp2_with fail
   rw[<-HW0.out]
   refine C1.out.mono ?_
   rintro _ w9 ⟨rfl,hw⟩
   obtain rfl:=hw.symm
   clear hw C1
   go_wp2_with fail
   refine HBY.out.mono ?_
   rintro _ W1 ⟨hb1,⟨h,_⟩ | ⟨_,v,rfl,ho⟩⟩
   ·cases h
   obtain⟨a1,c1,rfl,hr1⟩:=Ri.own ho HP8.out
   have HB1:=hid (Bn HB0.out hb1)
   have HB01:=hid hb1
   have HI1:=hid hr1
   rw[<-HPL.out]
   clear hb1 ho hr1 HBY
   by_cases g0:z<0
   ·clear HSP HRD
    have HA9:=hid (HAL.out W1 HB1.out)
    clear HAL
    go_wp2_with fail
    refine HA9.out.mono ?_
    rintro _ W9 ⟨rfl,hb9⟩
    have HB9:=hid (Bn HB1.out hb9)
    clear hb9 HA9
    go_wp2_with fail
    go_ret
    exact⟨rfl,HB9.out⟩
   by_cases g1:(PL:Int)<=z
   ·clear HSP HRD
    have HA9:=hid (HAL.out W1 HB1.out)
    clear HAL
    go_wp2_with fail
    refine HA9.out.mono ?_
    rintro _ W9 ⟨rfl,hb9⟩
    have HB9:=hid (Bn HB1.out hb9)
    clear hb9 HA9
    go_wp2_with fail
    go_ret
    exact⟨rfl,HB9.out⟩
   by_cases g2:2<z∧z<8
   ·obtain⟨g2,g3⟩:=g2
    clear HSP HRD
    have HA9:=hid (HAL.out W1 HB1.out)
    clear HAL
    go_wp2_with fail
    refine HA9.out.mono ?_
    rintro _ W9 ⟨rfl,hb9⟩
    have HB9:=hid (Bn HB1.out hb9)
    clear hb9 HA9
    go_wp2_with fail
    go_ret
    exact⟨rfl,HB9.out⟩
   by_cases g3:40<z∧z<44
   ·obtain⟨g3,g4⟩:=g3
    have g5:2<z:=by omega
    have g6:¬z<8:=by omega
    clear HSP HRD g2
    have HA9:=hid (HAL.out W1 HB1.out)
    clear HAL
    go_wp2_with fail
    refine HA9.out.mono ?_
    rintro _ W9 ⟨rfl,hb9⟩
    have HB9:=hid (Bn HB1.out hb9)
    clear hb9 HA9
    go_wp2_with fail
    go_ret
    exact⟨rfl,HB9.out⟩
   have hw3:(¬2<z∧¬40<z)∨(2<z∧¬z<8∧¬40<z)∨(2<z∧¬z<8∧40<z∧¬z<44):=by omega
   have HAT:Hid (z.toNat<=2∨(8<=z.toNat∧z.toNat<=40)∨44<=z.toNat):=by show _∨_;omega
   have HZ:Hid (z=((z.toNat:Nat):Int)):=by show _=_;omega
   have hzl:z.toNat<PL:=by omega
   obtain⟨t,ht⟩:∃t,t=z.toNat:=⟨_,rfl⟩
   rw[<-ht] at HAT HZ hzl
   clear g2 g3 ht
   have O1:=hid (own_none W1)
   have A1:=hid (HI1.out.later (bel_alc W1 (.cells #[] 5)))
   have S1:Hid (W1.heap.size<=(W1.alloc (.cells #[] 5)).heap.size):=(bel_alc W1 _).size
   have N1:Hid (([]:List Int).length+P.length<=1000000):=by show _<=_;rw[<-HPL.out];simp;omega
   have V1:=hid (bel_alc W1 (.cells #[] 5))
   rcases hw3 with ⟨g2,g3⟩ | ⟨g2,g3,g4⟩ | ⟨g2,g3,g4,g5⟩
   all_goals
    go_wp2_with (at_builtin;refine own_app _ rfl _ _ rfl W1.heap.size _ [] rfl O1.out a1 c1 P (by rw[<-HPL.out];rfl) A1.out N1.out S1.out ?_)
    intro v2 W2 ho2 hb2
    have ho2':W2.ownsRow W1.heap.size 5 1 v2 PL (P.map (Value.int .u8)):=by rw[HPL.out];simpa using ho2
    have V2:=hid (V1.out.trans hb2)
    obtain⟨g,cp,rfl,hgw,hgc⟩:=own_some ho2' (by omega)
    have O2:=hid ho2'
    have HGC:=hid hgc
    have HGW:=hid hgw
    clear ho2 ho2' hb2 O1 A1 S1 N1 V1 hgw hgc
    try clear g2
    try clear g3
    try clear g4
    try clear g5
    obtain⟨r,hr⟩:∃r:Nat,r=PL-t:=⟨_,rfl⟩
    have hri:(PL:Int)-z=(r:Int):=by have:=HZ.out;omega
    have hrt:t+r=PL:=by omega
    clear hr
    go_wp2_with fail
    go_loopw [10] (fun i wr=>∃(k:Nat) (M:List Int),i= .int .i64 (k:Int)∧k<=4∧k<=r∧Hid (M.length=PL)∧Hid (∀j,¬(t<=j∧j<t+k)->M.getD j 0=P.getD j 0)∧Hid (∀j,(Lit.int .u8 (M.getD j 0)).wf=true)∧Hid (wr.ownsRow W1.heap.size 5 1 (.slice (some ⟨g,0,none⟩) PL cp) PL (M.map (Value.int .u8)))∧Hid (Below W1.heap.size W1 wr)) (fun i _=>4-(intOf i).toNat)
    case atStart=>exact⟨0,P,rfl,by omega,by omega,HPL.out.symm,fun j _=>rfl,HP8.out,O2.out,V2.out⟩
    case round=>
     clear O2 V2
     obtain⟨k,M,rfl,hk4,hkr,HM,HMJ,HM8,HO,HB⟩:=hrel
     by_cases hgo:k<4∧k<r
     ·obtain⟨hg1,hg2⟩:=hgo
      have g7:(k:Int)<4:=by omega
      have g8:(k:Int)<(r:Int):=by omega
      obtain⟨q,hq⟩:∃q:Nat,q=t+k:=⟨_,rfl⟩
      have hqi:z+(k:Int)=(q:Int):=by have:=HZ.out;omega
      have hqP:q<PL:=by omega
      have hqz:(q:Int)<(PL:Int):=by omega
      obtain⟨y,hy,hy0,hy1⟩:=HMK.out k hg1
      have cy:=(HB.out.cell (p:=⟨w.heap.size,k,none⟩) (by have:=HB01.out.size;show w.heap.size<W1.heap.size;omega)).trans ((HB01.out.cell (p:=⟨w.heap.size,k,none⟩) hsz0).trans hy)
      have hcq:M[q]?=some (M.getD q 0):=by
       have:q<M.length:=by rw[HM.out];exact hqP
       simp[List.getD,List.getElem?_eq_getElem this]
      have cc:=HO.out.cellAt q (by omega)
      rw[List.getElem?_map,hcq] at cc
      simp only[Option.map_some] at cc
      have ff:=HO.out.frozenAt q
      have hx8:=wf_u8 (HM8.out q)
      have hxr:=xor8 (M.getD q 0) y hx8.1 hx8.2 hy0 hy1
      generalize M.getD q 0=x at *
      generalize hX:bits .xor .u8 x y=X at *
      have HMS:Hid (∀j,¬(t<=j∧j<t+(k+1))->(M.set q X).getD j 0=P.getD j 0):=fun j hj=>by
       rw[set_get M q j X (by rw[HM.out];exact hqP),if_neg (by omega)]
       exact HMJ.out j (by omega)
      have HM82:Hid (∀j,(Lit.int .u8 ((M.set q X).getD j 0)).wf=true):=fun j=>by
       rw[set_get M q j X (by rw[HM.out];exact hqP)]
       split
       ·exact wf_mk_u8 hxr.1 hxr.2
       ·exact HM8.out j
      have HML:Hid ((M.set q X).length=PL):=by show _=_;rw[List.length_set];exact HM.out
      have hst:=HO.out.stored q (.int .u8 X)
      rw[<-List.map_set] at hst
      have HOS:=hid hst.1
      have HBS:=hid (HB.out.grown hst.2 HB.out.size (fun j hj=>by injection hj with hj;subst hj;exact HGW.out))
      clear hst HO HMJ HM8 HM hcq hy hq hg1 hg2 hxr hx8
      have hmo:Tryz.prog.follows .mixedOrders=true:=by kernel_rfl
      have hwr:IntKind.i64.wrap (z+(k:Int))=(q:Int):=by rw[hqi,IntKind.wrap_i64];omega
      have hwr2:wrap64 (z+(k:Int))=(q:Int):=by rw[hqi,wrap64_id (by omega) (by omega)]
      have hq0:(0:Int)<=(q:Int):=by omega
      clear hqi
      go_wp2_with fail
      go_still_tail 15,hmo
      change wpList _ _ _ _ _ wr.drew
      go_wp2_with fail
      exact⟨⟨k+1,M.set q X,by go_num,by omega,by omega,HML,HMS,HM82,HOS.out.drew,HBS.out.drew⟩,by simp[intOf];omega⟩
     ·have hend:∀j,¬(t<=j∧j<t+4)->M.getD j 0=P.getD j 0:=fun j hj=>by
       by_cases h9:t+k<=j∧j<t+4
       ·have:k=r:=by omega
        have e1:M.length<=j:=by rw[HM.out];omega
        have e2:P.length<=j:=by rw[<-HPL.out];omega
        simp[List.getD,List.getElem?_eq_none e1,List.getElem?_eq_none e2]
       ·exact HMJ.out j (by omega)
      have ho:=HO.out
      have hq9:PL=M.length:=HM.out.symm
      rw[hq9] at ho
      obtain⟨a3,c3,e3,hr3⟩:=Ri.own ho HM8.out
      injection e3 with e4 e5 e6
      subst e4 e6
      have HR3:=hid hr3
      have HBW:=hid (Bn HB1.out HB.out)
      have HRE:=hid (read_pk _ _ M wr hr3 (by rw[HM.out];omega) (HL.out.later HBW.out))
      unfold RedPost at HRE
      have HRZ:Hid ((redO M).1=0->M=P):=fun h=>HSP.out M HM.out (fun j=>wf_u8 (HM8.out j)) t HAT.out hend h
      have HT3:Hid (∀V,Below wr.heap.size wr V->(convert 22 9 (.slice (some ⟨g,0,none⟩) PL cp)).run Tryz.prog V= .ok (.string (strOfNums M)) V):=fun V hV=>by have:=hr3.text V hV;rw[HM.out] at this;exact this
      have HT1:Hid (∀V,Below W1.heap.size W1 V->(convert 22 9 (.slice a1 PL c1)).run Tryz.prog V= .ok (.string (strOfNums P)) V):=fun V hV=>by have:=HI1.out.text V hV;rw[<-HPL.out] at this;exact this
      have HSE:=hid (str_eq HM8.out HP8.out)
      rw[HM.out] at HRE
      clear hend ho e5 hr3 HM8 HSP HMJ hq9
      have hx1:¬(k<4∧k<r):=hgo
      have hx2:(¬(k:Int)<4)∨((k:Int)<4∧¬(k:Int)<(r:Int)):=by omega
      clear hgo hx1
      rcases hx2 with g7 | ⟨g7,g8⟩
      all_goals
       go_wp2_with fail
       refine HRE.out.mono ?_
       rintro _ W4 ⟨hb4,hpost⟩
       have V4:=hid (Bn HB.out hb4)
       have t3:=HT3.out W4 hb4
       have t1:=HT1.out W4 V4.out
       have HB4:=hid (Bn HB1.out V4.out)
       have HA4:=hid (HAL.out W4 HB4.out)
       clear hb4 HRE HT3 HT1
       by_cases hMP:M=P
       ·rw[hMP,HRD.out] at hpost
        rcases hpost with ⟨h,_⟩ | ⟨_,a4,c4,rfl,hr4⟩
        ·exact absurd rfl h
        have t4:=hr4.text W4 (Below.refl _ _)
        have t5:=HR1.out.text W4 (Bn HB01.out V4.out)
        rw[hMP] at t3
        dsimp only at t4 t5|-
        rw[<-HLE.out] at t4 t5|-
        clear hr4 HSE HRD hMP HRZ
        generalize strOfNums P=s1 at *
        generalize strOfNums bs=s2 at *
        have e1:(s1.toList==s1.toList)=true:=by simp
        have e2:(s2.toList==s2.toList)=true:=by simp
        go_wp2_with fail
        refine HA4.out.mono ?_
        rintro _ W5 ⟨rfl,hb5⟩
        have HB5:=hid (Bn HB4.out hb5)
        clear hb5 HA4 t1 t3 t4 t5
        go_wp2_with fail
        go_ret
        exact⟨rfl,HB5.out⟩
       ·rcases hpost with ⟨hne,rfl⟩ | ⟨h,_⟩
        ·rw[beq_eq_false_iff_ne.2 hMP] at HSE
         have gn:((redO M).1 != 0)=true:=by rw[bne_iff_ne];exact hne
         clear hne hMP HRZ HRD
         generalize (redO M).1=rr at *
         generalize strOfNums M=s1 at *
         generalize strOfNums P=s2 at *
         have e1:(s1.toList==s2.toList)=false:=HSE.out
         have e2:¬s1.toList=s2.toList:=beq_eq_false_iff_ne.1 e1
         go_wp2_with fail
         refine HA4.out.mono ?_
         rintro _ W5 ⟨rfl,hb5⟩
         have HB5:=hid (Bn HB4.out hb5)
         clear hb5 HA4 t1 t3
         go_wp2_with fail
         go_ret
         exact⟨rfl,HB5.out⟩
        ·exact absurd (HRZ.out h) hMP
set_option maxRecDepth 100000 in
theorem lifted(os:Os)(started:os.Started)(H:Type)(enc:TypeId×Value->H):
 ReturnsInHanded {} Tryz.checked os 7 .any (fun w args=>(Rows.packSpoiltSpec.pre enc Tryz.prog Tryz.f7 [] false w args∧laidMetH Tryz.prog laidL w)∧sizedMet enc Tryz.prog Tryz.f7 (OpenSpec.ofChange Rows.packSpoiltSpec) false w args)
  (Rows.packSpoiltSpec.post enc Tryz.prog Tryz.f7 false true false false):=by
 refine returnsInHanded_of_change_and (C:=Tryz.checked) (X:=fun w _=>laidMetH Tryz.prog laidL w) (fun _ _ _ hh h=>h.of_heap hh) own started (by kernel_rfl) Tryz.func7
  (ChangeSpec.witness_shaped (enc:=enc) (C:=Tryz.checked) (os:=os) (X:=fun w _=>laidMetH Tryz.prog laidL w) false (World.doorLaid Tryz.prog 400 os) #[.slice none 0 0,.int .i64 0,.agg #[.int .u8 0,.int .u8 0,.int .u8 0,.int .u8 0]] 8 rfl (World.shaped_of_RefB (by kernel_rfl) (by kernel_rfl)) (by kernel_rfl) (by kernel_rfl) (by kernel_rfl) (door_met os _)) ?_
 intro W base args ds gs before hval0 hW _ _ hL _
 have hval:∀(j:Nat) t v,Tryz.f7.params[j]?=some t->args[j]?=some v->Value.okWide Tryz.prog W .any base t v:=hval0
 have hW':=hW
 obtain⟨p,q,hA0,hV,rfl,_,_⟩:=hW
 have hA:DataW.TrodAll enc Tryz.prog W 0 (fun _=>true) true Tryz.f7.params.toList args.toList ds p:=hA0
 rw[Tryz.params7] at hA hval
 obtain⟨v0,vs0,d0,ds0,p0,q0,hargs,rfl,rfl,h0,r0⟩:=trodAll_cons hA
 obtain⟨v1,vs1,d1,ds1,p1,q1,rfl,rfl,rfl,h1,r1⟩:=trodAll_cons r0
 obtain⟨v2,vs2,d2,ds2,p2,q2,rfl,rfl,rfl,h2,r2⟩:=trodAll_cons r1
 obtain⟨rfl,rfl,rfl⟩:=trodAll_nil r2
 obtain rfl:args= #[v0,v1,v2]:=by cases args;simp_all
 obtain⟨rfl,rfl⟩:=trodVars_none hV
 have hlaid:=of_laid hL
 obtain⟨a1,rfl,rfl,rfl,w1⟩:=open_int Tryz.underlying3 (hval 1 3 v1 rfl rfl) h1
 clear hA0
 simp only[List.append_nil,List.nil_append] at hW'
 have hlt0:∀x∈p0,x.block<W.heap.size:=fun x hx=>hW'.lt x (by simp[hx])
 have hk0:=h0
 obtain⟨a0,cap0,l0,rfl,hr0⟩:=open_ri Tryz.underlying22 Tryz.underlying5 Tryz.cells5 (hval 0 22 v0 rfl rfl) h0 hlt0
 have hlt2:∀x∈p2,x.block<W.heap.size:=fun x hx=>hW'.lt x (by simp[hx])
 have hk2:=h2
 obtain⟨x2,y2,z2,u2,rfl,hr2⟩:=open_four (hval 2 49 v2 rfl rfl) h2
 clear hval0
 refine(walk a0 cap0 l0 a1 w1 x2 y2 z2 u2 W hlaid hr0 hr2).mono fun e W' ⟨he,hb⟩=>?_
 subst he
 exact⟨_,rfl,_,_,_,[]++ [],_,[],hW',trodAll_cons_mk (shut_bool Tryz.underlying4 _) trodAll_mk0,(trodAll_cons_mk (Below.trod Tryz.laidOut (by kernel_rfl) (of_decide_eq_true (by kernel_rfl)) hk0 hb hlt0) (trodAll_cons_mk (shut_int Tryz.underlying3 w1) (trodAll_cons_mk (Below.trod Tryz.laidOut (by kernel_rfl) (of_decide_eq_true (by kernel_rfl)) hk2 hb hlt2) trodAll_mk0))),rfl,hb.frame _,fun h=>by cases h⟩
theorem over:Rows.packSpoiltRow.holds Tryz.pinned (OpenSpec.ofChange Rows.packSpoiltSpec):=
 OpenClaim.holds_of_wide 7 Tryz.f7 rfl rfl rfl rfl rfl rfl rfl ⟨rfl,rfl,rfl,rfl,rfl⟩ rfl rfl rfl rfl rfl (by kernel_rfl) Tryz.func7 (by kernel_rfl)
  (of_decide_eq_true (by kernel_rfl)) (by unfold Func.isWrapper;first | (rw[if_pos (by decide +kernel)];kernel_rfl) | (rw[if_neg (by decide +kernel)];exact⟨rfl,rfl⟩))
  (fun os started H enc _=>lifted os started H enc)
theorem card:Rows.PackSpoiltCardSaid:=
 Claim7.holds_tied_plain_at .later [] [.data,.data] true (true, "633fa4ac238961f8ea75229e9571942cafb5f99988f42aab7627898757faa6c6") true
  over (fun _ h=>by cases h) (by kernel_rfl) (fun _ h=>by cases h) packSpoilt_row_tie rfl ⟨rfl,rfl⟩ (by kernel_rfl) rfl
  (fun f fn hf hfn=>by
   obtain rfl:f=7:=Option.some.inj ((show Tryz.prog.funcNamed "saltern/salternlaw11.PackSpoilt" = some 7 by kernel_rfl).symm.trans hf) |>.symm
   obtain rfl:fn=Tryz.f7:=(Option.some.inj (Tryz.func7.symm.trans hfn)).symm
   exact⟨by kernel_rfl,fun j t ht=>by
    rw[Tryz.params7] at ht
    have hm:t ∈ [22,3,49]:=by simpa using Array.mem_of_getElem? ht
    have hall:([22,3,49].all fun u=> !Tryz.prog.wantsStandIn u)=true:=by kernel_rfl
    exact(show Tryz.prog.wantsStandIn t=false by simpa using List.all_eq_true.1 hall t hm)⟩)
  (by kernel_rfl)
end Go.Proofs.YtibjlbcnapoblaaGreatDoor.packSpoilt
namespace Go.Proofs.YtibjlbcnapoblaaGreatDoor
theorem packSpoilt_holds:Rows.PackSpoiltCardSaid:=packSpoilt.card
#print axioms packSpoilt_holds
end Go.Proofs.YtibjlbcnapoblaaGreatDoor
