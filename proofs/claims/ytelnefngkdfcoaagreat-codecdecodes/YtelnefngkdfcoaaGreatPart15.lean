/-
 The contract of huff's depths.
-/
import Derived.Test.YtelnefngkdfcoaaGreatPart14
import Derived.Test.YtelnefngkdfcoaaGreatPart02
import Derived.Test.YtelnefngkdfcoaaGreatPart09
import Derived.Lib.SliceRun
import Derived.Test.YtelnefngkdfcoaaGreatPart01
namespace Go.Proofs.YtelnefngkdfcoaaGreat
open Go.RowKit Hf
theorem own_later{w w':World}{B e size n:Nat}{v:Value}{xs:List Value}(h:w.ownsRow B e size v n xs)(hb:Below w.heap.size w w'):w'.ownsRow B e size v n xs:=by
 refine⟨h.1,?_⟩
 rcases h.2 with h1 | ⟨g,cap,cur,hv,hg,hh,hr⟩
 ·exact Or.inl h1
 ·exact Or.inr ⟨g,cap,cur,hv,hg,(hb.block g (Array.getElem?_eq_some_iff.1 hh).1).trans hh,hr⟩
theorem own_put{w:World}{B e n cap g k:Nat}{X:List Int}(h:w.ownsRow B e 1 (.slice (some ⟨g,0,none⟩) n cap) n (X.map (Value.int .i64)))(x:Int):(w.setCell ⟨g,k,none⟩ (.int .i64 x)).ownsRow B e 1 (.slice (some ⟨g,0,none⟩) n cap) n ((X.set k x).map (Value.int .i64)):=by
 have:=(h.stored k (.int .i64 x)).1
 rwa[<-List.map_set] at this
theorem wsOf_rng(cs:List Int)(hc:∀k,0<=cs.getD k 0∧cs.getD k 0<=1073741824)(sy:List Int):∀i,0<=(wsOf cs sy).getD i 0∧(wsOf cs sy).getD i 0<=1073741824:=by
 intro i
 by_cases hi:i<sy.length
 ·rw[wsOf_getD cs sy i hi];exact hc _
 ·have:(wsOf cs sy)[i]?=none:=List.getElem?_eq_none (by simp[wsOf];omega)
  simp[List.getD,this]
theorem srt_inj(cs:List Int)(p:Nat)(hp:p<(srt cs).length):∃u:Nat,(srt cs).getD p 0=(u:Int)∧u<cs.length:=by
 have:=srt_mem cs _ (getD_mem (srt cs) p hp)
 exact⟨((srt cs).getD p 0).toNat,by omega,by omega⟩
set_option maxHeartbeats 3200000 in
set_option maxRecDepth 100000 in
theorem depths_word(a:Option Addr)(cap:Nat)(cs:List Int)(w:World)(hr:Ri w .i64 a cap cs)(hn:cs.length<=512)(hc:∀k,0<=cs.getD k 0∧cs.getD k 0<=1073741824)(hm:(nz cs cs.length).length<=mostS):
 Calls Tryz.prog 90 #[.slice a cs.length cap] w fun e w'=>∃v,e= .returned v∧w'.ownsRow w.heap.size 3 1 v (depthsL cs).length ((depthsL cs).map (Value.int .i64))∧Below w.heap.size w w':=by
 obtain⟨i0,hi,hz0,hz1,hz2⟩:=info_parts Tryz.info3'
 have HBC:Hid (∀W,Below w.heap.size w W->Calls Tryz.prog 112 #[.slice a cs.length cap] W fun e w'=>∃v,e= .returned v∧w'.ownsRow W.heap.size 3 1 v (srt cs).length ((srt cs).map (Value.int .i64))∧Below W.heap.size W w'):=fun W hW=>byCount_word a cap cs W (hr.later hW) (by omega) hm
 have hsl:(srt cs).length<=512:=by have h1:=srt_len cs;have h2:=nz_len cs cs.length;omega
 have HTR:Hid (∀(W:World) (ay:Option Addr) (cy:Nat),Below w.heap.size w W->Ri W .i64 ay cy (srt cs)->Calls Tryz.prog 113 #[.slice ay (srt cs).length cy,.slice a cs.length cap] W fun e w'=>∃v,e= .returned v∧w'.ownsRow W.heap.size 180 2 v (treeT (wsOf cs (srt cs)) ((srt cs).length-1)).N.length ((flatN (treeT (wsOf cs (srt cs)) ((srt cs).length-1)).N).map (Value.int .i64))∧Below W.heap.size W w'):=fun W ay cy hW hy=>
  tree_word ay cy (srt cs) a cap cs W hy (hr.later hW) hsl (by omega) (fun u hu=>by have:=srt_mem cs u hu;omega) (wsOf_rng cs hc (srt cs))
 have HSF:Hid (∀j,(Lit.int .i64 ((srt cs).getD j 0)).wf=true):=fun j=>by
  by_cases hj:j<(srt cs).length
  ·obtain⟨u,hu,hul⟩:=srt_inj cs j hj
   rw[hu];exact wf_mk_i64 (by omega) (by omega)
  ·rw[getD_out _ _ (by omega)];exact wf_zero _
 have HSI:=hid (srt_inj cs)
 have HD1:Hid ((srt cs).length=1->depthsL cs=(List.replicate cs.length 0).set ((srt cs).getD 0 0).toNat 1):=fun h=>by unfold depthsL;rw[if_pos h]
 have HD2:Hid ((srt cs).length≠1->depthsL cs=outL cs.length (srt cs) (belowL (treeT (wsOf cs (srt cs)) ((srt cs).length-1)).N 0) (srt cs).length):=fun h=>by unfold depthsL wsOf;rw[if_neg h]
 have HUP:Hid (2<=(srt cs).length->Ups (treeT (wsOf cs (srt cs)) ((srt cs).length-1)).N∧(treeT (wsOf cs (srt cs)) ((srt cs).length-1)).N.length=2*(srt cs).length-1):=fun h=>by
  have e:(wsOf cs (srt cs)).length=(srt cs).length:=by simp[wsOf]
  have:=tree_ups (wsOf cs (srt cs)) (fun i=>(wsOf_rng cs hc (srt cs) i).1) (by rw[e];exact h)
  rwa[e] at this
 have HN0:Hid ((srt cs).length=0->(treeT (wsOf cs (srt cs)) ((srt cs).length-1)).N.length=0):=fun h=>by
  rw[h]
  have:srt cs= []:=List.length_eq_zero_iff.1 h
  rw[this];rfl
 obtain⟨len,hl⟩:∃n,n=cs.length:=⟨_,rfl⟩
 have HL:=hid hl
 rw[<-hl] at hn HBC HTR HSI HD1 HD2|-
 obtain⟨sy,hsy⟩:∃l,l=srt cs:=⟨_,rfl⟩
 rw[<-hsy] at HBC HTR HSF HSI HD1 HD2 HUP HN0 hsl
 generalize (treeT (wsOf cs sy) (sy.length-1)).N=N at *
 clear hr hl hsy hc hm
 go_enter Tryz.func90,Tryz.ntmps90
 go_wp2_with (first
  | (at_make;refine wpList_make_full _ rfl _ _ 51 rfl w.heap.size 3 i0 (.int .i64 0) 1 Tryz.underlying51 hi hz0 hz1 .i64 .i64 _ _ len rfl rfl (by first | rfl | omega) (by first | rfl | omega) ?b2 ?b3 ?b4 ?_))
 case b2=>rw[hz2];omega
 case b3=>unfold maxLen;omega
 case b4=>exact Nat.le_refl _
 intro w1 hown0 hgrow
 have HB1:Hid (Below w.heap.size w w1):=(Below.refl _ _).grown hgrow (Nat.le_refl _) (fun k hk=>by cases hk)
 have hown1:w1.ownsRow w.heap.size 3 1 (.slice (some ⟨w.heap.size,0,none⟩) len len) len ((List.replicate len (0:Int)).map (Value.int .i64)):=by
  rw[toList_madeCells_one] at hown0
  simpa using hown0
 have h1l:=(hown1.lt w.heap.size rfl).2
 have HO1:=hid hown1
 clear hgrow hown0 hown1
 obtain⟨gd,hgd⟩:∃g,g=w.heap.size:=⟨_,rfl⟩
 rw[<-hgd] at HO1 h1l
 rw[<-hgd]
 have HGD:Hid (w.heap.size=gd):=hgd.symm
 have hgdw:w.heap.size<=gd:=by omega
 clear hgd
 go_wp2_with fail
 refine(HBC.out w1 HB1.out).mono ?_
 rintro _ w2 ⟨vs,rfl,hownS,hb2⟩
 obtain⟨ay,cy,rfl,hry⟩:=Ri.own hownS HSF.out
 have HB2:=hid (Bn HB1.out hb2)
 have HO2:=hid (own_later HO1.out hb2)
 have HRY:=hid hry
 have h2l:=hb2.size
 have HAY:Hid (∀b o,ay=some ⟨b,o,none⟩->w1.heap.size<=b∧b<w2.heap.size):=fun b o hb=>by
  subst hb
  exact hownS.lt b rfl
 clear hownS hb2 hry HBC HO1
 by_cases h1:sy.length=1
 ·obtain⟨u,hu,hul⟩:=HSI.out 0 (by omega)
  obtain⟨bs,os,rfl,hbs,hcs⟩:=HRY.out.cells (by omega)
  have c0:=hcs 0 (by omega)
  rw[hu,Nat.add_zero] at c0
  have c1:=own_cell HO2.out (by simp) u hul
  have f1:=HO2.out.frozenAt u
  have HP:=hid (own_put (k:=u) HO2.out 1)
  have HE:Hid (depthsL cs=(List.replicate len 0).set u 1):=by
   show _=_
   rw[HD1.out h1,hu,Int.toNat_natCast]
  have HB3:=hid (HB2.out.setCell (show w.heap.size<=(Addr.mk gd u none).block from hgdw) (.int .i64 1))
  have hulz:(u:Int)<(len:Int):=by omega
  rw[h1]
  clear hcs hu HO2
  generalize (List.replicate len (0:Int)).getD u 0=z at *
  go_wp2
  go_ret
  exact⟨_,rfl,by rw[HE.out,List.length_set,List.length_replicate,HGD.out];exact HP.out,HB3.out⟩
 ·have HE:=hid (HD2.out h1)
  have h1b:((sy.length:Int)==1)=false:=by simp;omega
  have HT3:=hid (HTR.out w2 ay cy HB2.out HRY.out)
  clear HTR HD1 HD2
  obtain⟨ns,hns⟩:∃n,n=sy.length:=⟨_,rfl⟩
  have HNS:=hid hns
  rw[<-hns] at h1b HT3 HUP hsl HE HSI HN0 h1
  rw[<-hns]
  clear hns
  go_wp2_with fail
  refine HT3.out.mono ?_
  rintro _ w3 ⟨vn,rfl,hownN,hb3⟩
  have hNL:N.length<=1024:=by
   by_cases h2:2<=ns
   ·have:=(HUP.out h2).2;omega
   ·have:=HN0.out (by omega);omega
  obtain⟨LN,hLN⟩:∃n,n=N.length:=⟨_,rfl⟩
  have HLN:=hid hLN
  have HON:=hid hownN
  have HB3:=hid (Bn HB2.out hb3)
  have HO3:=hid (own_later HO2.out hb3)
  have HRY3:=hid (HRY.out.later hb3)
  have h3l:=hb3.size
  obtain⟨an,mn,cn,rfl,hmn⟩:∃an mn cn,vn= .slice an mn cn∧mn=LN:=by
   rcases hownN.2 with ⟨h1,h2⟩ | ⟨g,cp,_,h1,_⟩
   ·exact⟨none,0,0,h1,by omega⟩
   ·exact⟨_,_,cp,h1,hLN.symm⟩
  subst hmn
  rw[<-hLN] at hNL
  clear hownN hb3 HO2 HRY HT3 hLN
  go_wp2_with (first
   | (at_make;refine wpList_make_full _ rfl _ _ 51 rfl w3.heap.size 3 i0 (.int .i64 0) 1 Tryz.underlying51 hi hz0 hz1 .i64 .i64 _ _ mn rfl rfl (by first | rfl | omega) (by first | rfl | omega) ?b2 ?b3 ?b4 ?_))
  case b2=>rw[hz2];omega
  case b3=>unfold maxLen;omega
  case b4=>exact Nat.le_refl _
  intro w4 hown4 hgrow
  have hb4:Below w3.heap.size w3 w4:=(Below.refl _ _).grown hgrow (Nat.le_refl _) (fun k hk=>by cases hk)
  have hob:w4.ownsRow w3.heap.size 3 1 (.slice (some ⟨w3.heap.size,0,none⟩) mn mn) mn ((belowL N (mn-1)).map (Value.int .i64)):=by
   rw[belowL_start N (mn-1) (by rw[<-HLN.out];omega),<-HLN.out]
   rw[toList_madeCells_one] at hown4
   simpa using hown4
  obtain⟨gb,hgb⟩:∃g,g=w3.heap.size:=⟨_,rfl⟩
  rw[<-hgb] at hob h3l
  rw[<-hgb]
  have HOB:=hid hob
  have HB4:=hid (Bn HB3.out hb4)
  have HO4:=hid (own_later HO3.out hb4)
  have HON4:=hid (own_later HON.out hb4)
  have HRY4:=hid (HRY3.out.later hb4)
  have hgdb:gd≠gb:=by omega
  have hgwb:w.heap.size<=gb:=by omega
  have hownNl:=fun k (hk:(Value.slice an mn cn).ownBlock=some k)=>(HON.out.lt k hk).2
  have HNB:Hid (∀k,(Value.slice an mn cn).ownBlock=some k->k≠gb):=fun k hk=>by have:=hownNl k hk;omega
  have HGB:Hid (w3.heap.size=gb):=hgb.symm
  have HONl:Hid (∀k,(Value.slice an mn cn).ownBlock=some k->k<w3.heap.size):=fun k hk=>(HON.out.lt k hk).2
  clear hown4 hgrow hb4 hob HB3 HO3 HON HRY3 hownNl hgb HNB
  go_wp2
  go_loopw [7] (fun y wr=>∃z:Int,y= .int .i64 z∧ -2<=z∧z+2<=(mn:Int)∧wr.ownsRow gb 3 1 (.slice (some ⟨gb,0,none⟩) mn mn) mn ((belowL N (z+1).toNat).map (Value.int .i64))∧Below gb w4 wr) (fun y _=>(intOf y+2).toNat)
  case atStart=>exact⟨(mn:Int)-2,rfl,by omega,by omega,by rw[show((mn:Int)-2+1).toNat=mn-1 from by omega];exact HOB.out,Below.refl _ _⟩
  case round=>
   obtain⟨z,rfl,hz1',hz2',hrow,hbel⟩:=hrel
   by_cases hz:0<=z
   ·obtain⟨j,rfl⟩:∃j:Nat,z=(j:Int):=⟨z.toNat,by omega⟩
    have hns2:2<=ns:=by
     by_cases h2:2<=ns
     ·exact h2
     ·have:=HN0.out (by omega)
      have:=HLN.out
      omega
    have hu:=(HUP.out hns2).1 j (by rw[<-HLN.out];omega)
    rw[<-HLN.out] at hu
    obtain⟨x,hx⟩:∃x:Nat,inn N j=(x:Int):=⟨(inn N j).toNat,by omega⟩
    obtain⟨gn,cpn,hvn,hgn,cur,hcur⟩:=own_some2 HON4.out (by rw[<-HLN.out];omega)
    injection hvn with hvn1 hvn2 hvn3
    subst hvn1
    have hgnb:gn<gb:=by
     have hh:=(HON4.out.lt gn rfl).2
     rw[<-HGB.out]
     exact(HONl.out gn rfl)
    have cj:wr.cell? ⟨gn,j*2+1,none⟩=some (.int .i64 (x:Int)):=by
     have hl:=flatN_length N
     rw[hbel.cell (p:=⟨gn,j*2+1,none⟩) hgnb]
     have hO:=HON4.out
     rw[<-HLN.out] at hO
     have:=hO.cellAt (j*2+1) (by omega)
     rw[this,List.getElem?_map,<-hx,<-flatN_inn,Nat.mul_comm 2 j]
     simp[List.getD,List.getElem?_eq_getElem (show j*2+1<(flatN N).length from by rw[hl,<-HLN.out];omega)]
    rw[hx] at hu
    have hj1:((j:Int)+1).toNat=j+1:=by omega
    rw[hj1] at hrow
    have hbl:(belowL N (j+1)).length=mn:=by rw[belowL_length,HLN.out]
    have cx:=own_cell hrow hbl x (by omega)
    rw[belowL_getD N (j+1) x (by rw[<-HLN.out];omega),if_pos (by omega)] at cx
    have cw:=own_cell hrow hbl j (by omega)
    have fw:=hrow.frozenAt j
    have hp:=own_put (k:=j) hrow (dv N x+1)
    have hset:=belowL_set (HUP.out hns2).1 j (by rw[<-HLN.out];omega)
    rw[hx,Int.toNat_natCast] at hset
    rw[hset] at hp
    have HP:=hid hp
    have HB:=hid (hbel.setCell (show gb<=(Addr.mk gb j none).block from Nat.le_refl gb) (.int .i64 (dv N x+1)))
    have hdv:=dv_rng N x
    rw[<-HLN.out] at hdv
    have hxz:(x:Int)<(mn:Int):=by omega
    have hjz:(j:Int)<(mn:Int):=by omega
    clear hrow hbel hp hset hx hcur hbl hvn2 hvn3 hj1
    generalize dv N x=q at *
    generalize (belowL N (j+1)).getD j 0=old at *
    go_wp2
    exact⟨⟨(j:Int)-1,rfl,by omega,by omega,by rw[show((j:Int)-1+1).toNat=j from by omega];exact HP.out,HB.out⟩,by simp[intOf];omega⟩
   ·rw[show(z+1).toNat=0 from by omega] at hrow
    have HRW:=hid hrow
    have HB5:=hid (HB4.out.trans (hbel.mono (by omega)))
    have HO5:Hid (wr.ownsRow gd 3 1 (.slice (some ⟨gd,0,none⟩) len len) len ((List.replicate len (0:Int)).map (Value.int .i64))):=by
     refine⟨HO4.out.1,?_⟩
     rcases HO4.out.2 with h1 | ⟨g,cp,cur,hv,hg,hh,hrr⟩
     ·exact Or.inl h1
     ·injection hv with hv1 hv2 hv3
      injection hv1 with hv1
      injection hv1 with hv1 _
      subst hv1
      exact Or.inr ⟨gd,cp,cur,by rw[hv3],hg,(hbel.block gd (by omega)).trans hh,hrr⟩
    have HSC:Hid (∀k,k<ns->∃bs os,ay=some ⟨bs,os,none⟩∧bs≠gd∧wr.cell? ⟨bs,os+k,none⟩=some (.int .i64 (sy.getD k 0))):=fun k hk=>by
     obtain⟨bs,os,hay,hbs,hcs⟩:=HRY4.out.cells (by rw[<-HNS.out];omega)
     have hbs2:=HAY.out bs os hay
     exact⟨bs,os,hay,by omega,(hbel.cell (p:=⟨bs,os+k,none⟩) (by show bs<gb;omega)).trans (hcs k (by rw[<-HNS.out];exact hk))⟩
    clear hrow hbel HON4 HRY4 HO4 HB4
    have HSI2:=HSI
    have HBD:Hid (∀i,(belowL N 0).getD i 0=if i<mn then dv N i else 0):=fun i=>by
     by_cases hi:i<mn
     ·rw[belowL_getD N 0 i (by rw[<-HLN.out];exact hi),if_pos (Nat.zero_le _),if_pos hi]
     ·rw[getD_out _ _ (by rw[belowL_length,<-HLN.out];omega),if_neg hi]
    have HMN:Hid (ns<=mn):=by
     show _<=_
     by_cases h2:2<=ns
     ·have:=(HUP.out h2).2
      rw[<-HLN.out] at this
      omega
     ·omega
    have HBL:Hid ((belowL N 0).length=mn):=by show _=_;rw[belowL_length,HLN.out]
    have hdr:=dv_rng N
    have HDR:=hid hdr
    clear hdr
    go_wp2_with fail
    go_loopw [51] (fun y wq=>∃k:Nat,k<=ns∧y= .int .i64 k∧wq.ownsRow gd 3 1 (.slice (some ⟨gd,0,none⟩) len len) len ((outL len sy (belowL N 0) k).map (Value.int .i64))∧wr.grownBy wq (some gd)∧Below w.heap.size w wq) (fun y _=>ns-(intOf y).toNat)
    case atStart=>exact⟨0,by omega,rfl,HO5.out,World.grownBy.refl _ _,HB5.out⟩
    case round=>
     obtain⟨k,hk,rfl,hrow,hgr,hbel⟩:=hrel
     by_cases hlt:k<ns
     ·have hkz:(k:Int)<(ns:Int):=by omega
      obtain⟨bs,os,rfl,hbsd,hcs⟩:=HSC.out k hlt
      obtain⟨u,hu,hul⟩:=HSI.out k hlt
      rw[hu] at hcs
      have c1:=hgr.cell hcs (by simp;exact hbsd)
      have hkm:k<mn:=by have:=HMN.out;omega
      have c2:=hgr.cell (own_cell HRW.out HBL.out k hkm) (by simp;omega)
      have c3:=own_cell hrow (outL_length _ _ _ _) u hul
      have f3:=hrow.frozenAt u
      have hp:=own_put (k:=u) hrow ((belowL N 0).getD k 0)
      have HE2:Hid (outL len sy (belowL N 0) (k+1)=(outL len sy (belowL N 0) k).set u ((belowL N 0).getD k 0)):=by
       show _=_
       rw[outL,hu,Int.toNat_natCast]
      rw[<-HE2.out] at hp
      have HP:=hid hp
      have HG2:=hid (grown_trans hgr (hrow.stored u (.int .i64 ((belowL N 0).getD k 0))).2)
      have HB2':=hid (hbel.setCell (show w.heap.size<=(Addr.mk gd u none).block from hgdw) (.int .i64 ((belowL N 0).getD k 0)))
      have huz:(u:Int)<(len:Int):=by omega
      have hkm':(k:Int)<(mn:Int):=by omega
      clear hrow hgr hbel hp hcs hu
      generalize (belowL N 0).getD k 0=q at *
      generalize (outL len sy (belowL N 0) k).getD u 0=old at *
      go_wp2
      exact⟨⟨k+1,by omega,by go_num,HP.out,HG2.out,HB2'.out⟩,by simp[intOf];omega⟩
     ·have hkn:ns=k:=by omega
      subst hkn
      go_wp2
      go_ret
      exact⟨_,rfl,by rw[HE.out,outL_length,HGD.out];exact hrow,hbel⟩
end Go.Proofs.YtelnefngkdfcoaaGreat
/-
 The contracts of slices.Clone at []int and of huff.Lengths where the tree of counts is not too deep.
-/
namespace Go.Proofs.YtelnefngkdfcoaaGreat
open Go.RowKit Hf
set_option maxRecDepth 100000 in
theorem lengths_no(a:Option Addr)(cap:Nat)(cs:List Int)(w:World)(hr:Ri w .i64 a cap cs)(hc:areC cs=false):
 Calls Tryz.prog 58 #[.slice a cs.length cap] w fun e w'=>e= .returned (.tuple #[.slice none 0 0,.int .i64 50])∧w'=w:=by
 have HA:=hid (are_word a cap cs w hr)
 rw[hc] at HA
 clear hr hc
 generalize cs.length=len at *
 go_enter Tryz.func58,Tryz.ntmps58
 go_wp2_with fail
 refine HA.out.mono ?_
 rintro _ w1 ⟨rfl,hw⟩
 obtain rfl:=hw.symm
 clear hw
 go_wp2
 go_ret2
 exact⟨rfl,rfl⟩
set_option maxRecDepth 100000 in
theorem clone_word(ad:Addr)(cap:Nat)(cs:List Int)(w:World)(hr:Ri w .i64 (some ad) cap cs)(hn:cs.length<=1000):
 Calls Tryz.prog 89 #[.slice (some ad) cs.length cap] w fun e w'=>∃v,e= .returned v∧w'.ownsRow w.heap.size 3 1 v cs.length (cs.map (Value.int .i64))∧Below w.heap.size w w':=by
 obtain⟨i0,hi,hz0,hz1,hz2⟩:=info_parts Tryz.info3'
 have HR:=hid hr
 have ho:=World.ownsRow_lit (base:=w.heap.size) (e:=3) (size:=1) w #[] 0 (Nat.le_refl _) (by unfold maxLen;omega) rfl
 have hb:=bel_alloc w (.cells #[] 3)
 have HRA:=hid (hr.later hb)
 have HNW:Hid (∀j u,(cs.map (Value.int .i64))[j]?=some u->(w.alloc (.cells #[] 3)).cell? (ad.add j)=some u):=by
  intro j u hj
  have hjl:j<cs.length:=by
   have:=(List.getElem?_eq_some_iff.1 hj).1
   simpa using this
  obtain⟨b,off,hbe,_,hc⟩:=HRA.out.cells (by omega)
  injection hbe with hbe
  subst hbe
  rw[Go.WideShapes.add_plain,hc j hjl,<-hj]
  simp[List.getD,List.getElem?_eq_getElem hjl]
 have HON:Hid (∀u∈cs.map (Value.int .i64),u.oneCell'=true):=by
  intro u hu
  rw[List.mem_map] at hu
  obtain⟨x,_,rfl⟩:=hu
  rfl
 have HNL:Hid ((cs.map (Value.int .i64)).length=cs.length*1):=by show _=_;simp
 have q22:∀(w:World) (a:Option Addr) (n c n' c':Nat),(binOp .eql 51 (.slice a n c) (.slice none n' c')).run Tryz.prog w= .ok (.bool a.isNone) w:=fun w a n c n' c'=>Lib.run_eql_slice_nil w _ _ a n c n' c' Tryz.underlying51
 have HOS:=hid ho
 have HBS:=hid hb
 have hmx:0+cs.length<=maxLen:=by unfold maxLen;omega
 have HMX:=hid hmx
 generalize cs.map (Value.int .i64)=news at *
 generalize cs.length=len at *
 clear hr ho hb hmx
 go_enter Tryz.func89,Tryz.ntmps89
 go_wp2_with (first
  | (at_builtin;refine wpList_append_own _ rfl _ _ 51 rfl w.heap.size 3 i0 (.int .i64 0) 1 8 Tryz.underlying51 hi hz0 hz1 hz2 rfl (by decide) _ _ _ rfl HOS.out ad len cap news rfl HNL.out HNW.out HON.out HMX.out (by omega) (by simp) ?_))
 have ho:=HOS.out
 have hb:=HBS.out
 clear HOS HBS
 intro v1 w1 hown1 hgrow _
 have HB:=hid (hb.grown hgrow (by simp) (fun j hj=>(ho.lt j hj).1))
 have HO:Hid (w1.ownsRow w.heap.size 3 1 v1 len news):=by
  show World.ownsRow _ _ _ _ _ _ _
  simpa using hown1
 clear hown1 hgrow ho hb
 go_wp2
 go_ret
 exact⟨_,rfl,HO.out,HB.out⟩
set_option maxRecDepth 100000 in
set_option maxHeartbeats 800000 in
theorem lengths_flat(ad:Addr)(cap:Nat)(cs:List Int)(w:World)(hr:Ri w .i64 (some ad) cap cs)(hc:areC cs=true)(hm:(nz cs cs.length).length<=mostS)(hd:(depthsL cs).any deepC=false)(hdf:∀j,(Lit.int .i64 ((depthsL cs).getD j 0)).wf=true):
 Calls Tryz.prog 58 #[.slice (some ad) cs.length cap] w fun e w'=>∃v,e= .returned (.tuple #[v,.int .i64 0])∧w'.ownsRow w.heap.size 3 1 v (depthsL cs).length ((depthsL cs).map (Value.int .i64))∧Below w.heap.size w w':=by
 have hcr:=areC_rng hc
 have HA:=hid (are_word (some ad) cap cs w hr)
 rw[hc] at HA
 have HC:=hid (clone_word ad cap cs w hr (by omega))
 have HF:=hid hr.fits
 have HD:Hid (∀(W:World) (a2:Option Addr) (c2:Nat),Ri W .i64 a2 c2 cs->Calls Tryz.prog 90 #[.slice a2 cs.length c2] W fun e w'=>∃v,e= .returned v∧w'.ownsRow W.heap.size 3 1 v (depthsL cs).length ((depthsL cs).map (Value.int .i64))∧Below W.heap.size W w'):=fun W a2 c2 h2=>depths_word a2 c2 cs W h2 hcr.1 hcr.2 hm
 have HDF:=hid hdf
 have HDD:=hid hd
 clear hr hc hcr hm hd hdf
 obtain⟨len,hl⟩:∃n,n=cs.length:=⟨_,rfl⟩
 rw[<-hl] at HA HC HD|-
 have HL:=hid hl
 clear hl
 go_enter Tryz.func58,Tryz.ntmps58
 go_wp2_with fail
 refine HA.out.mono ?_
 rintro _ w1 ⟨rfl,hw⟩
 obtain rfl:=hw.symm
 clear hw
 go_wp2_with fail
 refine HC.out.mono ?_
 rintro _ w1 ⟨v1,rfl,ho1,hb1⟩
 rw[HL.out] at ho1
 obtain⟨a1,c1,rfl,hr1⟩:=Ri.own ho1 HF.out
 rw[<-HL.out]
 have HD1:=hid (HD.out w1 a1 c1 hr1)
 clear ho1 hr1 HA HC HD
 go_wp2_with fail
 refine HD1.out.mono ?_
 rintro _ w2 ⟨v2,rfl,ho2,hb2⟩
 obtain⟨a2,c2,rfl,hr2⟩:=Ri.own ho2 HDF.out
 have HX:=hid (contains_29 a2 c2 (depthsL cs) w2 hr2)
 rw[HDD.out] at HX
 have HO2:=hid (own_low ho2 hb1.size)
 have HB2:=hid (Bn hb1 hb2)
 clear ho2 hb1 hb2 hr2 HD1
 go_wp2
 refine wp_loop_rounds 1 ?_
 rw[rounds_succ]
 go_wp2_with fail
 refine HX.out.mono ?_
 rintro _ w3 ⟨rfl,hw⟩
 obtain rfl:=hw.symm
 clear hw
 go_wp2
 go_ret2
 exact⟨_,rfl,HO2.out,HB2.out⟩
end Go.Proofs.YtelnefngkdfcoaaGreat
/-
 Plain facts on the depths of counts: they are a code's, for just the symbols that come.
-/
namespace Go.Proofs.YtelnefngkdfcoaaGreat
namespace Hf
theorem outL_not(M:Nat)(sy B:List Int)(u:Nat):∀k,(∀j,j<k->(sy.getD j 0).toNat<M)->(∀j,j<k->(sy.getD j 0).toNat≠u)->(outL M sy B k).getD u 0=0
 | 0,_,_=>by
   rw[outL]
   by_cases h:u<M
   ·simp[List.getD,h]
   ·simp[List.getD,h]
 | k+1,h,hn=>by
   rw[outL,sgetD_set _ _ _ _ (by rw[outL_length];exact h k (by omega)),if_neg (fun e=>hn k (by omega) e.symm)]
   exact outL_not M sy B u k (fun j hj=>h j (by omega)) (fun j hj=>hn j (by omega))
theorem outL_at(M:Nat)(sy B:List Int)(i:Nat):∀k,(∀j,j<k->(sy.getD j 0).toNat<M)->(∀j,j<k->(sy.getD j 0).toNat=(sy.getD i 0).toNat->j=i)->i<k->(outL M sy B k).getD (sy.getD i 0).toNat 0=B.getD i 0
 | 0,_,_,h=>by omega
 | k+1,h,hn,hi=>by
   rw[outL,sgetD_set _ _ _ _ (by rw[outL_length];exact h k (by omega))]
   by_cases e:k=i
   ·subst e;rw[if_pos rfl]
   ·rw[if_neg (fun x=>e (hn k (by omega) x.symm))]
    exact outL_at M sy B i k (fun j hj=>h j (by omega)) (fun j hj=>hn j (by omega)) (by omega)
theorem sumR_cons(z:Int)(l:List Int):sumR (z::l)=(if 0<z then 2^(15-z.toNat) else 0)+sumR l:=by simp[sumR]
theorem sumR_set(v:Int):∀(zs:List Int) (i:Nat),i<zs.length->zs.getD i 0=0->sumR (zs.set i v)=sumR zs+(if 0<v then 2^(15-v.toNat) else 0)
 | [],i,h,_=>by simp at h
 | z::l,0,_,h=>by
   have hz:z=0:=by simpa using h
   subst hz
   rw[List.set_cons_zero,sumR_cons,sumR_cons,if_neg (show ¬(0:Int)<0 by omega)];omega
 | z::l,i+1,h,h0=>by
   rw[List.set_cons_succ,sumR_cons,sumR_cons,sumR_set v l i (by simpa using h) (by simpa using h0)];omega
theorem sumR_zero(M:Nat):sumR (List.replicate M 0)=0:=by simp[sumR]
theorem srt_apart(cs:List Int){i j:Nat}(hi:i<(srt cs).length)(hj:j<(srt cs).length)(e:((srt cs).getD i 0).toNat=((srt cs).getD j 0).toNat):i=j:=by
 have h1:=srt_mem cs _ (getD_mem (srt cs) i hi)
 have h2:=srt_mem cs _ (getD_mem (srt cs) j hj)
 have e2:(srt cs).getD i 0=(srt cs).getD j 0:=by omega
 have ho:=srt_ord cs
 rw[List.pairwise_iff_getElem] at ho
 have ei:(srt cs).getD i 0=(srt cs)[i]:=by simp[List.getD,List.getElem?_eq_getElem hi]
 have ej:(srt cs).getD j 0=(srt cs)[j]:=by simp[List.getD,List.getElem?_eq_getElem hj]
 by_cases c1:i<j
 ·have:=ho i j hi hj c1
  rw[<-ei,<-ej,e2] at this
  exact this.irrefl.elim
 ·by_cases c2:j<i
  ·have:=ho j i hj hi c2
   rw[<-ei,<-ej,e2] at this
   exact this.irrefl.elim
  ·omega
theorem srt_up(cs:List Int){i j:Nat}(hij:i<=j)(hj:j<(srt cs).length):key cs ((srt cs).getD i 0)<=key cs ((srt cs).getD j 0):=by
 by_cases e:i=j
 ·rw[e];omega
 ·have ho:=srt_ord cs
  rw[List.pairwise_iff_getElem] at ho
  have hi:i<(srt cs).length:=by omega
  have ei:(srt cs).getD i 0=(srt cs)[i]:=by simp[List.getD,List.getElem?_eq_getElem hi]
  have ej:(srt cs).getD j 0=(srt cs)[j]:=by simp[List.getD,List.getElem?_eq_getElem hj]
  have:=ho i j hi hj (by omega)
  rw[<-ei,<-ej] at this
  unfold Lx at this;omega
theorem nz_all(cs:List Int)(u:Nat)(h:0<cs.getD u 0):∀k,u<k->(u:Int)∈nz cs k
 | 0,hk=>by omega
 | k+1,hk=>by
   rw[nz]
   by_cases e:u=k
   ·subst e;rw[if_pos h];simp
   ·have:=nz_all cs u h k (by omega)
    split
    ·exact List.mem_append.2 (Or.inl this)
    ·exact this
theorem srt_all(cs:List Int)(u:Nat)(hu:u<cs.length)(h:0<cs.getD u 0):∃j,j<(srt cs).length∧((srt cs).getD j 0).toNat=u:=by
 have hm:(u:Int)∈srt cs:=(srt_perm cs).symm.subset (nz_all cs u h _ hu)
 obtain⟨j,hj,e⟩:=mem_getD hm
 exact⟨j,hj,by rw[e];simp⟩
def treeN(cs:List Int):Nodes:=(treeT (wsOf cs (srt cs)) ((srt cs).length-1)).N
theorem wsOf_len(cs:List Int):(wsOf cs (srt cs)).length=(srt cs).length:=by simp[wsOf]
theorem treeN_ups(cs:List Int)(hc:∀k,0<=cs.getD k 0∧cs.getD k 0<=1073741824)(hm:2<=(srt cs).length):Ups (treeN cs)∧(treeN cs).length=2*(srt cs).length-1:=by
 have:=tree_ups (wsOf cs (srt cs)) (fun i=>(wsOf_rng cs hc (srt cs) i).1) (by rw[wsOf_len];exact hm)
 rw[wsOf_len] at this
 exact this
theorem dep_long(cs:List Int):(depthsL cs).length=cs.length:=by
 unfold depthsL
 split
 ·simp
 ·rw[outL_length]
theorem dep_many(cs:List Int)(hm:(srt cs).length≠1):depthsL cs=outL cs.length (srt cs) (belowL (treeN cs) 0) (srt cs).length:=by
 unfold depthsL treeN wsOf;rw[if_neg hm]
theorem srt_in(cs:List Int)(j:Nat)(hj:j<(srt cs).length):((srt cs).getD j 0).toNat<cs.length:=by
 have h:=srt_mem cs _ (getD_mem (srt cs) j hj)
 omega
theorem dep_none(cs:List Int)(u:Nat)(h:∀j,j<(srt cs).length->((srt cs).getD j 0).toNat≠u):(depthsL cs).getD u 0=0:=by
 by_cases hm:(srt cs).length=1
 ·unfold depthsL
  rw[if_pos hm,sgetD_set _ _ _ _ (by simpa using srt_in cs 0 (by omega)),if_neg (fun e=>h 0 (by omega) e.symm)]
  by_cases hu:u<cs.length
  ·simp[List.getD,hu]
  ·simp[List.getD,hu]
 ·rw[dep_many cs hm]
  exact outL_not _ _ _ _ _ (srt_in cs) h
theorem dep_one(cs:List Int)(hm:(srt cs).length=1):(depthsL cs).getD ((srt cs).getD 0 0).toNat 0=1:=by
 unfold depthsL
 rw[if_pos hm,sgetD_set _ _ _ _ (by simpa using srt_in cs 0 (by omega)),if_pos rfl]
theorem dep_at(cs:List Int)(hc:∀k,0<=cs.getD k 0∧cs.getD k 0<=1073741824)(hm:2<=(srt cs).length)(j:Nat)(hj:j<(srt cs).length):(depthsL cs).getD ((srt cs).getD j 0).toNat 0=dv (treeN cs) j:=by
 obtain⟨_,hl⟩:=treeN_ups cs hc hm
 rw[dep_many cs (by omega),outL_at _ _ _ _ _ (srt_in cs) (fun i hi e=>srt_apart cs hi hj e) hj,belowL_getD _ _ _ (by omega),if_pos (Nat.zero_le _)]
theorem dv_pos(cs:List Int)(hc:∀k,0<=cs.getD k 0∧cs.getD k 0<=1073741824)(hm:2<=(srt cs).length)(j:Nat)(hj:j<(srt cs).length):1<=dv (treeN cs) j:=by
 obtain⟨hu,hl⟩:=treeN_ups cs hc hm
 rw[dv_step hu j (by omega)]
 have:=dv_rng (treeN cs) (inn (treeN cs) j).toNat
 omega
theorem dep_cases(cs:List Int)(hc:∀k,0<=cs.getD k 0∧cs.getD k 0<=1073741824)(u:Nat)(hu:u<cs.length):
 (cs.getD u 0=0∧(depthsL cs).getD u 0=0)∨(0<cs.getD u 0∧1<=(depthsL cs).getD u 0):=by
 have h0:=hc u
 by_cases h:0<cs.getD u 0
 ·right
  refine⟨h,?_⟩
  obtain⟨j,hj,e⟩:=srt_all cs u hu h
  by_cases hm:(srt cs).length=1
  ·obtain rfl:j=0:=by omega
   rw[<-e,dep_one cs hm];omega
  ·rw[<-e,dep_at cs hc (by omega) j hj]
   exact dv_pos cs hc (by omega) j hj
 ·left
  refine⟨by omega,dep_none cs u (fun j hj e=>?_)⟩
  have:=srt_mem cs _ (getD_mem (srt cs) j hj)
  rw[e] at this
  omega
theorem dep_mem(cs:List Int)(hc:∀k,0<=cs.getD k 0∧cs.getD k 0<=1073741824):∀z∈depthsL cs,0<=z:=by
 intro z hz
 obtain⟨u,hu,e⟩:=mem_getD hz
 rw[dep_long] at hu
 have:=dep_cases cs hc u hu
 omega
theorem kraft_sum(cs:List Int)(hc:∀k,0<=cs.getD k 0∧cs.getD k 0<=1073741824)(hm:2<=(srt cs).length)(hd:∀j,j<(srt cs).length->dv (treeN cs) j<=15):
 ∀k,k<=(srt cs).length->(2:Int)^(2*(srt cs).length)*((sumR (outL cs.length (srt cs) (belowL (treeN cs) 0) k):Nat):Int)=sumG (shr (15+2*(srt cs).length) (treeN cs)) 0 k
 | 0,_=>by rw[outL,sumR_zero,sumG];simp
 | k+1,hk=>by
   obtain⟨_,hl⟩:=treeN_ups cs hc hm
   have ih:=kraft_sum cs hc hm hd k (by omega)
   have hz:=outL_not cs.length (srt cs) (belowL (treeN cs) 0) ((srt cs).getD k 0).toNat k (fun j hj=>srt_in cs j (by omega)) (fun j hj e=>by have:=srt_apart cs (show j<_ by omega) (show k<_ by omega) e;omega)
   rw[sumG_snoc,<-ih,outL,sumR_set _ _ _ (by rw[outL_length];exact srt_in cs k (by omega)) hz,belowL_getD _ _ _ (by omega),if_pos (Nat.zero_le _)]
   have h1:=dv_pos cs hc hm k (by omega)
   have h2:=hd k (by omega)
   rw[if_pos (by omega),Nat.zero_add]
   unfold shr
   rw[show 15+2*(srt cs).length-(dv (treeN cs) k).toNat=2*(srt cs).length+(15-(dv (treeN cs) k).toNat) from by omega,Int.pow_add,Int.natCast_add,Int.mul_add]
   congr 2
theorem kraft_all(cs:List Int)(hc:∀k,0<=cs.getD k 0∧cs.getD k 0<=1073741824)(hm:2<=(srt cs).length)(hd:∀j,j<(srt cs).length->dv (treeN cs) j<=15):sumR (depthsL cs)=32768:=by
 have h1:=kraft_sum cs hc hm hd _ (Nat.le_refl _)
 have h2:=kraft (wsOf cs (srt cs)) (fun i=>(wsOf_rng cs hc (srt cs) i).1) (by rw[wsOf_len];exact hm) (15+2*(srt cs).length) (by rw[wsOf_len];omega)
 rw[wsOf_len] at h2
 rw[show(treeT (wsOf cs (srt cs)) ((srt cs).length-1)).N=treeN cs from rfl,<-h1,Int.pow_add,Int.mul_comm ((2:Int)^15)] at h2
 rw[dep_many cs (by omega)]
 have h3:=Int.eq_of_mul_eq_mul_left (show(2:Int)^(2*(srt cs).length)≠0 from Int.ne_of_gt (Int.pow_pos (by omega))) h2
 have h4:(2:Int)^15=32768:=by decide
 omega
theorem dep_code(cs:List Int)(hn:cs.length<=512)(hc:∀k,0<=cs.getD k 0∧cs.getD k 0<=1073741824)(hd:(depthsL cs).any deepC=false):checkB (depthsL cs)=true:=by
 have hr:∀z∈depthsL cs,0<=z∧z<=15:=fun z hz=>by
  have h1:=dep_mem cs hc z hz
  rw[List.any_eq_false] at hd
  have h2:=hd z hz
  unfold deepC at h2
  rw[decide_eq_true_eq] at h2
  omega
 unfold checkB lenOk okT
 rw[Bool.and_eq_true,Bool.and_eq_true,decide_eq_true_eq,dep_long,List.all_eq_true]
 refine⟨⟨hn,fun z hz=>by have:=hr z hz;simp;omega⟩,?_⟩
 rw[wsum_sumR _ hr,tal_zero_iff _ hr,one_split _ hr]
 by_cases h0:(srt cs).length=0
 ·have e:someR (depthsL cs)=0:=by
   unfold someR
   rw[List.countP_eq_zero]
   intro z hz
   obtain⟨u,hu,e⟩:=mem_getD hz
   rw[<-e,dep_none cs u (fun j hj=>by omega)]
   decide
  rw[e];simp
 ·by_cases h1:(srt cs).length=1
  ·have hin:=srt_in cs 0 (by omega)
   have e:depthsL cs=(List.replicate cs.length 0).set ((srt cs).getD 0 0).toNat 1:=by unfold depthsL;rw[if_pos h1]
   have e1:someR (depthsL cs)=1:=by
    rw[e];unfold someR
    rw[List.countP_set (by simpa using hin)]
    simp
   have e2:oneR (depthsL cs)=1:=by
    rw[e];unfold oneR
    rw[List.countP_set (by simpa using hin)]
    simp
   rw[e1,e2];simp
  ·have hd2:∀j,j<(srt cs).length->dv (treeN cs) j<=15:=fun j hj=>by
    rw[<-dep_at cs hc (by omega) j hj]
    exact(hr _ (Hf.getD_in _ (by rw[dep_long];exact srt_in cs j hj))).2
   rw[kraft_all cs hc (by omega) hd2];simp
theorem dep_flat(cs:List Int)(hn:cs.length<=512)(hc:∀k,0<=cs.getD k 0∧cs.getD k 0<=2):(depthsL cs).any deepC=false:=by
 have hc':∀k,0<=cs.getD k 0∧cs.getD k 0<=1073741824:=fun k=>by have:=hc k;omega
 rw[List.any_eq_false]
 intro z hz
 unfold deepC
 rw[decide_eq_true_eq]
 obtain⟨u,hu,e⟩:=mem_getD hz
 rw[dep_long] at hu
 have hl:(srt cs).length<=512:=by have h1:=srt_len cs;have h2:=nz_len cs cs.length;omega
 by_cases h:0<cs.getD u 0
 ·obtain⟨j,hj,e2⟩:=srt_all cs u hu h
  by_cases hm:(srt cs).length=1
  ·obtain rfl:j=0:=by omega
   rw[<-e2,dep_one cs hm] at e;omega
  ·rw[<-e2,dep_at cs hc' (by omega) j hj] at e
   have hg:∀i,i<(srt cs).length->(wsOf cs (srt cs)).getD i 0=key cs ((srt cs).getD i 0):=fun i hi=>wsOf_getD cs (srt cs) i hi
   have:=near_flat (wsOf cs (srt cs)) (fun a b h1 h2=>by
    rw[wsOf_len] at h2
    rw[hg a (by omega),hg b h2];exact srt_up cs h1 h2) (fun i hi=>by
    rw[wsOf_len] at hi
    rw[hg i hi]
    have h1:=srt_mem cs _ (getD_mem (srt cs) i hi)
    have h2:=hc ((srt cs).getD i 0).toNat
    unfold key;omega) (by rw[wsOf_len];omega) (by rw[wsOf_len];exact hl) j (by rw[wsOf_len];omega)
   rw[wsOf_len] at this
   rw[show(treeT (wsOf cs (srt cs)) ((srt cs).length-1)).N=treeN cs from rfl] at this
   omega
 ·have:=dep_cases cs hc' u hu
  omega
end Hf
end Go.Proofs.YtelnefngkdfcoaaGreat
/-
 The contract of huff's flatten.
-/
namespace Go.Proofs.YtelnefngkdfcoaaGreat
open Go.RowKit Hf
namespace Hf
def flatC(c:Int):Int:=if 0<c then c/2+1 else c
def flatK(X:List Int):Nat->List Int
 | 0=>X
 | k+1=>(flatK X k).set k (flatC (X.getD k 0))
theorem flatK_length(X:List Int):∀k,(flatK X k).length=X.length
 | 0=>rfl
 | k+1=>by rw[flatK,List.length_set,flatK_length X k]
theorem flatK_getD(X:List Int):∀k,k<=X.length->∀p,(flatK X k).getD p 0=if p<k then flatC (X.getD p 0) else X.getD p 0
 | 0,_,p=>by rw[flatK,if_neg (by omega)]
 | k+1,hk,p=>by
   rw[flatK,sgetD_set _ _ _ _ (by rw[flatK_length];omega),flatK_getD X k (by omega)]
   by_cases h:p=k
   ·subst h;rw[if_pos rfl,if_pos (by omega)]
   ·rw[if_neg h]
    by_cases h2:p<k
    ·rw[if_pos h2,if_pos (by omega)]
    ·rw[if_neg h2,if_neg (by omega)]
theorem flatK_all(X:List Int):flatK X X.length=X.map flatC:=by
 refine List.ext_getElem (by rw[flatK_length,List.length_map]) (fun i h1 h2=>?_)
 have h:=flatK_getD X X.length (Nat.le_refl _) i
 rw[flatK_length] at h1
 rw[if_pos h1] at h
 simpa [List.getD,List.getElem?_eq_getElem h1,List.getElem?_eq_getElem (show i<(flatK X X.length).length from by rw[flatK_length];exact h1)] using h
theorem flatK_keep(X:List Int)(k:Nat)(hk:k<X.length)(h:¬0<X.getD k 0):flatK X (k+1)=flatK X k:=by
 rw[flatK]
 have e:flatC (X.getD k 0)=(flatK X k).getD k 0:=by rw[flatK_getD X k (by omega),if_neg (by omega)];unfold flatC;rw[if_neg h]
 rw[e]
 refine List.ext_getElem (by simp) (fun i h1 h2=>?_)
 rw[List.getElem_set]
 split
 ·rename_i hi;subst hi;simp[List.getD,List.getElem?_eq_getElem h2]
 ·rfl
end Hf
set_option maxHeartbeats 800000 in
set_option maxRecDepth 100000 in
theorem flatten_word(n cap B gs:Nat)(X:List Int)(w:World)(hn:n<=100000)(hl:X.length=n)(hx:∀j,X.getD j 0<=1073741824)
 (hown:w.ownsRow B 3 1 (.slice (some ⟨gs,0,none⟩) n cap) n (X.map (Value.int .i64))) :
 Calls Tryz.prog 93 #[.slice (some ⟨gs,0,none⟩) n cap] w fun e w'=>e= .returned (.tuple #[])∧w'.ownsRow B 3 1 (.slice (some ⟨gs,0,none⟩) n cap) n ((X.map flatC).map (Value.int .i64))∧w.grownBy w' (some gs):=by
 have HO:=hid hown
 have HL:=hid hl
 have HX:=hid hx
 clear hown hl hx
 go_enter Tryz.func93,Tryz.ntmps93
 go_wp2
 go_loopw [6] (fun y wr=>∃k:Nat,k<=n∧y= .int .i64 k∧Hid (wr.ownsRow B 3 1 (.slice (some ⟨gs,0,none⟩) n cap) n ((flatK X k).map (Value.int .i64)))∧Hid (w.grownBy wr (some gs))) (fun y _=>n-(intOf y).toNat)
 case atStart=>exact⟨0,by omega,rfl,HO,World.grownBy.refl _ _⟩
 case round=>
  clear HO
  obtain⟨k,hk,rfl,HO,HG⟩:=hrel
  by_cases hlt:k<n
  ·have hkz:(k:Int)<(n:Int):=by omega
   have HXL:Hid ((flatK X k).length=n):=by show _=_;rw[flatK_length,HL.out]
   have c1:=own_cell HO.out HXL.out k hlt
   rw[flatK_getD X k (by rw[HL.out];exact hk),if_neg (by omega)] at c1
   have f1:=HO.out.frozenAt k
   have h1:=HO.out.stored k (.int .i64 (flatC (X.getD k 0)))
   rw[<-List.map_set] at h1
   have HS:Hid ((wr.setCell ⟨gs,k,none⟩ (.int .i64 (flatC (X.getD k 0)))).ownsRow B 3 1 (.slice (some ⟨gs,0,none⟩) n cap) n ((flatK X (k+1)).map (Value.int .i64))∧w.grownBy (wr.setCell ⟨gs,k,none⟩ (.int .i64 (flatC (X.getD k 0)))) (some gs)):=⟨h1.1,grown_trans HG.out h1.2⟩
   have HKP:=hid (flatK_keep X k (by rw[HL.out];exact hlt))
   have hub:=HX.out k
   clear h1 HXL
   by_cases hz:0<X.getD k 0
   ·obtain⟨c,hc⟩:∃c:Nat,X.getD k 0=(c:Int):=⟨(X.getD k 0).toNat,by omega⟩
    have hv:flatC (X.getD k 0)=(c:Int)/2+1:=by unfold flatC;rw[if_pos hz,hc]
    rw[hv] at HS
    rw[hc] at c1 hz hub
    clear hv hc HKP HO HG
    obtain⟨q,hq⟩:∃q:Nat,(c:Int)/2=(q:Int):=⟨c/2,by omega⟩
    have hqb:q<=1073741824:=by omega
    have htd:(c:Int).tdiv 2=(q:Int):=by rw[Int.tdiv_eq_ediv_of_nonneg (by omega)];exact hq
    rw[hq] at HS
    clear hq
    go_wp2
    exact⟨⟨k+1,by omega,by go_num,HS.out.1,HS.out.2⟩,by simp[intOf];omega⟩
   ·have hkp:=HKP.out hz
    have HO2:Hid (wr.ownsRow B 3 1 (.slice (some ⟨gs,0,none⟩) n cap) n ((flatK X (k+1)).map (Value.int .i64))):=by show World.ownsRow _ _ _ _ _ _ _;rw[hkp];exact HO.out
    clear hkp HKP HS HO
    generalize X.getD k 0=z at *
    go_wp2
    exact⟨⟨k+1,by omega,by go_num,HO2,HG⟩,by simp[intOf];omega⟩
  ·obtain hke:k=n:=by omega
   have HO2:Hid (wr.ownsRow B 3 1 (.slice (some ⟨gs,0,none⟩) n cap) n ((X.map flatC).map (Value.int .i64))):=by
    show World.ownsRow _ _ _ _ _ _ _
    rw[<-flatK_all,HL.out,<-hke];rw[<-hke] at HO;exact HO.out
   have hkz:¬(k:Int)<(n:Int):=by omega
   clear hke HO
   go_wp2
   go_end0
   exact⟨rfl,by first | exact HO2.out | simpa using HO2.out,HG.out⟩
end Go.Proofs.YtelnefngkdfcoaaGreat
/-
 The contract of huff.Lengths at any counts of at most 512 symbols: the depths of counts that were halved as often as they were too deep.
-/
namespace Go.Proofs.YtelnefngkdfcoaaGreat
open Go.RowKit Hf
namespace Hf
def flats(cs:List Int):Nat->List Int
 | 0=>cs
 | k+1=>(flats cs k).map flatC
set_option maxRecDepth 100000 in
theorem flats_length(cs:List Int):∀k,(flats cs k).length=cs.length
 | 0=>rfl
 | k+1=>by rw[flats,List.length_map,flats_length cs k]
set_option maxRecDepth 100000 in
theorem flatC_map_getD(X:List Int)(p:Nat):(X.map flatC).getD p 0=flatC (X.getD p 0):=by
 simp only[List.getD,List.getElem?_map]
 cases X[p]? with
 | none=>rfl
 | some x=>rfl
set_option maxRecDepth 100000 in
theorem flats_rng{cs:List Int}(hc:∀k,0<=cs.getD k 0∧cs.getD k 0<=1073741824):∀k p,0<=(flats cs k).getD p 0∧(flats cs k).getD p 0<=1073741824
 | 0,p=>hc p
 | k+1,p=>by
   rw[flats,flatC_map_getD]
   have:=flats_rng hc k p
   unfold flatC;split<;>omega
set_option maxRecDepth 100000 in
theorem flat_sum_le:∀(X:List Int),(∀x∈X,0<=x)->(X.map flatC).sum<=X.sum
 | [],_=>by simp
 | x::X,h=>by
   rw[List.map_cons,List.sum_cons,List.sum_cons]
   have h1:=flat_sum_le X (fun y hy=>h y (by simp[hy]))
   have h2:=h x (by simp)
   have:flatC x<=x:=by unfold flatC;split<;>omega
   omega
set_option maxRecDepth 100000 in
theorem flat_sum_lt:∀(X:List Int),(∀x∈X,0<=x)->(∃x∈X,3<=x)->(X.map flatC).sum<X.sum
 | [],_,h=>by obtain⟨x,hx,_⟩:=h;simp at hx
 | x::X,h,h3=>by
   rw[List.map_cons,List.sum_cons,List.sum_cons]
   have h1:=flat_sum_le X (fun y hy=>h y (by simp[hy]))
   have h2:=h x (by simp)
   by_cases c:3<=x
   ·have:flatC x<x:=by unfold flatC;split<;>omega
    omega
   ·have:flatC x<=x:=by unfold flatC;split<;>omega
    obtain⟨y,hy,hy3⟩:=h3
    rw[List.mem_cons] at hy
    have h4:=flat_sum_lt X (fun z hz=>h z (by simp[hz])) ⟨y,by
     rcases hy with hy | hy
     ·omega
     ·exact hy,hy3⟩
    omega
set_option maxRecDepth 100000 in
theorem sum_nonneg:∀(X:List Int),(∀x∈X,0<=x)->0<=X.sum
 | [],_=>by simp
 | x::X,h=>by
   rw[List.sum_cons]
   have h1:=sum_nonneg X (fun y hy=>h y (by simp[hy]))
   have h2:=h x (by simp)
   omega
set_option maxRecDepth 100000 in
theorem flats_less{cs:List Int}(hn:cs.length<=512)(hc:∀k,0<=cs.getD k 0∧cs.getD k 0<=1073741824)(k:Nat)(hd:(depthsL (flats cs k)).any deepC=true):(flats cs (k+1)).sum.toNat<(flats cs k).sum.toNat:=by
 have hp:∀x∈flats cs k,0<=x:=fun x hx=>by
  obtain⟨p,_,e⟩:=mem_getD hx
  have:=flats_rng hc k p
  omega
 have h3:∃x∈flats cs k,3<=x:=by
  apply Classical.byContradiction
  intro hno
  have:=dep_flat (flats cs k) (by rw[flats_length];exact hn) (fun p=>⟨(flats_rng hc k p).1,by
   by_cases hpl:p<(flats cs k).length
   ·apply Classical.byContradiction
    intro hh
    exact hno ⟨_,Hf.getD_in p hpl,by omega⟩
   ·have:(flats cs k).getD p 0=0:=by simp[List.getD,List.getElem?_eq_none (show(flats cs k).length<=p by omega)]
    omega⟩)
  rw[this] at hd
  exact Bool.noConfusion hd
 have h1:=flat_sum_lt _ hp h3
 have h2:=sum_nonneg ((flats cs k).map flatC) (fun y hy=>by
  rw[List.mem_map] at hy
  obtain⟨x,hx,rfl⟩:=hy
  have:=hp x hx
  unfold flatC;split<;>omega)
 rw[flats]
 omega
set_option maxRecDepth 100000 in
theorem dep_top(cs:List Int)(hn:cs.length<=512)(hc:∀k,0<=cs.getD k 0∧cs.getD k 0<=1073741824)(u:Nat):0<=(depthsL cs).getD u 0∧(depthsL cs).getD u 0<=1024:=by
 by_cases hu:u<cs.length
 ·refine⟨by have:=dep_cases cs hc u hu;omega,?_⟩
  by_cases h:0<cs.getD u 0
  ·obtain⟨j,hj,e⟩:=srt_all cs u hu h
   by_cases hm:(srt cs).length=1
   ·obtain rfl:j=0:=by omega
    rw[<-e,dep_one cs hm];omega
   ·rw[<-e,dep_at cs hc (by omega) j hj]
    have h1:=(treeN_ups cs hc (by omega)).2
    have h2:=dv_rng (treeN cs) j
    have h3:=srt_len cs
    have h4:=nz_len cs cs.length
    omega
  ·have:=dep_cases cs hc u hu
   omega
 ·have:(depthsL cs).getD u 0=0:=by simp[List.getD,List.getElem?_eq_none (show(depthsL cs).length<=u by rw[dep_long];omega)]
  omega
end Hf
def rowOf(w:World)(g n:Nat):List Int:=(List.range n).map (fun j=>match w.cell? ⟨g,j,none⟩ with | some (.int _ x)=>x | _=>0)
set_option maxRecDepth 100000 in
theorem rowOf_own{w:World}{B e g n cap:Nat}{X:List Int}(h:w.ownsRow B e 1 (.slice (some ⟨g,0,none⟩) n cap) n (X.map (Value.int .i64)))(hl:X.length=n):rowOf w g n=X:=by
 refine li_ext (by simp[rowOf,hl]) (fun i hi=>?_)
 have hin:i<n:=by simpa [rowOf] using hi
 have c:=own_cell h hl i hin
 unfold rowOf
 simp[List.getD,hin,c]
set_option maxRecDepth 100000 in
set_option maxHeartbeats 1600000 in
theorem lengths_all(ad:Addr)(cap:Nat)(cs:List Int)(w:World)(hr:Ri w .i64 (some ad) cap cs)(hc:areC cs=true)(h60:cs.length<=512)(hne:0<cs.length):
 Calls Tryz.prog 58 #[.slice (some ad) cs.length cap] w fun e w'=>∃v k,e= .returned (.tuple #[v,.int .i64 0])∧(∀j,j<k->(depthsL (flats cs j)).any deepC=true)∧(depthsL (flats cs k)).any deepC=false∧w'.ownsRow w.heap.size 3 1 v cs.length ((depthsL (flats cs k)).map (Value.int .i64))∧Below w.heap.size w w':=by
 have hcr:=areC_rng hc
 have HA:=hid (are_word (some ad) cap cs w hr)
 rw[hc] at HA
 have HC:=hid (clone_word ad cap cs w hr (by omega))
 have HW:Hid (∀k j,(Lit.int .i64 ((flats cs k).getD j 0)).wf=true):=fun k j=>by have:=flats_rng hcr.2 k j;exact wf_mk_i64 (by omega) (by omega)
 have HDW:Hid (∀k j,(Lit.int .i64 ((depthsL (flats cs k)).getD j 0)).wf=true):=fun k j=>by have:=dep_top (flats cs k) (by rw[flats_length];omega) (flats_rng hcr.2 k) j;exact wf_mk_i64 (by omega) (by omega)
 have HDL:Hid (∀k,(depthsL (flats cs k)).length=cs.length):=fun k=>by rw[dep_long,flats_length]
 have HFL:Hid (∀k,(flats cs k).length=cs.length):=fun k=>flats_length cs k
 have HD:Hid (∀(k:Nat) (W:World) (g cp:Nat),W.ownsRow w.heap.size 3 1 (.slice (some ⟨g,0,none⟩) cs.length cp) cs.length ((flats cs k).map (Value.int .i64))->Calls Tryz.prog 90 #[.slice (some ⟨g,0,none⟩) cs.length cp] W fun e w'=>∃v,e= .returned v∧w'.ownsRow W.heap.size 3 1 v cs.length ((depthsL (flats cs k)).map (Value.int .i64))∧Below W.heap.size W w'):=by
  intro k W g cp ho
  have ho2:=ho
  rw[show W.ownsRow w.heap.size 3 1 (.slice (some ⟨g,0,none⟩) cs.length cp) cs.length ((flats cs k).map (Value.int .i64))=W.ownsRow w.heap.size 3 1 (.slice (some ⟨g,0,none⟩) cs.length cp) (flats cs k).length ((flats cs k).map (Value.int .i64)) from by rw[flats_length]] at ho2
  obtain⟨a1,c1,e,hr1⟩:=Ri.own ho2 (HW.out k)
  injection e with e1 e2 e3
  subst e1 e3
  have h:=depths_word _ _ (flats cs k) W hr1 (by rw[flats_length];omega) (flats_rng hcr.2 k) (by have:=nz_len (flats cs k) (flats cs k).length;rw[flats_length] at this;unfold mostS;rw[flats_length];omega)
  rw[flats_length] at h
  refine h.mono ?_
  rintro _ w' ⟨v,rfl,h1,h2⟩
  rw[dep_long,flats_length] at h1
  exact⟨v,rfl,h1,h2⟩
 have HX:Hid (∀(k:Nat) (W:World) (a2:Option Addr) (c2:Nat),W.ownsRow w.heap.size 3 1 (.slice a2 cs.length c2) cs.length ((depthsL (flats cs k)).map (Value.int .i64))->Calls Tryz.prog 91 #[.slice a2 cs.length c2,.func (.func 92) #[] #[]] W fun e w'=>e= .returned (.bool ((depthsL (flats cs k)).any deepC))∧w'=W):=by
  intro k W a2 c2 ho
  have ho2:=ho
  rw[show W.ownsRow w.heap.size 3 1 (.slice a2 cs.length c2) cs.length ((depthsL (flats cs k)).map (Value.int .i64))=W.ownsRow w.heap.size 3 1 (.slice a2 cs.length c2) (depthsL (flats cs k)).length ((depthsL (flats cs k)).map (Value.int .i64)) from by rw[HDL.out]] at ho2
  obtain⟨a1,c1,e,hr1⟩:=Ri.own ho2 (HDW.out k)
  injection e with e1 e2 e3
  subst e1 e3
  have h:=contains_29 _ _ (depthsL (flats cs k)) W hr1
  rwa[HDL.out] at h
 have HFT:Hid (∀(k:Nat) (W:World) (g cp:Nat),W.ownsRow w.heap.size 3 1 (.slice (some ⟨g,0,none⟩) cs.length cp) cs.length ((flats cs k).map (Value.int .i64))->Calls Tryz.prog 93 #[.slice (some ⟨g,0,none⟩) cs.length cp] W fun e w'=>e= .returned (.tuple #[])∧w'.ownsRow w.heap.size 3 1 (.slice (some ⟨g,0,none⟩) cs.length cp) cs.length ((flats cs (k+1)).map (Value.int .i64))∧W.grownBy w' (some g)):=fun k W g cp ho=>flatten_word cs.length cp w.heap.size g (flats cs k) W (by omega) (flats_length cs k) (fun j=>(flats_rng hcr.2 k j).2) ho
 have HLS:Hid (∀k,(depthsL (flats cs k)).any deepC=true->(flats cs (k+1)).sum.toNat<(flats cs k).sum.toNat):=fun k=>flats_less h60 hcr.2 k
 clear hr hc hcr
 obtain⟨len,hl⟩:∃n,n=cs.length:=⟨_,rfl⟩
 rw[<-hl] at HA HC HD HX HFT HDL HFL h60 hne|-
 clear hl
 go_enter Tryz.func58,Tryz.ntmps58
 go_wp2_with fail
 refine HA.out.mono ?_
 rintro _ w1 ⟨rfl,hw⟩
 obtain rfl:=hw.symm
 clear hw
 go_wp2_with fail
 refine HC.out.mono ?_
 rintro _ w1 ⟨v1,rfl,ho1,hb1⟩
 obtain⟨g,cp,rfl,hg,_⟩:=own_some ho1 hne
 have HD1:=hid (HD.out 0 w1 g cp ho1)
 have HO1:=hid ho1
 have HB1:=hid hb1
 have HGE:=hid hg
 clear ho1 hb1 hg HA HC
 go_wp2_with fail
 refine HD1.out.mono ?_
 rintro _ w2 ⟨v2,rfl,ho2,hb2⟩
 obtain⟨g2,cp2,rfl,hg2,_⟩:=own_some ho2 hne
 have HO2:=hid (own_low ho2 HB1.out.size)
 have HOW2:=hid (own_later HO1.out hb2)
 have HB2:=hid (Bn HB1.out hb2)
 clear ho2 hb2 hg2 HD1 HO1 HB1
 go_wp2
 go_loopw [5] (fun y wr=>∃k g3 cp3:Nat,y= .slice (some ⟨g3,0,none⟩) len cp3∧Hid (∀j,j<k->(depthsL (flats cs j)).any deepC=true)∧Hid (wr.ownsRow w.heap.size 3 1 (.slice (some ⟨g,0,none⟩) len cp) len ((flats cs k).map (Value.int .i64)))∧Hid (wr.ownsRow w.heap.size 3 1 (.slice (some ⟨g3,0,none⟩) len cp3) len ((depthsL (flats cs k)).map (Value.int .i64)))∧Hid (Below w.heap.size w wr)) (fun _ wr=>(rowOf wr g len).sum.toNat)
 case atStart=>exact⟨0,g2,cp2,rfl,fun j hj=>by omega,HOW2,HO2,HB2⟩
 case round=>
  clear HOW2 HO2 HB2
  obtain⟨k,g3,cp3,rfl,HK,HOW,HO,HB⟩:=hrel
  have HXK:=hid (HX.out k wr _ _ HO.out)
  have HM:=hid (rowOf_own HOW.out (HFL.out k))
  cases hdk:(depthsL (flats cs k)).any deepC with
  | true=>
    rw[hdk] at HXK
    have HK2:Hid (∀j,j<k+1->(depthsL (flats cs j)).any deepC=true):=fun j hj=>by
     by_cases e:j=k
     ·rw[e];exact hdk
     ·exact HK.out j (by omega)
    have HLT:=hid (HLS.out k hdk)
    clear hdk HK
    go_wp2_with fail
    refine HXK.out.mono ?_
    rintro _ w3 ⟨rfl,hw⟩
    obtain rfl:=hw.symm
    clear hw
    have HF:=hid (HFT.out k _ g cp HOW.out)
    clear HXK
    go_wp2_with fail
    refine HF.out.mono ?_
    rintro _ w4 ⟨rfl,ho4,hg4⟩
    have HB4:=hid (HB.out.grown hg4 HB.out.size (fun j hj=>by injection hj with hj;have:=HGE.out;omega))
    have HD4:=hid (HD.out (k+1) w4 g cp ho4)
    have HO4:=hid ho4
    clear ho4 hg4 HF HOW HO HB
    go_wp2_with fail
    refine HD4.out.mono ?_
    rintro _ w5 ⟨v5,rfl,ho5,hb5⟩
    obtain⟨g5,cp5,rfl,_,_⟩:=own_some ho5 hne
    have HO5:=hid (own_low ho5 HB4.out.size)
    have HOW5:=hid (own_later HO4.out hb5)
    have HB5:=hid (Bn HB4.out hb5)
    have HM5:=hid (rowOf_own HOW5.out (HFL.out (k+1)))
    clear ho5 hb5 HD4 HO4 HB4
    go_wp2
    exact⟨⟨k+1,g5,cp5,rfl,HK2,HOW5,HO5,HB5⟩,by rw[HM.out,HM5.out];exact HLT.out⟩
  | false=>
    rw[hdk] at HXK
    have HDK:=hid hdk
    clear hdk
    go_wp2_with fail
    refine HXK.out.mono ?_
    rintro _ w3 ⟨rfl,hw⟩
    obtain rfl:=hw.symm
    clear hw HXK
    go_wp2
    go_ret2
    exact⟨_,k,rfl,HK.out,HDK.out,HO.out,HB.out⟩
end Go.Proofs.YtelnefngkdfcoaaGreat
