/-
 PackReads is proved for every input, as a tied card: the chunk with whose blocks any bytes begin, or why there is none, is as the document says; no condition but that the tables of package sha start as the text lays them.
-/
import Derived.Test.YtibjlbcnapoblaaGreatDoorPart36
namespace Go.Proofs.YtibjlbcnapoblaaGreatDoor.packReads
open Go.ChangeShapes Go.WideShapes Go.ChangeAt Go.RowKit Hf Lz
set_option maxHeartbeats 3200000 in
set_option maxRecDepth 100000 in
theorem walk(a:Option Addr)(c0:Nat)(l0:List Int)(w:World)(hL:Sh.Laid w)(hr:Ri w .u8 a c0 l0):
 Calls Tryz.prog 5 #[.slice a l0.length c0] w fun e w'=>e= .returned (.bool true)∧Below w.heap.size w w':=by
 have C1:=hid (Xa3 a c0 2100 l0 w hr (by decide))
 have hn1:(l0.take 2100).length<=2100:=List.length_take_le _ _
 have r1:=hr.take 2100
 generalize l0.take 2100=bs at *
 have HAL:Hid (∀V,Below w.heap.size w V->Calls Tryz.prog 15 #[] V fun e w'=>e= .returned (.bool true)∧Below V.heap.size V w'):=fun V hV=>Xe8 V (hL.later hV)
 have HRE:=hid (Xbc a c0 bs w r1 (by omega) hL)
 have HRD:Hid (∀V,Below w.heap.size w V->Calls Tryz.prog 19 #[.slice a bs.length c0] V (Qjn (Qzx bs) V)):=fun V hV=>Xd1 a c0 bs V (r1.later hV) hn1
 unfold Qjn at HRE HRD
 generalize l0.length=L0 at *
 clear hr hL r1
 generalize Qzx bs=R at *
 obtain⟨er,cs,q⟩:=R
 dsimp only at HRE HRD
 generalize bs.length=L at *
 have e1:(er==er)=true:=by simp
 go_enter Tryz.func5,Tryz.ntmps5
 go_wp2_with fail
 refine C1.out.mono ?_
 rintro _ w9 ⟨rfl,hw⟩
 obtain rfl:=hw.symm
 clear hw C1
 go_wp2_with fail
 refine HRE.out.mono ?_
 rintro _ W1 ⟨hb1,hp⟩
 have HB1:=hid hb1
 have HRD1:=hid (HRD.out W1 hb1)
 clear hb1 HRE HRD
 rcases hp with ⟨hne,rfl⟩ | ⟨h0,a1,c1,rfl,hr1⟩
 ·have hnil:∀V,(convert 22 9 (.slice none 0 0)).run Tryz.prog V= .ok (.string (strOfNums [])) V:=fun V=>Ri.text (w:=V) (a:=none) (cap:=0) (zs:= []) ⟨Nat.le_refl _,by unfold maxLen;omega,fun h=>absurd h (by simp),fun j=>rfl⟩ V (Below.refl _ _)
  generalize strOfNums []=st at *
  have e3:(st.toList==st.toList)=true:=by simp
  go_wp2_with fail
  refine HRD1.out.mono ?_
  rintro _ W2 ⟨hb2,hp⟩
  have HB2:=hid (Bn HB1.out hb2)
  have HA2:=hid (HAL.out W2 HB2.out)
  clear hb2 HRD1 HB1 HAL
  rcases hp with ⟨_,rfl⟩ | ⟨h0,_⟩
  ·have t1:=hnil W2
   clear hnil hne
   go_wp2_with fail
   refine HA2.out.mono ?_
   rintro _ W3 ⟨rfl,hb3⟩
   have HB3:=hid (Bn HB2.out hb3)
   clear hb3 HA2 t1
   go_wp2_with fail
   go_ret
   exact⟨rfl,HB3.out⟩
  ·exact absurd h0 hne
 ·subst h0
  have HT1:Hid (∀V,Below W1.heap.size W1 V->(convert 22 9 (.slice a1 cs.length c1)).run Tryz.prog V= .ok (.string (strOfNums cs)) V):=fun V hV=>hr1.text V hV
  have e4:((q:Int)==(q:Int))=true:=by simp
  clear hr1
  go_wp2_with fail
  refine HRD1.out.mono ?_
  rintro _ W2 ⟨hb2,hp⟩
  have HB2:=hid (Bn HB1.out hb2)
  have HA2:=hid (HAL.out W2 HB2.out)
  have t1:=HT1.out W2 hb2
  clear hb2 HRD1 HB1 HAL HT1
  rcases hp with ⟨hne,_⟩ | ⟨_,a2,c2,rfl,hr2⟩
  ·exact absurd rfl hne
  ·have t2:=hr2.text W2 (Below.refl _ _)
   clear hr2
   generalize strOfNums cs=st at *
   generalize cs.length=cl at *
   have e3:(st.toList==st.toList)=true:=by simp
   go_wp2_with fail
   refine HA2.out.mono ?_
   rintro _ W3 ⟨rfl,hb3⟩
   have HB3:=hid (Bn HB2.out hb3)
   clear hb3 HA2 t1 t2
   go_wp2_with fail
   go_ret
   exact⟨rfl,HB3.out⟩
set_option maxRecDepth 100000 in
theorem lifted(os:Os)(started:os.Started)(H:Type)(enc:TypeId×Value->H):
 ReturnsInHanded {} Tryz.checked os 5 .any (fun w args=>(Rows.packReadsSpec.pre enc Tryz.prog Tryz.f5 [] false w args∧laidMetH Tryz.prog Xcq w)∧sizedMet enc Tryz.prog Tryz.f5 (OpenSpec.ofChange Rows.packReadsSpec) false w args)
  (Rows.packReadsSpec.post enc Tryz.prog Tryz.f5 false true false false):=by
 refine returnsInHanded_of_change_and (C:=Tryz.checked) (X:=fun w _=>laidMetH Tryz.prog Xcq w) (fun _ _ _ hh h=>h.of_heap hh) own started (by kernel_rfl) Tryz.func5
  (ChangeSpec.witness_shaped (enc:=enc) (C:=Tryz.checked) (os:=os) (X:=fun w _=>laidMetH Tryz.prog Xcq w) false (World.doorLaid Tryz.prog 400 os) #[.slice none 0 0] 8 rfl (World.shaped_of_RefB (by kernel_rfl) (by kernel_rfl)) (by kernel_rfl) (by kernel_rfl) (by kernel_rfl) (Xem os _)) ?_
 intro W base args ds gs before hval0 hW _ _ hL _
 have hval:∀(j:Nat) t v,Tryz.f5.params[j]?=some t->args[j]?=some v->Value.okWide Tryz.prog W .any base t v:=hval0
 have hW':=hW
 obtain⟨p,q,hA0,hV,rfl,_,_⟩:=hW
 have hA:DataW.TrodAll enc Tryz.prog W 0 (fun _=>true) true Tryz.f5.params.toList args.toList ds p:=hA0
 rw[Tryz.params5] at hA hval
 obtain⟨v0,vs0,d0,ds0,p0,q0,hargs,rfl,rfl,h0,r0⟩:=trodAll_cons hA
 obtain⟨rfl,rfl,rfl⟩:=trodAll_nil r0
 obtain rfl:args= #[v0]:=by cases args;simp_all
 obtain⟨rfl,rfl⟩:=trodVars_none hV
 have hlaid:=Xjd hL
 clear hA0
 simp only[List.append_nil] at hW'
 have hlt0:∀x∈p0,x.block<W.heap.size:=fun x hx=>hW'.lt x (by simp[hx])
 have hk0:=h0
 obtain⟨a0,cap0,l0,rfl,hr0⟩:=Xii Tryz.underlying22 Tryz.underlying5 Tryz.cells5 (hval 0 22 v0 rfl rfl) h0 hlt0
 clear hval0
 refine(walk a0 cap0 l0 W hlaid hr0).mono fun e W' ⟨he,hb⟩=>?_
 subst he
 exact⟨_,rfl,_,_,_,[]++ [],_,[],hW',trodAll_cons_mk (shut_bool Tryz.underlying4 _) trodAll_mk0,(trodAll_cons_mk (Below.trod Tryz.laidOut (by kernel_rfl) (of_decide_eq_true (by kernel_rfl)) hk0 hb hlt0) trodAll_mk0),rfl,hb.frame _,fun h=>by cases h⟩
theorem over:Rows.packReadsRow.holds Tryz.pinned (OpenSpec.ofChange Rows.packReadsSpec):=
 OpenClaim.holds_of_wide 5 Tryz.f5 rfl rfl rfl rfl rfl rfl rfl ⟨rfl,rfl,rfl,rfl,rfl⟩ rfl rfl rfl rfl rfl (by kernel_rfl) Tryz.func5 (by kernel_rfl)
  (of_decide_eq_true (by kernel_rfl)) (by unfold Func.isWrapper;first | (rw[if_pos (by decide +kernel)];kernel_rfl) | (rw[if_neg (by decide +kernel)];exact⟨rfl,rfl⟩))
  (fun os started H enc _=>lifted os started H enc)
theorem card:Rows.PackReadsCardSaid:=
 Claim7.holds_tied_plain_at .later [] [.data,.data] true (true, "633fa4ac238961f8ea75229e9571942cafb5f99988f42aab7627898757faa6c6") true
  over (fun _ h=>by cases h) (by kernel_rfl) (fun _ h=>by cases h) packReads_row_tie rfl ⟨rfl,rfl⟩ (by kernel_rfl) rfl
  (fun f fn hf hfn=>by
   obtain rfl:f=5:=Option.some.inj ((show Tryz.prog.funcNamed "saltern/salternlaw11.PackReads" = some 5 by kernel_rfl).symm.trans hf) |>.symm
   obtain rfl:fn=Tryz.f5:=(Option.some.inj (Tryz.func5.symm.trans hfn)).symm
   exact⟨by kernel_rfl,fun j t ht=>by
    rw[Tryz.params5] at ht
    have hm:t ∈ [22]:=by simpa using Array.mem_of_getElem? ht
    have hall:([22].all fun u=> !Tryz.prog.wantsStandIn u)=true:=by kernel_rfl
    exact(show Tryz.prog.wantsStandIn t=false by simpa using List.all_eq_true.1 hall t hm)⟩)
  (by kernel_rfl)
end Go.Proofs.YtibjlbcnapoblaaGreatDoor.packReads
namespace Go.Proofs.YtibjlbcnapoblaaGreatDoor
theorem packReads_holds:Rows.PackReadsCardSaid:=packReads.card
#print axioms packReads_holds
end Go.Proofs.YtibjlbcnapoblaaGreatDoor
