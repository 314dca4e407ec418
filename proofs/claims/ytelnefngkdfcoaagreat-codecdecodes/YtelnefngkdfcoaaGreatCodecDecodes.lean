/-
 CodecDecodes is proved for every input: the row of any bytes, and what their head says, are as the document says; no condition.
-/
import Derived.Test.YtelnefngkdfcoaaGreatPart07
import Derived.Test.YtelnefngkdfcoaaGreatPart24
import Derived.Test.YtelnefngkdfcoaaGreatPart32
namespace Go.Proofs.YtelnefngkdfcoaaGreat.codecDecodes
open Go.ChangeShapes Go.WideShapes Go.ChangeAt Go.RowKit Lz Hf
theorem own:ownKnob Tryz.prog.godebug=none:=by kernel_rfl
set_option maxHeartbeats 3200000 in
set_option maxRecDepth 100000 in
theorem walk(a:Option Addr)(cap:Nat)(zs:List Int)(w:World)(hr:Ri w .u8 a cap zs):
 Calls Tryz.prog 6 #[.slice a zs.length cap] w fun e w'=>e= .returned (.bool true)∧Below w.heap.size w w':=by
 have hnb:(zs.take 700).length<=700:=List.length_take_le _ _
 have C1:=hid (cut7_any a cap zs w hr)
 have r1:=hr.take 700
 generalize zs.take 700=bs at *
 have HD:=hid (decode_word a cap bs w r1 (by omega))
 have HRN:Hid (∀W,Below w.heap.size w W->Calls Tryz.prog 18 #[.slice a bs.length cap] W (DecPost bs W)):=fun W hW=>rdec_ref a cap bs W (r1.later hW) (by omega)
 have HH:Hid (∀W,Below w.heap.size w W->Calls Tryz.prog 19 #[.slice a bs.length cap] W fun e w'=>e= .returned (.tuple #[.int .i64 (hedT bs).1,.bool (hedT bs).2.1,.int .i64 (hedT bs).2.2])∧Below W.heap.size W w'):=fun W hW=>headf_any a cap bs W (r1.later hW)
 have HHR:Hid (∀W,Below w.heap.size w W->Calls Tryz.prog 20 #[.slice a bs.length cap] W fun e w'=>e= .returned (.tuple #[.int .i64 (hedT bs).1,.bool (hedT bs).2.1,.int .i64 (hedT bs).2.2])∧Below W.heap.size W w'):=fun W hW=>rhed_ref a cap bs W (r1.later hW)
 unfold DecPost at HD HRN
 clear hr r1 hnb
 generalize zs.length=L0 at *
 generalize bs.length=ll at *
 generalize rowO bs=R at *
 generalize hedT bs=T at *
 obtain⟨hn,hp,he9⟩:=T
 dsimp only at HH HHR
 have q1:(hn==hn)=true:=by simp
 have q2:(hp==hp)=true:=by simp
 have q3:(he9==he9)=true:=by simp
 go_enter Tryz.func6,Tryz.ntmps6
 go_wp2_with fail
 refine C1.out.mono ?_
 rintro _ w0 ⟨rfl,hw⟩
 obtain rfl:=hw.symm
 clear hw C1
 go_wp2_with fail
 refine HD.out.mono ?_
 rintro _ w1 ⟨hb1,he⟩
 have HRN1:=hid (HRN.out w1 hb1)
 have HB1:=hid hb1
 clear hb1 HD HRN
 cases R with
 | none=>
   dsimp only at he HRN1
   subst he
   have hnil:∀V,(convert 24 9 (.slice none 0 0)).run Tryz.prog V= .ok (.string (strOfNums [])) V:=fun V=>Ri.text (w:=V) (a:=none) (cap:=0) (zs:= []) ⟨Nat.le_refl _,by unfold maxLen;omega,fun h=>absurd h (by simp),fun j=>rfl⟩ V (Below.refl _ _)
   generalize strOfNums []=st at *
   have e3:(st.toList==st.toList)=true:=by simp
   go_wp2_with fail
   refine HRN1.out.mono ?_
   rintro _ w2 ⟨hb2,he⟩
   subst he
   have HB2:=hid (Bn HB1.out hb2)
   have HH2:=hid (HH.out w2 HB2.out)
   clear hb2 HRN1 HB1 HH
   go_wp2_with fail
   refine HH2.out.mono ?_
   rintro _ w3 ⟨rfl,hb3⟩
   have HB3:=hid (Bn HB2.out hb3)
   have HH3:=hid (HHR.out w3 HB3.out)
   clear hb3 HH2 HB2 HHR
   go_wp2_with fail
   refine HH3.out.mono ?_
   rintro _ w4 ⟨rfl,hb4⟩
   have HB4:=hid (Bn HB3.out hb4)
   have t1:=hnil w4
   clear hb4 HH3 HB3 hnil
   go_wp2_with fail
   refine(alive_any _).mono ?_
   rintro _ w5 ⟨rfl,hb5⟩
   have HB5:=hid (Bn HB4.out hb5)
   clear hb5 t1
   go_wp2_with fail
   go_ret
   exact⟨rfl,HB5.out⟩
 | some l=>
   dsimp only at he HRN1
   obtain⟨a1,c1,rfl,h1⟩:=he
   have HT1:Hid (∀V,Below w1.heap.size w1 V->(convert 24 9 (.slice a1 l.length c1)).run Tryz.prog V= .ok (.string (strOfNums l)) V):=fun V hV=>h1.text V hV
   clear h1
   go_wp2_with fail
   refine HRN1.out.mono ?_
   rintro _ w2 ⟨hb2,he⟩
   obtain⟨a2,c2,rfl,h2⟩:=he
   have HB2:=hid (Bn HB1.out hb2)
   have HB12:=hid hb2
   have HT2:Hid (∀V,Below w2.heap.size w2 V->(convert 24 9 (.slice a2 l.length c2)).run Tryz.prog V= .ok (.string (strOfNums l)) V):=fun V hV=>h2.text V hV
   have HH2:=hid (HH.out w2 HB2.out)
   clear hb2 h2 HRN1 HB1 HH
   generalize strOfNums l=st at *
   generalize l.length=n at *
   have e3:(st.toList==st.toList)=true:=by simp
   go_wp2_with fail
   refine HH2.out.mono ?_
   rintro _ w3 ⟨rfl,hb3⟩
   have HB3:=hid (Bn HB2.out hb3)
   have HB23:=hid hb3
   have HH3:=hid (HHR.out w3 HB3.out)
   clear hb3 HH2 HB2 HHR
   go_wp2_with fail
   refine HH3.out.mono ?_
   rintro _ w4 ⟨rfl,hb4⟩
   have HB4:=hid (Bn HB3.out hb4)
   have t1:=HT1.out w4 (Bn HB12.out (Bn HB23.out hb4))
   have t2:=HT2.out w4 (Bn HB23.out hb4)
   clear hb4 HH3 HB3 HT1 HT2 HB12 HB23
   go_wp2_with fail
   refine(alive_any _).mono ?_
   rintro _ w5 ⟨rfl,hb5⟩
   have HB5:=hid (Bn HB4.out hb5)
   clear hb5 t1 t2
   go_wp2_with fail
   go_ret
   exact⟨rfl,HB5.out⟩
set_option maxRecDepth 100000 in
theorem lifted(os:Os)(started:os.Started)(H:Type)(enc:TypeId×Value->H):
 ReturnsInHanded {} Tryz.checked os 6 .any (Rows.codecDecodesSpec.pre6 enc Tryz.prog Tryz.f6 Rows.codecDecodesRow.domain false) (Rows.codecDecodesSpec.post enc Tryz.prog Tryz.f6 false true false false):=by
 refine returnsInHanded_of_change (C:=Tryz.checked) own started (by kernel_rfl) Tryz.func6
  (ChangeSpec.witness6 (enc:=enc) (C:=Tryz.checked) false ⟨#[],#[.slice none 0 0],[]⟩ 8 (by kernel_rfl) (by kernel_rfl) (by kernel_rfl) (by kernel_rfl)) ?_
 intro W base args ds gs before hval0 hW _ _
 have hval:∀(j:Nat) t v,Tryz.f6.params[j]?=some t->args[j]?=some v->Value.okWide Tryz.prog W .any base t v:=hval0
 have hW':=hW
 obtain⟨p,q,hA0,hV,rfl,_,_⟩:=hW
 have hA:DataW.TrodAll enc Tryz.prog W 0 (fun _=>true) true Tryz.f6.params.toList args.toList ds p:=hA0
 rw[Tryz.params6] at hA hval
 obtain⟨v0,vs0,d0,ds0,p0,q0,hargs,rfl,rfl,h0,r0⟩:=trodAll_cons hA
 obtain⟨rfl,rfl,rfl⟩:=trodAll_nil r0
 obtain rfl:args= #[v0]:=by cases args;simp_all
 obtain⟨rfl,rfl⟩:=trodVars_none hV
 clear hA0
 simp only[List.append_nil] at hW'
 have hlt0:∀x∈p0,x.block<W.heap.size:=fun x hx=>hW'.lt x (by simp[hx])
 have hk0:=h0
 obtain⟨a0,cap0,zs0,rfl,hr0⟩:=open_ri Tryz.underlying24 Tryz.underlying5 Tryz.cells5 (hval 0 24 v0 rfl rfl) h0 hlt0
 clear hval0
 refine(walk a0 cap0 zs0 W hr0).mono fun e W' ⟨he,hb⟩=>?_
 subst he
 exact⟨_,rfl,_,_,_,[]++ [],_,[],hW',trodAll_cons_mk (shut_bool Tryz.underlying4 _) trodAll_mk0,(trodAll_cons_mk (Below.trod Tryz.laidOut (by kernel_rfl) (of_decide_eq_true (by kernel_rfl)) hk0 hb hlt0) trodAll_mk0),rfl,hb.frame _,fun h=>by cases h⟩
theorem over:Rows.codecDecodesRow.holds Tryz.pinned (OpenSpec.ofChange Rows.codecDecodesSpec):=
 OpenClaim.holds_of_wide 6 Tryz.f6 rfl rfl rfl rfl rfl rfl rfl ⟨rfl,rfl,rfl,rfl,rfl⟩ rfl rfl rfl rfl rfl (by kernel_rfl) Tryz.func6 (by kernel_rfl)
  (of_decide_eq_true (by kernel_rfl)) (by unfold Func.isWrapper;first | (rw[if_pos (by decide +kernel)];kernel_rfl) | (rw[if_neg (by decide +kernel)];exact⟨rfl,rfl⟩))
  (fun os started H enc _=>lifted os started H enc)
end Go.Proofs.YtelnefngkdfcoaaGreat.codecDecodes
namespace Go.Proofs.YtelnefngkdfcoaaGreat
theorem codecDecodes_holds:Rows.CodecDecodesSaid:=codecDecodes.over
#print axioms codecDecodes_holds
end Go.Proofs.YtelnefngkdfcoaaGreat
