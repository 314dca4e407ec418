/-
 CodecUnpacks is proved for every input: the tokens of any bytes are as the document says; no condition.
-/
import Derived.Test.YtelnefngkdfcoaaGreatPart07
import Derived.Test.YtelnefngkdfcoaaGreatPart24
import Derived.Test.YtelnefngkdfcoaaGreatPart31
import Derived.Test.YtelnefngkdfcoaaGreatPart22
namespace Go.Proofs.YtelnefngkdfcoaaGreat.codecUnpacks
open Go.ChangeShapes Go.WideShapes Go.ChangeAt Go.RowKit Lz Hf
theorem own:ownKnob Tryz.prog.godebug=none:=by kernel_rfl
theorem rt_nil(w:World):Rt w none 0 []:=⟨Nat.le_refl _,by unfold maxLen;omega,fun h=>absurd h (by simp),fun j h=>absurd h (by simp)⟩
set_option maxHeartbeats 3200000 in
set_option maxRecDepth 100000 in
theorem walk(a:Option Addr)(cap:Nat)(zs:List Int)(w:World)(hr:Ri w .u8 a cap zs):
 Calls Tryz.prog 4 #[.slice a zs.length cap] w fun e w'=>e= .returned (.bool true)∧Below w.heap.size w w':=by
 have hnb:(zs.take 700).length<=700:=List.length_take_le _ _
 have C1:=hid (cut7_any a cap zs w hr)
 have r1:=hr.take 700
 generalize zs.take 700=bs at *
 have HU:=hid (unpack_word a cap bs w r1 (by omega))
 have HRN:Hid (∀W,Below w.heap.size w W->Calls Tryz.prog 13 #[.slice a bs.length cap] W (UnpPost bs W)):=fun W hW=>runp_ref a cap bs W (r1.later hW) (by omega)
 unfold UnpPost at HU HRN
 clear hr r1 hnb
 generalize zs.length=L0 at *
 generalize bs.length=ll at *
 generalize unpO bs=R at *
 go_enter Tryz.func4,Tryz.ntmps4
 go_wp2_with fail
 refine C1.out.mono ?_
 rintro _ w0 ⟨rfl,hw⟩
 obtain rfl:=hw.symm
 clear hw C1
 go_wp2_with fail
 refine HU.out.mono ?_
 rintro _ w1 ⟨hb1,he⟩
 have HRN1:=hid (HRN.out w1 hb1)
 have HB1:=hid hb1
 clear hb1 HU HRN
 have SAME:∀(l:List Tkz) (e:Int) (a1 a2:Option Addr) (c1 c2:Nat) (W:World),Rt W a1 c1 l->Rt W a2 c2 l->Calls Tryz.prog 14 #[.slice a1 l.length c1,.slice a2 l.length c2] W fun e w'=>e= .returned (.bool true)∧Below W.heap.size W w':=fun l _ a1 a2 c1 c2 W h1 h2=>same_ref a1 c1 l a2 c2 W h1 h2
 cases R with
 | none=>
   dsimp only at he HRN1
   subst he
   have HS:=hid (fun W=>same_ref none 0 [] none 0 W (rt_nil W) (rt_nil W))
   simp only[List.length_nil] at HS
   clear SAME
   go_wp2_with fail
   refine HRN1.out.mono ?_
   rintro _ w2 ⟨hb2,he⟩
   subst he
   have HB2:=hid (Bn HB1.out hb2)
   clear hb2 HRN1 HB1
   go_wp2_with fail
   refine(HS.out w2).mono ?_
   rintro _ w3 ⟨rfl,hb3⟩
   have HB3:=hid (Bn HB2.out hb3)
   clear hb3 HS HB2
   go_wp2_with fail
   refine(alive_any _).mono ?_
   rintro _ w4 ⟨rfl,hb4⟩
   have HB4:=hid (Bn HB3.out hb4)
   clear hb4
   go_wp2_with fail
   go_ret
   exact⟨rfl,HB4.out⟩
 | some l=>
   dsimp only at he HRN1
   obtain⟨a1,c1,rfl,h1⟩:=he
   have HT1:=hid h1
   have HSM:=hid SAME
   clear h1 SAME
   go_wp2_with fail
   refine HRN1.out.mono ?_
   rintro _ w2 ⟨hb2,he⟩
   obtain⟨a2,c2,rfl,h2⟩:=he
   have HB2:=hid (Bn HB1.out hb2)
   have HS:=hid (HSM.out l 0 a1 a2 c1 c2 w2 (HT1.out.later hb2) h2)
   clear hb2 h2 HT1 HRN1 HB1 HSM
   generalize l.length=n at *
   go_wp2_with fail
   refine HS.out.mono ?_
   rintro _ w3 ⟨rfl,hb3⟩
   have HB3:=hid (Bn HB2.out hb3)
   clear hb3 HS HB2
   go_wp2_with fail
   refine(alive_any _).mono ?_
   rintro _ w4 ⟨rfl,hb4⟩
   have HB4:=hid (Bn HB3.out hb4)
   clear hb4
   go_wp2_with fail
   go_ret
   exact⟨rfl,HB4.out⟩
set_option maxRecDepth 100000 in
theorem lifted(os:Os)(started:os.Started)(H:Type)(enc:TypeId×Value->H):
 ReturnsInHanded {} Tryz.checked os 4 .any (Rows.codecUnpacksSpec.pre6 enc Tryz.prog Tryz.f4 Rows.codecUnpacksRow.domain false) (Rows.codecUnpacksSpec.post enc Tryz.prog Tryz.f4 false true false false):=by
 refine returnsInHanded_of_change (C:=Tryz.checked) own started (by kernel_rfl) Tryz.func4
  (ChangeSpec.witness6 (enc:=enc) (C:=Tryz.checked) false ⟨#[],#[.slice none 0 0],[]⟩ 8 (by kernel_rfl) (by kernel_rfl) (by kernel_rfl) (by kernel_rfl)) ?_
 intro W base args ds gs before hval0 hW _ _
 have hval:∀(j:Nat) t v,Tryz.f4.params[j]?=some t->args[j]?=some v->Value.okWide Tryz.prog W .any base t v:=hval0
 have hW':=hW
 obtain⟨p,q,hA0,hV,rfl,_,_⟩:=hW
 have hA:DataW.TrodAll enc Tryz.prog W 0 (fun _=>true) true Tryz.f4.params.toList args.toList ds p:=hA0
 rw[Tryz.params4] at hA hval
 obtain⟨v0,vs0,d0,ds0,p0,q0,hargs,rfl,rfl,h0,r0⟩:=trodAll_cons hA
 obtain⟨rfl,rfl,rfl⟩:=trodAll_nil r0
 obtain rfl:args= #[v0]:=by cases args;simp_all
 obtain⟨rfl,rfl⟩:=trodVars_none hV
 clear hA0
 simp only[List.append_nil] at hW'
 have hlt0:∀x∈p0,x.block<W.heap.size:=fun x hx=>hW'.lt x (by simp[hx])
 have hk0:=h0
 obtain⟨a0,cap0,zs0,rfl,hr0⟩:=open_ri Tryz.underlying24 Tryz.underlying5 Tryz.cells5 (hval 0 24 v0 rfl rfl) h0 hlt0
 clear hval0
 refine(walk a0 cap0 zs0 W hr0).mono fun e W' ⟨he,hb⟩=>?_
 subst he
 exact⟨_,rfl,_,_,_,[]++ [],_,[],hW',trodAll_cons_mk (shut_bool Tryz.underlying4 _) trodAll_mk0,(trodAll_cons_mk (Below.trod Tryz.laidOut (by kernel_rfl) (of_decide_eq_true (by kernel_rfl)) hk0 hb hlt0) trodAll_mk0),rfl,hb.frame _,fun h=>by cases h⟩
theorem over:Rows.codecUnpacksRow.holds Tryz.pinned (OpenSpec.ofChange Rows.codecUnpacksSpec):=
 OpenClaim.holds_of_wide 4 Tryz.f4 rfl rfl rfl rfl rfl rfl rfl ⟨rfl,rfl,rfl,rfl,rfl⟩ rfl rfl rfl rfl rfl (by kernel_rfl) Tryz.func4 (by kernel_rfl)
  (of_decide_eq_true (by kernel_rfl)) (by unfold Func.isWrapper;first | (rw[if_pos (by decide +kernel)];kernel_rfl) | (rw[if_neg (by decide +kernel)];exact⟨rfl,rfl⟩))
  (fun os started H enc _=>lifted os started H enc)
end Go.Proofs.YtelnefngkdfcoaaGreat.codecUnpacks
namespace Go.Proofs.YtelnefngkdfcoaaGreat
theorem codecUnpacks_holds:Rows.CodecUnpacksSaid:=codecUnpacks.over
#print axioms codecUnpacks_holds
end Go.Proofs.YtelnefngkdfcoaaGreat
