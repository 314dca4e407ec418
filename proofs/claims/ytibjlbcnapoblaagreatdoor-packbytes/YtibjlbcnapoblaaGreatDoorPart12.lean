/- Contracts and facts. -/
import Derived.Test.YtibjlbcnapoblaaGreatDoorPart11
import Derived.Test.YtibjlbcnapoblaaGreatDoorPart02
namespace Go.Proofs.YtibjlbcnapoblaaGreatDoor
set_option maxRecDepth 100000
set_option maxHeartbeats 6400000
section
open Go.RowKit Hf
theorem Qan{w w1:World}{r:Option Nat}(h:w.grownBy w1 r):w.grownBy w1.drew r:=⟨h.os,h.tape,h.output,h.size,h.block⟩
theorem Qah{w w1 w2:World}{g:Nat}(h:w.grownBy w1 (some g))(h2:w1.grownBy w2 (some g)):w.grownBy w2 (some g):=
 ⟨h2.os.trans h.os,h2.tape.trans h.tape,h2.output.trans h.output,Nat.le_trans h.size h2.size,fun k hk hne=>(h2.block k (Nat.lt_of_lt_of_le hk h.size) hne).trans (h.block k hk hne)⟩
theorem Qa3{w:World}{B g n cap e:Nat}{X:List Int}(h:w.ownsRow B e 1 (.slice (some ⟨g,0,none⟩) n cap) n (X.map (Value.int .i64)))(hl:X.length=n)(j:Nat)(hj:j<n):w.cell? ⟨g,j,none⟩=some (.int .i64 (X.getD j 0)):=by
 rw[h.cellAt j (by omega),List.getElem?_map]
 simp[List.getD,List.getElem?_eq_getElem (show j<X.length from by omega)]
theorem Qkm{w:World}{B g n cap e:Nat}{X:List Int}(h:w.ownsRow B e 1 (.slice (some ⟨g,0,none⟩) n cap) n (X.map (Value.int .i64)))(i j:Nat):
 ((w.setCell ⟨g,i,none⟩ (.int .i64 (X.getD j 0))).setCell ⟨g,j,none⟩ (.int .i64 (X.getD i 0))).ownsRow B e 1 (.slice (some ⟨g,0,none⟩) n cap) n ((Qf6 X i j).map (Value.int .i64))∧w.grownBy ((w.setCell ⟨g,i,none⟩ (.int .i64 (X.getD j 0))).setCell ⟨g,j,none⟩ (.int .i64 (X.getD i 0))) (some g):=by
 have h1:=h.stored i (.int .i64 (X.getD j 0))
 have h2:=h1.1.stored j (.int .i64 (X.getD i 0))
 refine⟨?_,Qah h1.2 h2.2⟩
 have e2:(Qf6 X i j).map (Value.int .i64)=((X.map (Value.int .i64)).set i (.int .i64 (X.getD j 0))).set j (.int .i64 (X.getD i 0)):=by
  unfold Qf6;rw[List.map_set,List.map_set]
 rw[e2];exact h2.1
theorem Xfg(a b n cap B gb gs gc oc capc:Nat)(cs o:List Int)(w:World)(hcts:Cts w gb gs gc oc capc cs)(hab:a<=b)(hb:b<=n)(hn:n<=100000)(hl:o.length=n)
 (hown:w.ownsRow B 3 1 (.slice (some ⟨gs,0,none⟩) n cap) n (o.map (Value.int .i64))) (_hcap:n<=cap) (ho:∀u∈o,0<=u∧u<(cs.length:Int)) (hinc:∀p q,a<=p->p<q->q<b->o.getD p 0<o.getD q 0) :
 Calls Tryz.prog 182 #[.slice (some ⟨gs,0,none⟩) n cap,.int .i64 (a:Int),.int .i64 (b:Int),.func (.func 174) #[] #[.pointer (some ⟨gb,0,none⟩)]] w fun e w'=>e= .returned (.tuple #[])∧(∃X,Sorted cs a b o X∧w'.ownsRow B 3 1 (.slice (some ⟨gs,0,none⟩) n cap) n (X.map (Value.int .i64)))∧w.grownBy w' (some gs):=by
 have HO:=hid hown
 have HCT:=hid hcts
 have HOO:=hid ho
 have HIN:=hid hinc
 have HL:=hid hl
 have HEMP:Hid (b<=a+1->Sorted cs a b o o):=fun h=>⟨List.Perm.refl _,fun _ _=>rfl,fun p q h1 h2 h3=>by omega⟩
 clear hown hcts ho hinc hl
 go_enter Tryz.func182,Tryz.ntmps182
 go_wp2
 go_loopw [8] (fun y wr=>∃(i:Nat) (X:List Int),y= .int .i64 i∧a<i∧(i<=b∨i=a+1)∧Hid (Xdu cs a b i o X)∧Hid (wr.ownsRow B 3 1 (.slice (some ⟨gs,0,none⟩) n cap) n (X.map (Value.int .i64)))∧Hid (w.grownBy wr (some gs))∧Hid (i=a+1->X=o)) (fun y _=>b+1-(intOf y).toNat)
 case atStart=>exact⟨a+1,o,by go_num,by omega,by omega,Xdu.start cs a b o HIN.out,HO.out,World.grownBy.refl _ _,fun _=>rfl⟩
 case round=>
  clear HO
  obtain⟨i,X,rfl,hai,hib,HI,HO,HG,HEQ⟩:=hrel
  by_cases hlt:i<b
  ·have hltz:(i:Int)<(b:Int):=by omega
   have HJ0:=hid (Xdu.begin HI.out (by omega) hlt HIN.out)
   clear HI
   go_wp2_with fail
   go_loopw [9] (fun y wr=>∃(j:Nat) (Y:List Int),y= .int .i64 j∧a<=j∧j<=i∧Hid (Xdr cs a b i j o Y)∧Hid (wr.ownsRow B 3 1 (.slice (some ⟨gs,0,none⟩) n cap) n (Y.map (Value.int .i64)))∧Hid (w.grownBy wr (some gs))) (fun y _=>(intOf y).toNat)
   case atStart=>exact⟨i,X,rfl,by omega,Nat.le_refl _,HJ0,HO,HG⟩
   case round=>
    clear HJ0 HO HG
    obtain⟨j,Y,rfl,haj,hji,HJ,HO,HG⟩:=hrel
    have HYL:Hid (Y.length=n):=by show _=_;rw[HJ.out.perm.length_eq,HL.out]
    have HYE:Hid (∀p,p<n->∃u:Nat,Y.getD p 0=(u:Int)∧u<cs.length):=fun p hp=>by
     have hm:Y.getD p 0∈o:=HJ.out.perm.subset (Qbt Y p (by rw[HYL.out];exact hp))
     have:=HOO.out _ hm
     exact⟨(Y.getD p 0).toNat,by omega,by omega⟩
    by_cases hja:a<j
    ·obtain⟨jp,rfl⟩:∃jp,j=jp+1:=⟨j-1,by omega⟩
     obtain⟨u,hu,hul⟩:=HYE.out (jp+1) (by omega)
     obtain⟨v,hv,hvl⟩:=HYE.out jp (by omega)
     have c1:=Qa3 HO.out HYL.out (jp+1) (by omega)
     have c2:=Qa3 HO.out HYL.out jp (by omega)
     rw[hu] at c1
     rw[hv] at c2
     have HC:Hid (∀W,W=wr.drew->Calls Tryz.prog 174 #[.int .i64 (u:Int),.int .i64 (v:Int),.pointer (some ⟨gb,0,none⟩)] W fun e w'=>e= .returned (.int .i64 (Qgg (key cs (u:Int)) (key cs (v:Int))))∧w'=W.drew):=fun W hW=>by
      subst hW
      exact Qii u v gb gs gc oc capc cs _ (HCT.out.kept (Qan HG.out)) hul hvl
     have HWR:Hid (IntKind.i64.wrap (jp:Int)=(jp:Int)):=by show _=_;rw[IntKind.wrap_i64];omega
     have f1:=HO.out.frozenAt (jp+1)
     have f2:=HO.out.frozenAt jp
     have hjn:(jp:Int)+1<(n:Int):=by omega
     have hjz:(a:Int)<(jp:Int)+1:=by omega
     have hj0:(0:Int)<=(jp:Int)+1:=by omega
     have hjpn:jp<n:=by omega
     by_cases hk:key cs (u:Int)<key cs (v:Int)
     ·have HN:Hid (decide (Qgg (key cs (u:Int)) (key cs (v:Int))<0)=true):=decide_eq_true ((Qde _ _).2 hk)
      have hneg:Qgg (key cs (u:Int)) (key cs (v:Int))<0:=(Qde _ _).2 hk
      have hnew:=Xdr.swap HJ.out (by omega) (by omega) (by rw[HYL.out];omega) (by rw[hu,hv];exact hk)
      have HNEW:=hid hnew
      have hsw:=Qkm HO.out (jp+1) jp
      rw[hu,hv] at hsw
      have HSW:=hid hsw
      clear hnew hsw hu hv hk HJ HYE HYL
      generalize Qgg (key cs (u:Int)) (key cs (v:Int))=z at *
      go_wp2_with fail
      refine wp_region_held_drew (S:=fun W=>W.cell? ⟨gs,jp+1,none⟩=some (.int .i64 (u:Int))∧W.cell? ⟨gs,jp,none⟩=some (.int .i64 (v:Int))) (by kernel_rfl) ⟨c1,c2⟩ (fun hS=>?_)
      refine Ord.tk (i:=0) (d:=18) (v:=?v0) rfl rfl ?h0 (by assumption) ?_
      case h0=>intro w hSw;go_simp;try with_reducible rfl
      simp only[Ord.s1,Ord.s2,Ord.s3]
      refine Ord.tk (i:=1) (d:=19) (v:=?v1) rfl rfl ?h1 (by assumption) ?_
      case h1=>intro w hSw;go_simp;try with_reducible rfl
      simp only[Ord.s1,Ord.s2,Ord.s3]
      refine Ord.tk (i:=2) (d:=20) (v:= .bool true) rfl rfl ?h2 (by assumption) ?_
      case h2=>intro w hSw;go_simp;try with_reducible rfl
      simp only[Ord.s1,Ord.s2,Ord.s3]
      refine Ord.tk (i:=3) (d:=21) (v:=?v3) rfl rfl ?h3 (by assumption) ?_
      case h3=>intro w hSw;go_simp;try with_reducible rfl
      simp only[Ord.s1,Ord.s2,Ord.s3]
      refine Ord.tk (i:=4) (d:=22) (v:=?v4) rfl rfl ?h4 (by assumption) ?_
      case h4=>intro w hSw;go_simp;try with_reducible rfl
      simp only[Ord.s1,Ord.s2,Ord.s3]
      refine Ord.tk (i:=5) (d:=23) (v:=?v5) rfl rfl ?h5 (by assumption) ?_
      case h5=>intro w hSw;go_simp;try with_reducible rfl
      simp only[Ord.s1,Ord.s2,Ord.s3]
      refine Ord.tk (i:=6) (d:=24) (v:=?v6) rfl rfl ?h6 (by assumption) ?_
      case h6=>intro w hSw;go_simp;try with_reducible rfl
      simp only[Ord.s1,Ord.s2,Ord.s3]
      refine Ord.tk (i:=7) (d:=25) (v:=?v7) rfl rfl ?h7 (by assumption) ?_
      case h7=>intro w hSw;go_simp;try with_reducible rfl
      simp only[Ord.s1,Ord.s2,Ord.s3]
      refine Ord.tk (i:=8) (d:=26) (v:= .int .i64 (u:Int)) rfl rfl ?h8 (by assumption) ?_
      case h8=>intro w hSw;have e:=hSw.1;go_simp;try with_reducible rfl
      simp only[Ord.s1,Ord.s2,Ord.s3]
      refine Ord.tk (i:=9) (d:=27) (v:=?v9) rfl rfl ?h9 (by assumption) ?_
      case h9=>intro w hSw;go_simp;try with_reducible rfl
      simp only[Ord.s1,Ord.s2,Ord.s3]
      refine Ord.tk (i:=10) (d:=28) (v:=?v10) rfl rfl ?h10 (by assumption) ?_
      case h10=>intro w hSw;go_simp;try with_reducible rfl
      simp only[Ord.s1,Ord.s2,Ord.s3]
      refine Ord.tk (i:=11) (d:=29) (v:= .int .i64 (jp:Int)) rfl rfl ?h11 (by assumption) ?_
      case h11=>intro w hSw;go_simp;exact HWR.out
      simp only[Ord.s1,Ord.s2,Ord.s3]
      refine Ord.tk (i:=12) (d:=30) (v:=?v12) rfl rfl ?h12 (by assumption) ?_
      case h12=>intro w hSw;go_simp;try with_reducible rfl
      simp only[Ord.s1,Ord.s2,Ord.s3]
      refine Ord.tk (i:=13) (d:=31) (v:= .int .i64 (v:Int)) rfl rfl ?h13 (by assumption) ?_
      case h13=>intro w hSw;have e:=hSw.2;go_simp;try with_reducible rfl
      simp only[Ord.s1,Ord.s2,Ord.s3]
      refine wpAnyH_ready (rs:= [14]) (by as_aux_lemma=>kernel_rfl) (by simp) (AllReadyH.cons rfl (fun K hK=>?_) AllReadyH.nil)
      go_simp
      refine(HC.out _ rfl).mono ?_
      rintro _ w1 ⟨rfl,hw⟩
      obtain rfl:=hw.symm
      clear hw
      refine hK.out _ _ ⟨c1,c2⟩ (fun _=>?_)
      clear hK K
      refine Ord.tk (i:=15) (d:=33) (v:= .bool true) rfl rfl ?h15 (by assumption) ?_
      case h15=>intro w hSw;go_simp;try with_reducible rfl
      simp only[Ord.s1,Ord.s2,Ord.s3]
      refine Ord.tk (i:=16) (d:=34) (v:= .bool true) rfl rfl ?h16 (by assumption) ?_
      case h16=>intro w hSw;go_simp;try with_reducible rfl
      simp only[Ord.s1,Ord.s2,Ord.s3]
      refine wpAnyH_done (by as_aux_lemma=>kernel_rfl) ?_ _
      have HSW2:Hid (∀W,W=wr.drew.drew->((W.setCell ⟨gs,jp+1,none⟩ (.int .i64 (v:Int))).setCell ⟨gs,jp,none⟩ (.int .i64 (u:Int))).drew.ownsRow B 3 1 (.slice (some ⟨gs,0,none⟩) n cap) n ((Qf6 Y (jp+1) jp).map (Value.int .i64))∧w.grownBy ((W.setCell ⟨gs,jp+1,none⟩ (.int .i64 (v:Int))).setCell ⟨gs,jp,none⟩ (.int .i64 (u:Int))).drew (some gs)):=by
       intro W hW
       subst hW
       refine⟨HSW.out.1,?_⟩
       have h1:=HSW.out.2
       exact⟨h1.os.trans HG.out.os,h1.tape.trans HG.out.tape,h1.output.trans HG.out.output,Nat.le_trans HG.out.size h1.size,fun k hk hne=>(h1.block k (Nat.lt_of_lt_of_le hk HG.out.size) hne).trans (HG.out.block k hk hne)⟩
      have d1:wr.drew.drew.cell? ⟨gs,jp+1,none⟩=some (.int .i64 (u:Int)):=c1
      have d2:wr.drew.drew.cell? ⟨gs,jp,none⟩=some (.int .i64 (v:Int)):=c2
      have e1:wr.drew.drew.frozen? ⟨gs,jp+1,none⟩=false:=f1
      have e2:wr.drew.drew.frozen? ⟨gs,jp,none⟩=false:=f2
      clear c1 c2 f1 f2 hS HC HSW
      have HSW3:=hid (HSW2.out _ rfl)
      clear HSW2 HG HO
      generalize wr.drew.drew=W2 at *
      go_wp2_with fail
      go_region
      clear d1 d2 e1 e2
      generalize ((W2.setCell ⟨gs,jp+1,none⟩ (.int .i64 (v:Int))).setCell ⟨gs,jp,none⟩ (.int .i64 (u:Int))).drew=W3 at *
      go_wp2
      go_roundw
      case rel=>exact⟨jp,Qf6 Y (jp+1) jp,by go_num,by omega,by omega,HNEW,HSW3.out.1,HSW3.out.2⟩
      case measure=>simp[intOf]
     ·have HN:Hid (decide (Qgg (key cs (u:Int)) (key cs (v:Int))<0)=false):=decide_eq_false (fun h=>hk ((Qde _ _).1 h))
      have hneg:0<=Qgg (key cs (u:Int)) (key cs (v:Int)):=by have:=of_decide_eq_false HN.out;omega
      have HD:=hid (Xdr.done HJ.out (by omega) hji (Or.inr (by rw[show jp+1-1=jp from rfl,hu,hv];exact hk)))
      clear hu hv hk HJ HYE HYL
      generalize Qgg (key cs (u:Int)) (key cs (v:Int))=z at *
      go_wp2_with fail
      refine wp_region_held_drew (S:=fun W=>W.cell? ⟨gs,jp+1,none⟩=some (.int .i64 (u:Int))∧W.cell? ⟨gs,jp,none⟩=some (.int .i64 (v:Int))) (by kernel_rfl) ⟨c1,c2⟩ (fun hS=>?_)
      refine Ord.tk (i:=0) (d:=18) (v:=?v0b) rfl rfl ?h0 (by assumption) ?_
      case h0=>intro w hSw;go_simp;try with_reducible rfl
      simp only[Ord.s1,Ord.s2,Ord.s3]
      refine Ord.tk (i:=1) (d:=19) (v:=?v1b) rfl rfl ?h1 (by assumption) ?_
      case h1=>intro w hSw;go_simp;try with_reducible rfl
      simp only[Ord.s1,Ord.s2,Ord.s3]
      refine Ord.tk (i:=2) (d:=20) (v:= .bool true) rfl rfl ?h2 (by assumption) ?_
      case h2=>intro w hSw;go_simp;try with_reducible rfl
      simp only[Ord.s1,Ord.s2,Ord.s3]
      refine Ord.tk (i:=3) (d:=21) (v:=?v3b) rfl rfl ?h3 (by assumption) ?_
      case h3=>intro w hSw;go_simp;try with_reducible rfl
      simp only[Ord.s1,Ord.s2,Ord.s3]
      refine Ord.tk (i:=4) (d:=22) (v:=?v4b) rfl rfl ?h4 (by assumption) ?_
      case h4=>intro w hSw;go_simp;try with_reducible rfl
      simp only[Ord.s1,Ord.s2,Ord.s3]
      refine Ord.tk (i:=5) (d:=23) (v:=?v5b) rfl rfl ?h5 (by assumption) ?_
      case h5=>intro w hSw;go_simp;try with_reducible rfl
      simp only[Ord.s1,Ord.s2,Ord.s3]
      refine Ord.tk (i:=6) (d:=24) (v:=?v6b) rfl rfl ?h6 (by assumption) ?_
      case h6=>intro w hSw;go_simp;try with_reducible rfl
      simp only[Ord.s1,Ord.s2,Ord.s3]
      refine Ord.tk (i:=7) (d:=25) (v:=?v7b) rfl rfl ?h7 (by assumption) ?_
      case h7=>intro w hSw;go_simp;try with_reducible rfl
      simp only[Ord.s1,Ord.s2,Ord.s3]
      refine Ord.tk (i:=8) (d:=26) (v:= .int .i64 (u:Int)) rfl rfl ?h8 (by assumption) ?_
      case h8=>intro w hSw;have e:=hSw.1;go_simp;try with_reducible rfl
      simp only[Ord.s1,Ord.s2,Ord.s3]
      refine Ord.tk (i:=9) (d:=27) (v:=?v9b) rfl rfl ?h9 (by assumption) ?_
      case h9=>intro w hSw;go_simp;try with_reducible rfl
      simp only[Ord.s1,Ord.s2,Ord.s3]
      refine Ord.tk (i:=10) (d:=28) (v:=?v10b) rfl rfl ?h10 (by assumption) ?_
      case h10=>intro w hSw;go_simp;try with_reducible rfl
      simp only[Ord.s1,Ord.s2,Ord.s3]
      refine Ord.tk (i:=11) (d:=29) (v:= .int .i64 (jp:Int)) rfl rfl ?h11 (by assumption) ?_
      case h11=>intro w hSw;go_simp;exact HWR.out
      simp only[Ord.s1,Ord.s2,Ord.s3]
      refine Ord.tk (i:=12) (d:=30) (v:=?v12b) rfl rfl ?h12 (by assumption) ?_
      case h12=>intro w hSw;go_simp;try with_reducible rfl
      simp only[Ord.s1,Ord.s2,Ord.s3]
      refine Ord.tk (i:=13) (d:=31) (v:= .int .i64 (v:Int)) rfl rfl ?h13 (by assumption) ?_
      case h13=>intro w hSw;have e:=hSw.2;go_simp;try with_reducible rfl
      simp only[Ord.s1,Ord.s2,Ord.s3]
      refine wpAnyH_ready (rs:= [14]) (by as_aux_lemma=>kernel_rfl) (by simp) (AllReadyH.cons rfl (fun K hK=>?_) AllReadyH.nil)
      go_simp
      refine(HC.out _ rfl).mono ?_
      rintro _ w1 ⟨rfl,hw⟩
      obtain rfl:=hw.symm
      clear hw
      refine hK.out _ _ ⟨c1,c2⟩ (fun _=>?_)
      clear hK K
      refine Ord.tk (i:=15) (d:=33) (v:= .bool false) rfl rfl ?h15 (by assumption) ?_
      case h15=>intro w hSw;go_simp;try with_reducible rfl
      simp only[Ord.s1,Ord.s2,Ord.s3]
      refine Ord.tk (i:=16) (d:=34) (v:= .bool false) rfl rfl ?h16 (by assumption) ?_
      case h16=>intro w hSw;go_simp;try with_reducible rfl
      simp only[Ord.s1,Ord.s2,Ord.s3]
      refine wpAnyH_done (by as_aux_lemma=>kernel_rfl) ?_ _
      have HG2:=hid (Qan (Qan HG.out))
      have HO2:=hid HO.out.drew.drew
      clear HG HO c1 c2 f1 f2 hS HC
      generalize wr.drew.drew=W2 at *
      go_wp2
      exact⟨⟨i+1,Y,by go_num,by omega,by omega,HD,HO2,HG2,fun h=>by omega⟩,by simp[intOf];omega⟩
    ·have hja2:j=a:=by omega
     have HD:=hid (Xdr.done HJ.out haj hji (Or.inl hja2))
     have hjz:¬(a:Int)<(j:Int):=by omega
     clear HJ HYE HYL hja2
     go_wp2_with fail
     refine wp_region_held_drew (S:=fun _=>True) (by kernel_rfl) trivial (fun hS=>?_)
     refine Ord.tk (i:=0) (d:=18) (v:=?v0c) rfl rfl ?h0 (by assumption) ?_
     case h0=>intro w hSw;go_simp;try with_reducible rfl
     simp only[Ord.s1,Ord.s2,Ord.s3]
     refine Ord.tk (i:=1) (d:=19) (v:=?v1c) rfl rfl ?h1 (by assumption) ?_
     case h1=>intro w hSw;go_simp;try with_reducible rfl
     simp only[Ord.s1,Ord.s2,Ord.s3]
     refine Ord.tk (i:=2) (d:=20) (v:= .bool false) rfl rfl ?h2 (by assumption) ?_
     case h2=>intro w hSw;go_simp;try with_reducible rfl
     simp only[Ord.s1,Ord.s2,Ord.s3]
     refine Ord.tk (i:=3) (d:=21) (v:=?v3c) rfl rfl ?h3 (by assumption) ?_
     case h3=>intro w hSw;go_simp;try with_reducible rfl
     simp only[Ord.s1,Ord.s2,Ord.s3]
     refine Ord.skip (i:=4) (d:=22) rfl rfl (by as_aux_lemma=>kernel_rfl) (by as_aux_lemma=>kernel_rfl) (by as_aux_lemma=>kernel_rfl) (fun _ _ _ h=>h) (by rfl) (by assumption) ?_
     simp only[Ord.s1,Ord.s2,Ord.s3]
     refine Ord.skip (i:=5) (d:=23) rfl rfl (by as_aux_lemma=>kernel_rfl) (by as_aux_lemma=>kernel_rfl) (by as_aux_lemma=>kernel_rfl) (fun _ _ _ h=>h) (by rfl) (by assumption) ?_
     simp only[Ord.s1,Ord.s2,Ord.s3]
     refine Ord.skip (i:=6) (d:=24) rfl rfl (by as_aux_lemma=>kernel_rfl) (by as_aux_lemma=>kernel_rfl) (by as_aux_lemma=>kernel_rfl) (fun _ _ _ h=>h) (by rfl) (by assumption) ?_
     simp only[Ord.s1,Ord.s2,Ord.s3]
     refine Ord.skip (i:=7) (d:=25) rfl rfl (by as_aux_lemma=>kernel_rfl) (by as_aux_lemma=>kernel_rfl) (by as_aux_lemma=>kernel_rfl) (fun _ _ _ h=>h) (by rfl) (by assumption) ?_
     simp only[Ord.s1,Ord.s2,Ord.s3]
     refine Ord.skip (i:=8) (d:=26) rfl rfl (by as_aux_lemma=>kernel_rfl) (by as_aux_lemma=>kernel_rfl) (by as_aux_lemma=>kernel_rfl) (fun _ _ _ h=>h) (by rfl) (by assumption) ?_
     simp only[Ord.s1,Ord.s2,Ord.s3]
     refine Ord.skip (i:=9) (d:=27) rfl rfl (by as_aux_lemma=>kernel_rfl) (by as_aux_lemma=>kernel_rfl) (by as_aux_lemma=>kernel_rfl) (fun _ _ _ h=>h) (by rfl) (by assumption) ?_
     simp only[Ord.s1,Ord.s2,Ord.s3]
     refine Ord.skip (i:=10) (d:=28) rfl rfl (by as_aux_lemma=>kernel_rfl) (by as_aux_lemma=>kernel_rfl) (by as_aux_lemma=>kernel_rfl) (fun _ _ _ h=>h) (by rfl) (by assumption) ?_
     simp only[Ord.s1,Ord.s2,Ord.s3]
     refine Ord.skip (i:=11) (d:=29) rfl rfl (by as_aux_lemma=>kernel_rfl) (by as_aux_lemma=>kernel_rfl) (by as_aux_lemma=>kernel_rfl) (fun _ _ _ h=>h) (by rfl) (by assumption) ?_
     simp only[Ord.s1,Ord.s2,Ord.s3]
     refine Ord.skip (i:=12) (d:=30) rfl rfl (by as_aux_lemma=>kernel_rfl) (by as_aux_lemma=>kernel_rfl) (by as_aux_lemma=>kernel_rfl) (fun _ _ _ h=>h) (by rfl) (by assumption) ?_
     simp only[Ord.s1,Ord.s2,Ord.s3]
     refine Ord.skip (i:=13) (d:=31) rfl rfl (by as_aux_lemma=>kernel_rfl) (by as_aux_lemma=>kernel_rfl) (by as_aux_lemma=>kernel_rfl) (fun _ _ _ h=>h) (by rfl) (by assumption) ?_
     simp only[Ord.s1,Ord.s2,Ord.s3]
     refine Ord.skip (i:=14) (d:=32) rfl rfl (by as_aux_lemma=>kernel_rfl) (by as_aux_lemma=>kernel_rfl) (by as_aux_lemma=>kernel_rfl) (fun _ _ _ h=>h) (by rfl) (by assumption) ?_
     simp only[Ord.s1,Ord.s2,Ord.s3]
     refine Ord.skip (i:=15) (d:=33) rfl rfl (by as_aux_lemma=>kernel_rfl) (by as_aux_lemma=>kernel_rfl) (by as_aux_lemma=>kernel_rfl) (fun _ _ _ h=>h) (by rfl) (by assumption) ?_
     simp only[Ord.s1,Ord.s2,Ord.s3]
     refine Ord.tk (i:=16) (d:=34) (v:= .bool false) rfl rfl ?h16 (by assumption) ?_
     case h16=>intro w hSw;go_simp;try with_reducible rfl
     simp only[Ord.s1,Ord.s2,Ord.s3]
     refine wpAnyH_done (by as_aux_lemma=>kernel_rfl) ?_ _
     have HG2:=hid (Qan HG.out)
     have HO2:=hid HO.out.drew
     clear HG HO hS
     generalize wr.drew=W2 at *
     go_wp2
     exact⟨⟨i+1,Y,by go_num,by omega,by omega,HD,HO2,HG2,fun h=>by omega⟩,by simp[intOf];omega⟩
  ·have hltz:¬(i:Int)<(b:Int):=by omega
   have HS:Hid (Sorted cs a b o X):=by
    show Sorted _ _ _ _ _
    by_cases e:i=b
    ·subst e;exact HI.out.sorted
    ·have h1:i=a+1:=by omega
     subst h1
     rw[HEQ.out rfl]
     exact HEMP.out (by omega)
   go_wp2
   go_end0
   exact⟨rfl,⟨X,HS.out,HO.out⟩,HG.out⟩
namespace Hf
def Qdc(X:List Int)(a b:Nat):Nat->List Int
 | 0=>X
 | k+1=>Qf6 (Qdc X a b k) (a+k) (b+k)
theorem Qbs(X:List Int)(a b:Nat):∀k,(Qdc X a b k).length=X.length
 | 0=>rfl
 | k+1=>by rw[Qdc,Qp8,Qbs X a b k]
end Hf
theorem Qm0(a b m n cap B gs:Nat)(f:Value)(X:List Int)(w:World)(hne:a≠b)(ha:a+m<=n)(hb:b+m<=n)(hn:n<=100000)(hl:X.length=n)
 (hown:w.ownsRow B 3 1 (.slice (some ⟨gs,0,none⟩) n cap) n (X.map (Value.int .i64))) :
 Calls Tryz.prog 185 #[.slice (some ⟨gs,0,none⟩) n cap,.int .i64 (a:Int),.int .i64 (b:Int),.int .i64 (m:Int),f] w fun e w'=>e= .returned (.tuple #[])∧w'.ownsRow B 3 1 (.slice (some ⟨gs,0,none⟩) n cap) n ((Qdc X a b m).map (Value.int .i64))∧w.grownBy w' (some gs):=by
 have HO:=hid hown
 have HL:=hid hl
 clear hown hl
 go_enter Tryz.func185,Tryz.ntmps185
 go_wp2
 go_loopw [10] (fun y wr=>∃k:Nat,k<=m∧y= .int .i64 k∧Hid (wr.ownsRow B 3 1 (.slice (some ⟨gs,0,none⟩) n cap) n ((Qdc X a b k).map (Value.int .i64)))∧Hid (w.grownBy wr (some gs))) (fun y _=>m-(intOf y).toNat)
 case atStart=>exact⟨0,by omega,rfl,HO,World.grownBy.refl _ _⟩
 case round=>
  clear HO
  obtain⟨k,hk,rfl,HO,HG⟩:=hrel
  by_cases hlt:k<m
  ·have hkz:(k:Int)<(m:Int):=by omega
   have HXL:Hid ((Qdc X a b k).length=n):=by show _=_;rw[Qbs,HL.out]
   have c1:=Qa3 HO.out HXL.out (a+k) (by omega)
   have c2:=Qa3 HO.out HXL.out (b+k) (by omega)
   have f1:=HO.out.frozenAt (a+k)
   have f2:=HO.out.frozenAt (b+k)
   have h1:=Qkm HO.out (a+k) (b+k)
   have HS:Hid (((wr.setCell ⟨gs,a+k,none⟩ (.int .i64 ((Qdc X a b k).getD (b+k) 0))).setCell ⟨gs,b+k,none⟩ (.int .i64 ((Qdc X a b k).getD (a+k) 0))).drew.ownsRow B 3 1 (.slice (some ⟨gs,0,none⟩) n cap) n ((Qdc X a b (k+1)).map (Value.int .i64))∧w.grownBy ((wr.setCell ⟨gs,a+k,none⟩ (.int .i64 ((Qdc X a b k).getD (b+k) 0))).setCell ⟨gs,b+k,none⟩ (.int .i64 ((Qdc X a b k).getD (a+k) 0))).drew (some gs)):=⟨h1.1.drew,Qan (Qah HG.out h1.2)⟩
   have hak:(a:Int)+(k:Int)<(n:Int):=by omega
   have hbk:(b:Int)+(k:Int)<(n:Int):=by omega
   have h2:=(HO.out.stored (a+k) (.int .i64 ((Qdc X a b k).getD (b+k) 0))).1
   rw[<-List.map_set] at h2
   have d1:=Qa3 h2 (by rw[List.length_set,HXL.out]) (b+k) (by omega)
   rw[Qb9 _ _ _ _ (by rw[HXL.out];omega),if_neg (by omega)] at d1
   clear h1 h2 HO HG HXL
   generalize (Qdc X a b k).getD (a+k) 0=u at *
   generalize (Qdc X a b k).getD (b+k) 0=v at *
   go_wp2_with fail
   go_region
   clear c1 c2 f1 f2 d1
   generalize ((wr.setCell ⟨gs,a+k,none⟩ (.int .i64 v)).setCell ⟨gs,b+k,none⟩ (.int .i64 u)).drew=W3 at *
   go_wp2
   go_roundw
   case rel=>exact⟨k+1,by omega,by go_num,HS.out.1,HS.out.2⟩
   case measure=>simp[intOf];omega
  ·obtain hke:k=m:=by omega
   subst hke
   have hkz:¬(k:Int)<(k:Int):=by omega
   go_wp2
   go_end0
   exact⟨rfl,HO.out,HG.out⟩
namespace Hf
def Qmp(m:Nat):Nat->List Int->Nat->Nat->List Int
 | 0,X,_,_=>X
 | f+1,X,i,j=>if i=j then Qdc X (m-i) m i else if j<i then Qmp m f (Qdc X (m-i) m j) (i-j) j else Qmp m f (Qdc X (m-i) (m+j-i) i) i (j-i)
end Hf
theorem Qcq(a m b n cap B gs:Nat)(f:Value)(X:List Int)(w:World)(ham:a<m)(hmb:m<b)(hb:b<=n)(hn:n<=100000)(hl:X.length=n)
 (hown:w.ownsRow B 3 1 (.slice (some ⟨gs,0,none⟩) n cap) n (X.map (Value.int .i64))) :
 Calls Tryz.prog 184 #[.slice (some ⟨gs,0,none⟩) n cap,.int .i64 (a:Int),.int .i64 (m:Int),.int .i64 (b:Int),f] w fun e w'=>e= .returned (.tuple #[])∧w'.ownsRow B 3 1 (.slice (some ⟨gs,0,none⟩) n cap) n ((Qmp m (b-a) X (m-a) (b-m)).map (Value.int .i64))∧w.grownBy w' (some gs):=by
 have HO:=hid hown
 have HL:=hid hl
 have HSR:Hid (∀(x y k:Nat) (Y:List Int) (W:World),x≠y->x+k<=n->y+k<=n->Y.length=n->W.ownsRow B 3 1 (.slice (some ⟨gs,0,none⟩) n cap) n (Y.map (Value.int .i64))->Calls Tryz.prog 185 #[.slice (some ⟨gs,0,none⟩) n cap,.int .i64 (x:Int),.int .i64 (y:Int),.int .i64 (k:Int),f] W fun e w'=>e= .returned (.tuple #[])∧w'.ownsRow B 3 1 (.slice (some ⟨gs,0,none⟩) n cap) n ((Qdc Y x y k).map (Value.int .i64))∧W.grownBy w' (some gs)):=fun x y k Y W h1 h2 h3 h4 h5=>Qm0 x y k n cap B gs f Y W h1 h2 h3 hn h4 h5
 have hi0:(m:Int)-(a:Int)=((m-a:Nat):Int):=by omega
 have hj0:(b:Int)-(m:Int)=((b-m:Nat):Int):=by omega
 have HI0:=hid hi0
 have HJ0:=hid hj0
 clear hown hl hi0 hj0
 go_enter Tryz.func184,Tryz.ntmps184
 go_wp2
 go_loopw [10,11] (fun x y wr=>∃(i j g:Nat) (Y:List Int),0<i∧0<j∧i<=m∧m+j<=n∧Hid (i+j<=g)∧x= .int .i64 i∧y= .int .i64 j∧Hid (Y.length=n)∧Hid (Qmp m (b-a) X (m-a) (b-m)=Qmp m g Y i j)∧Hid (wr.ownsRow B 3 1 (.slice (some ⟨gs,0,none⟩) n cap) n (Y.map (Value.int .i64)))∧Hid (w.grownBy wr (some gs))) (fun x y _=>(intOf x).toNat+(intOf y).toNat)
 case atStart=>exact⟨m-a,b-m,b-a,X,by omega,by omega,by omega,by omega,(by show _<=_;omega),by rw[HI0.out],by rw[HJ0.out],HL,hid rfl,HO,World.grownBy.refl _ _⟩
 case round=>
  clear HO HI0 HJ0
  obtain⟨i,j,g,Y,hi,hj,him,hjn,HF,rfl,rfl,HYL,HR,HO,HG⟩:=hrel
  obtain⟨g',hg'⟩:∃g',g=g'+1:=⟨g-1,by have:=HF.out;omega⟩
  subst hg'
  have HE:=hid (show Qmp m (g'+1) Y i j=if i=j then Qdc Y (m-i) m i else if j<i then Qmp m g' (Qdc Y (m-i) m j) (i-j) j else Qmp m g' (Qdc Y (m-i) (m+j-i) i) i (j-i) from rfl)
  have hmi:(m:Int)-(i:Int)=((m-i:Nat):Int):=by omega
  by_cases hij:i=j
  ·have hq:((i:Int) !=(j:Int))=false:=by simp[hij]
   have HC:=hid (HSR.out (m-i) m i Y wr (by omega) (by omega) (by omega) HYL.out HO.out)
   rw[if_pos hij] at HE
   have HIJ:=hid hij
   clear hij
   go_wp2_with fail
   refine HC.out.mono ?_
   rintro _ w2 ⟨rfl,hown2,hg2⟩
   have HO2:=hid hown2
   have HG2:=hid (Qah HG.out hg2)
   clear hown2 hg2
   go_wp2
   go_end0
   exact⟨rfl,by rw[HR.out,HE.out];exact HO2.out,HG2.out⟩
  ·have hq:((i:Int) !=(j:Int))=true:=by simp;omega
   rw[if_neg hij] at HE
   by_cases hji:j<i
   ·have hjz:(j:Int)<(i:Int):=by omega
    have HC:=hid (HSR.out (m-i) m j Y wr (by omega) (by omega) (by omega) HYL.out HO.out)
    rw[if_pos hji] at HE
    clear hij
    go_wp2_with fail
    refine HC.out.mono ?_
    rintro _ w2 ⟨rfl,hown2,hg2⟩
    have HO2:=hid hown2
    have HG2:=hid (Qah HG.out hg2)
    have HYL2:Hid ((Qdc Y (m-i) m j).length=n):=by show _=_;rw[Qbs,HYL.out]
    clear hown2 hg2
    go_wp2
    exact⟨⟨i-j,j,g',Qdc Y (m-i) m j,by omega,by omega,by omega,by omega,(by show _<=_;have:=HF.out;omega),by go_num,rfl,HYL2,hid (HR.out.trans HE.out),HO2,HG2⟩,by simp[intOf];omega⟩
   ·have hjz:¬(j:Int)<(i:Int):=by omega
    have hlt:i<j:=by omega
    have hmj:(m:Int)+(j:Int)-(i:Int)=((m+j-i:Nat):Int):=by omega
    have HC:=hid (HSR.out (m-i) (m+j-i) i Y wr (by omega) (by omega) (by omega) HYL.out HO.out)
    rw[if_neg hji] at HE
    clear hij
    go_wp2_with fail
    refine HC.out.mono ?_
    rintro _ w2 ⟨rfl,hown2,hg2⟩
    have HO2:=hid hown2
    have HG2:=hid (Qah HG.out hg2)
    have HYL2:Hid ((Qdc Y (m-i) (m+j-i) i).length=n):=by show _=_;rw[Qbs,HYL.out]
    clear hown2 hg2
    go_wp2
    exact⟨⟨i,j-i,g',Qdc Y (m-i) (m+j-i) i,by omega,by omega,by omega,by omega,(by show _<=_;have:=HF.out;omega),rfl,by go_num,HYL2,hid (HR.out.trans HE.out),HO2,HG2⟩,by simp[intOf];omega⟩
end
section
namespace Hf
theorem Qhi(X:List Int)(a b:Nat):∀(k:Nat),a+k<=b->b+k<=X.length->∀p,(Qdc X a b k).getD p 0=X.getD (if a<=p∧p<a+k then b+(p-a) else if b<=p∧p<b+k then a+(p-b) else p) 0
 | 0,_,_,p=>by
   rw[Qdc,if_neg (by omega),if_neg (by omega)]
 | k+1,hab,hb,p=>by
   have ih:=Qhi X a b k (by omega) (by omega)
   have hl:=Qbs X a b k
   rw[Qdc,Qhh _ _ _ _ (by omega) (by omega),ih,ih,ih]
   by_cases h1:p=b+k
   ·subst h1
    rw[if_pos rfl,if_neg (by omega),if_neg (by omega),if_neg (by omega),if_pos (by omega)]
    congr 1;omega
   ·rw[if_neg h1]
    by_cases h2:p=a+k
    ·subst h2
     rw[if_pos rfl,if_neg (by omega),if_neg (by omega),if_pos (by omega)]
     congr 1;omega
    ·rw[if_neg h2]
     congr 1
     repeat' split
     all_goals omega
theorem Qlt(m:Nat):∀(f:Nat) (X:List Int) (i j:Nat),0<i->0<j->i<=m->m+j<=X.length->i+j<=f->∀p,(Qmp m f X i j).getD p 0=X.getD (if m-i<=p∧p<m-i+j then p+i else if m-i+j<=p∧p<m+j then p-j else p) 0
 | 0,_,i,j,hi,_,_,_,hf,_=>by omega
 | f+1,X,i,j,hi,hj,him,hmj,hf,p=>by
   rw[Qmp]
   by_cases hij:i=j
   ·subst hij
    rw[if_pos rfl,Qhi X _ _ _ (by omega) (by omega)]
    congr 1
    repeat' split
    all_goals omega
   ·rw[if_neg hij]
    by_cases hji:j<i
    ·rw[if_pos hji,Qlt m f _ (i-j) j (by omega) hj (by omega) (by rw[Qbs];exact hmj) (by omega),Qhi X _ _ _ (by omega) (by omega)]
     congr 1
     repeat' split
     all_goals omega
    ·rw[if_neg hji,Qlt m f _ i (j-i) hi (by omega) him (by rw[Qbs];omega) (by omega),Qhi X _ _ _ (by omega) (by omega)]
     congr 1
     repeat' split
     all_goals omega
end Hf
end
section
open Go.RowKit Hf
theorem Xa5(a m b n cap B gb gs gc oc capc:Nat)(cs o:List Int)(w:World)(hcts:Cts w gb gs gc oc capc cs)(hma:m=a+1)(hmb:m<b)(hb:b<=n)(hn:n<=100000)(hl:o.length=n)
 (hown:w.ownsRow B 3 1 (.slice (some ⟨gs,0,none⟩) n cap) n (o.map (Value.int .i64))) (ho:∀u∈o,0<=u∧u<(cs.length:Int)) (hm:Mrg cs a m b o) :
 Calls Tryz.prog 183 #[(.slice (some ⟨gs,0,none⟩) n cap),.int .i64 (a:Int),.int .i64 (m:Int),.int .i64 (b:Int),.func (.func 174) #[] #[.pointer (some ⟨gb,0,none⟩)]] w fun e w'=>e= .returned (.tuple #[])∧(∃X,Sorted cs a b o X∧w'.ownsRow B 3 1 (.slice (some ⟨gs,0,none⟩) n cap) n (X.map (Value.int .i64)))∧w.grownBy w' (some gs):=by
 have HO:=hid hown
 have HCT:=hid hcts
 have HM:=hid hm
 have HL:=hid hl
 have HMA:=hid hma
 have HYE:Hid (∀p,p<n->∃u:Nat,o.getD p 0=(u:Int)∧u<cs.length):=fun p hp=>by
  have hm:=Hf.getD_in (l:=o) p (by rw[hl];exact hp)
  have:=ho _ hm
  exact⟨(o.getD p 0).toNat,by omega,by omega⟩
 have hq:((m:Int)-(a:Int)==1)=true:=by rw[beq_iff_eq];omega
 have ham:a<m:=by omega
 clear hown hcts ho hm hl hma
 go_enter Tryz.func183,Tryz.ntmps183
 go_wp2
 go_loopw [10,11] (fun x y wr=>∃i j:Nat,x= .int .i64 i∧y= .int .i64 j∧m<=i∧i<=j∧j<=b∧Hid (i=m∨key cs (o.getD (i-1) 0)<key cs (o.getD a 0))∧Hid (j=b∨key cs (o.getD a 0)<=key cs (o.getD j 0))∧Hid (wr.ownsRow B 3 1 (.slice (some ⟨gs,0,none⟩) n cap) n (o.map (Value.int .i64)))∧Hid (w.grownBy wr (some gs))) (fun x y _=>(intOf y).toNat-(intOf x).toNat)
 case atStart=>exact⟨m,b,rfl,rfl,Nat.le_refl _,by omega,Nat.le_refl _,Or.inl rfl,Or.inl rfl,HO,World.grownBy.refl _ _⟩
 case round=>
  clear HO
  obtain⟨i,j,rfl,rfl,hmi,hij,hjb,HI,HJ,HO,HG⟩:=hrel
  by_cases hlt:i<j
  ·have hz:(i:Int)<(j:Int):=by omega
   obtain⟨h,hh,hh1,hh2⟩:∃h:Nat,((i:Int)+(j:Int))/2=(h:Int)∧i<=h∧h<j:=⟨(i+j)/2,by omega,by omega,by omega⟩
   have HH:=hid hh
   clear hh
   obtain⟨u,hu,hul⟩:=HYE.out (h) (by omega)
   obtain⟨v,hv,hvl⟩:=HYE.out (a) (by omega)
   have c1:=Qa3 HO.out HL.out (h) (by omega)
   have c2:=Qa3 HO.out HL.out (a) (by omega)
   rw[hu] at c1
   rw[hv] at c2
   have HC:Hid (∀W,W=wr.drew->Calls Tryz.prog 174 #[.int .i64 (u:Int),.int .i64 (v:Int),.pointer (some ⟨gb,0,none⟩)] W fun e w'=>e= .returned (.int .i64 (Qgg (key cs (u:Int)) (key cs (v:Int))))∧w'=W.drew):=fun W hW=>by
    subst hW
    exact Qii u v gb gs gc oc capc cs _ (HCT.out.kept (Qan HG.out)) hul hvl
   have hhn:(h:Int)<(n:Int):=by omega
   have han:(a:Int)<(n:Int):=by omega
   by_cases hk:key cs (u:Int)<key cs (v:Int)
   ·have HI2:Hid (h+1=m∨key cs (o.getD (h+1-1) 0)<key cs (o.getD a 0)):=Or.inr (by rw[Nat.add_sub_cancel,hu,hv];exact hk)
    have hneg:Qgg (key cs (u:Int)) (key cs (v:Int))<0:=(Qde _ _).2 hk
    clear hu hv hk HI
    generalize Qgg (key cs (u:Int)) (key cs (v:Int))=z at *
    go_wp2_with fail
    rw[HH.out]
    go_wp2_with fail
    refine wp_region_held_drew (S:=fun W=>W.cell? ⟨gs,h,none⟩=some (.int .i64 (u:Int))∧W.cell? ⟨gs,a,none⟩=some (.int .i64 (v:Int))) (by kernel_rfl) ⟨c1,c2⟩ (fun hS=>?_)
    refine Ord.tk (i:=0) (d:=40) (v:=?v0) rfl rfl ?h0 (by assumption) ?_
    case h0=>intro w hSw;go_simp;try with_reducible rfl
    simp only[Ord.s1,Ord.s2,Ord.s3]
    refine Ord.tk (i:=1) (d:=41) (v:=?v1) rfl rfl ?h1 (by assumption) ?_
    case h1=>intro w hSw;go_simp;try with_reducible rfl
    simp only[Ord.s1,Ord.s2,Ord.s3]
    refine Ord.tk (i:=2) (d:=42) (v:=?v2) rfl rfl ?h2 (by assumption) ?_
    case h2=>intro w hSw;go_simp;try with_reducible rfl
    simp only[Ord.s1,Ord.s2,Ord.s3]
    refine Ord.tk (i:=3) (d:=43) (v:=?v3) rfl rfl ?h3 (by assumption) ?_
    case h3=>intro w hSw;go_simp;try with_reducible rfl
    simp only[Ord.s1,Ord.s2,Ord.s3]
    refine Ord.tk (i:=4) (d:=44) (v:= .int .i64 (u:Int)) rfl rfl ?h4 (by assumption) ?_
    case h4=>intro w hSw;have e:=hSw.1;go_simp;try with_reducible rfl
    simp only[Ord.s1,Ord.s2,Ord.s3]
    refine Ord.tk (i:=5) (d:=45) (v:=?v5) rfl rfl ?h5 (by assumption) ?_
    case h5=>intro w hSw;go_simp;try with_reducible rfl
    simp only[Ord.s1,Ord.s2,Ord.s3]
    refine Ord.tk (i:=6) (d:=46) (v:=?v6) rfl rfl ?h6 (by assumption) ?_
    case h6=>intro w hSw;go_simp;try with_reducible rfl
    simp only[Ord.s1,Ord.s2,Ord.s3]
    refine Ord.tk (i:=7) (d:=47) (v:=?v7) rfl rfl ?h7 (by assumption) ?_
    case h7=>intro w hSw;go_simp;try with_reducible rfl
    simp only[Ord.s1,Ord.s2,Ord.s3]
    refine Ord.tk (i:=8) (d:=48) (v:= .int .i64 (v:Int)) rfl rfl ?h8 (by assumption) ?_
    case h8=>intro w hSw;have e:=hSw.2;go_simp;try with_reducible rfl
    simp only[Ord.s1,Ord.s2,Ord.s3]
    refine wpAnyH_ready (rs:= [9]) (by as_aux_lemma=>kernel_rfl) (by simp) (AllReadyH.cons rfl (fun K hK=>?_) AllReadyH.nil)
    go_simp
    refine(HC.out _ rfl).mono ?_
    rintro _ w1 ⟨rfl,hw⟩
    obtain rfl:=hw.symm
    clear hw
    refine hK.out _ _ ⟨c1,c2⟩ (fun _=>?_)
    clear hK K
    refine Ord.tk (i:=10) (d:=50) (v:= .bool true) rfl rfl ?h10 (by assumption) ?_
    case h10=>intro w hSw;go_simp;try with_reducible rfl
    simp only[Ord.s1,Ord.s2,Ord.s3]
    refine wpAnyH_done (by as_aux_lemma=>kernel_rfl) ?_ _
    have HG2:=hid (Qan (Qan HG.out))
    have HO2:=hid HO.out.drew.drew
    clear HG HO c1 c2 hS HC
    generalize wr.drew.drew=W2 at *
    go_wp2
    exact⟨⟨h+1,j,by go_num,rfl,by omega,by omega,by omega,HI2,HJ,HO2,HG2⟩,by simp[intOf];omega⟩
   ·have HJ2:Hid (h=b∨key cs (o.getD a 0)<=key cs (o.getD h 0)):=Or.inr (by rw[hu,hv];exact Int.not_lt.1 hk)
    have hneg:0<=Qgg (key cs (u:Int)) (key cs (v:Int)):=Int.not_lt.1 (fun h=>hk ((Qde _ _).1 h))
    clear hu hv hk HJ
    generalize Qgg (key cs (u:Int)) (key cs (v:Int))=z at *
    go_wp2_with fail
    rw[HH.out]
    go_wp2_with fail
    refine wp_region_held_drew (S:=fun W=>W.cell? ⟨gs,h,none⟩=some (.int .i64 (u:Int))∧W.cell? ⟨gs,a,none⟩=some (.int .i64 (v:Int))) (by kernel_rfl) ⟨c1,c2⟩ (fun hS=>?_)
    refine Ord.tk (i:=0) (d:=40) (v:=?v0b) rfl rfl ?h0b (by assumption) ?_
    case h0b=>intro w hSw;go_simp;try with_reducible rfl
    simp only[Ord.s1,Ord.s2,Ord.s3]
    refine Ord.tk (i:=1) (d:=41) (v:=?v1b) rfl rfl ?h1b (by assumption) ?_
    case h1b=>intro w hSw;go_simp;try with_reducible rfl
    simp only[Ord.s1,Ord.s2,Ord.s3]
    refine Ord.tk (i:=2) (d:=42) (v:=?v2b) rfl rfl ?h2b (by assumption) ?_
    case h2b=>intro w hSw;go_simp;try with_reducible rfl
    simp only[Ord.s1,Ord.s2,Ord.s3]
    refine Ord.tk (i:=3) (d:=43) (v:=?v3b) rfl rfl ?h3b (by assumption) ?_
    case h3b=>intro w hSw;go_simp;try with_reducible rfl
    simp only[Ord.s1,Ord.s2,Ord.s3]
    refine Ord.tk (i:=4) (d:=44) (v:= .int .i64 (u:Int)) rfl rfl ?h4b (by assumption) ?_
    case h4b=>intro w hSw;have e:=hSw.1;go_simp;try with_reducible rfl
    simp only[Ord.s1,Ord.s2,Ord.s3]
    refine Ord.tk (i:=5) (d:=45) (v:=?v5b) rfl rfl ?h5b (by assumption) ?_
    case h5b=>intro w hSw;go_simp;try with_reducible rfl
    simp only[Ord.s1,Ord.s2,Ord.s3]
    refine Ord.tk (i:=6) (d:=46) (v:=?v6b) rfl rfl ?h6b (by assumption) ?_
    case h6b=>intro w hSw;go_simp;try with_reducible rfl
    simp only[Ord.s1,Ord.s2,Ord.s3]
    refine Ord.tk (i:=7) (d:=47) (v:=?v7b) rfl rfl ?h7b (by assumption) ?_
    case h7b=>intro w hSw;go_simp;try with_reducible rfl
    simp only[Ord.s1,Ord.s2,Ord.s3]
    refine Ord.tk (i:=8) (d:=48) (v:= .int .i64 (v:Int)) rfl rfl ?h8b (by assumption) ?_
    case h8b=>intro w hSw;have e:=hSw.2;go_simp;try with_reducible rfl
    simp only[Ord.s1,Ord.s2,Ord.s3]
    refine wpAnyH_ready (rs:= [9]) (by as_aux_lemma=>kernel_rfl) (by simp) (AllReadyH.cons rfl (fun K hK=>?_) AllReadyH.nil)
    go_simp
    refine(HC.out _ rfl).mono ?_
    rintro _ w1 ⟨rfl,hw⟩
    obtain rfl:=hw.symm
    clear hw
    refine hK.out _ _ ⟨c1,c2⟩ (fun _=>?_)
    clear hK K
    refine Ord.tk (i:=10) (d:=50) (v:= .bool false) rfl rfl ?h10b (by assumption) ?_
    case h10b=>intro w hSw;go_simp;try with_reducible rfl
    simp only[Ord.s1,Ord.s2,Ord.s3]
    refine wpAnyH_done (by as_aux_lemma=>kernel_rfl) ?_ _
    have HG2:=hid (Qan (Qan HG.out))
    have HO2:=hid HO.out.drew.drew
    clear HG HO c1 c2 hS HC
    generalize wr.drew.drew=W2 at *
    go_wp2
    exact⟨⟨i,h,rfl,rfl,by omega,by omega,by omega,HI,HJ2,HO2,HG2⟩,by simp[intOf];omega⟩
  ·have hz:¬(i:Int)<(j:Int):=by omega
   have HJ2:Hid (i=b∨key cs (o.getD a 0)<=key cs (o.getD i 0)):=by
    have e:i=j:=by omega
    rw[e];exact HJ
   clear HJ
   go_wp2_with fail
   go_loopw [13] (fun x wr=>∃(k:Nat) (X:List Int),x= .int .i64 k∧a<=k∧k+1<=i∧Hid (Up a k o X)∧Hid (wr.ownsRow B 3 1 (.slice (some ⟨gs,0,none⟩) n cap) n (X.map (Value.int .i64)))∧Hid (w.grownBy wr (some gs))) (fun x _=>i-(intOf x).toNat)
   case atStart=>exact⟨a,o,rfl,Nat.le_refl _,by omega,Up.start a o,HO,HG⟩
   case round=>
    clear HO HG
    obtain⟨k,X,rfl,hak,hki,HU,HO,HG⟩:=hrel
    have HXL:Hid (X.length=n):=by show _=_;rw[HU.out.perm.length_eq,HL.out]
    by_cases hlt2:k+1<i
    ·have hz2:(k:Int)<(i:Int)-1:=by omega
     have c1:=Qa3 HO.out HXL.out k (by omega)
     have c2:=Qa3 HO.out HXL.out (k+1) (by omega)
     have f1:=HO.out.frozenAt k
     have f2:=HO.out.frozenAt (k+1)
     have h1:=Qkm HO.out k (k+1)
     have HS:Hid (((wr.setCell ⟨gs,k,none⟩ (.int .i64 (X.getD (k+1) 0))).setCell ⟨gs,k+1,none⟩ (.int .i64 (X.getD k 0))).drew.ownsRow B 3 1 (.slice (some ⟨gs,0,none⟩) n cap) n ((Qf6 X k (k+1)).map (Value.int .i64))∧w.grownBy ((wr.setCell ⟨gs,k,none⟩ (.int .i64 (X.getD (k+1) 0))).setCell ⟨gs,k+1,none⟩ (.int .i64 (X.getD k 0))).drew (some gs)):=⟨h1.1.drew,Qan (Qah HG.out h1.2)⟩
     have HU2:=hid (Up.step HU.out hak (by rw[HXL.out];omega))
     have hkn:(k:Int)+1<(n:Int):=by omega
     have hkn1:(k:Int)<(n:Int):=by omega
     clear h1 HO HG HXL HU
     generalize X.getD k 0=u at *
     generalize X.getD (k+1) 0=v at *
     go_wp2_with fail
     go_region
     clear c1 c2 f1 f2
     generalize ((wr.setCell ⟨gs,k,none⟩ (.int .i64 v)).setCell ⟨gs,k+1,none⟩ (.int .i64 u)).drew=W3 at *
     go_wp2
     go_roundw
     case rel=>exact⟨k+1,Qf6 X k (k+1),by go_num,by omega,by omega,HU2,HS.out.1,HS.out.2⟩
     case measure=>simp[intOf];omega
    ·have hz2:¬(k:Int)<(i:Int)-1:=by omega
     have HST:Hid (Sorted cs a b o X):=by
      have e1:k=i-1:=by omega
      have h3:=HU.out
      have h4:=HM.out
      have h5:=HI.out
      rw[e1] at h3
      rw[HMA.out] at h4 h5
      exact Up.sorted h4 (by have:=HMA.out;omega) (by omega) h5 HJ2.out h3
     go_wp2
     (try simp only[Exit.inBlock,Exit.then])
     refine bodyPost_ret (results_none rfl _ _ _) rfl ?_
     exact⟨rfl,⟨X,HST.out,HO.out⟩,HG.out⟩
end
end Go.Proofs.YtibjlbcnapoblaaGreatDoor
