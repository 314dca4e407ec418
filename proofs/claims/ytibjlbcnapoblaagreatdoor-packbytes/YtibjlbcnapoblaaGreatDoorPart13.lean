/- Contracts and facts. -/
import Derived.Test.YtibjlbcnapoblaaGreatDoorPart12
namespace Go.Proofs.YtibjlbcnapoblaaGreatDoor
set_option maxRecDepth 100000
set_option maxHeartbeats 6400000
section
open Go.RowKit Hf
theorem Qyx(a m b n cap B gb gs gc oc capc:Nat)(cs o:List Int)(w:World)(hcts:Cts w gb gs gc oc capc cs)(ham:a+1<m)(hmb:b=m+1)(hb:b<=n)(hn:n<=100000)(hl:o.length=n)
 (hown:w.ownsRow B 3 1 (.slice (some ⟨gs,0,none⟩) n cap) n (o.map (Value.int .i64))) (ho:∀u∈o,0<=u∧u<(cs.length:Int)) (hm:Mrg cs a m b o) :
 Calls Tryz.prog 183 #[(.slice (some ⟨gs,0,none⟩) n cap),.int .i64 (a:Int),.int .i64 (m:Int),.int .i64 (b:Int),.func (.func 174) #[] #[.pointer (some ⟨gb,0,none⟩)]] w fun e w'=>e= .returned (.tuple #[])∧(∃X,Sorted cs a b o X∧w'.ownsRow B 3 1 (.slice (some ⟨gs,0,none⟩) n cap) n (X.map (Value.int .i64)))∧w.grownBy w' (some gs):=by
 have HO:=hid hown
 have HCT:=hid hcts
 have HM:=hid hm
 have HL:=hid hl
 have HMB:=hid hmb
 have HYE:Hid (∀p,p<n->∃u:Nat,o.getD p 0=(u:Int)∧u<cs.length):=fun p hp=>by
  have hm:=Hf.getD_in (l:=o) p (by rw[hl];exact hp)
  have:=ho _ hm
  exact⟨(o.getD p 0).toNat,by omega,by omega⟩
 have hq0:((m:Int)-(a:Int)==1)=false:=by rw[beq_eq_false_iff_ne];omega
 have hq:((b:Int)-(m:Int)==1)=true:=by rw[beq_iff_eq];omega
 have hmb':m<b:=by omega
 clear hown hcts ho hm hl hmb
 go_enter Tryz.func183,Tryz.ntmps183
 go_wp2
 go_loopw [14,15] (fun x y wr=>∃i j:Nat,x= .int .i64 i∧y= .int .i64 j∧a<=i∧i<=j∧j<=m∧Hid (i=a∨key cs (o.getD (i-1) 0)<=key cs (o.getD m 0))∧Hid (j=m∨key cs (o.getD m 0)<key cs (o.getD j 0))∧Hid (wr.ownsRow B 3 1 (.slice (some ⟨gs,0,none⟩) n cap) n (o.map (Value.int .i64)))∧Hid (w.grownBy wr (some gs))) (fun x y _=>(intOf y).toNat-(intOf x).toNat)
 case atStart=>exact⟨a,m,rfl,rfl,Nat.le_refl _,by omega,Nat.le_refl _,Or.inl rfl,Or.inl rfl,HO,World.grownBy.refl _ _⟩
 case round=>
  clear HO
  obtain⟨i,j,rfl,rfl,hmi,hij,hjb,HI,HJ,HO,HG⟩:=hrel
  by_cases hlt:i<j
  ·have hz:(i:Int)<(j:Int):=by omega
   obtain⟨h,hh,hh1,hh2⟩:∃h:Nat,((i:Int)+(j:Int))/2=(h:Int)∧i<=h∧h<j:=⟨(i+j)/2,by omega,by omega,by omega⟩
   have HH:=hid hh
   clear hh
   obtain⟨u,hu,hul⟩:=HYE.out (m) (by omega)
   obtain⟨v,hv,hvl⟩:=HYE.out (h) (by omega)
   have c1:=Qa3 HO.out HL.out (m) (by omega)
   have c2:=Qa3 HO.out HL.out (h) (by omega)
   rw[hu] at c1
   rw[hv] at c2
   have HC:Hid (∀W,W=wr.drew->Calls Tryz.prog 174 #[.int .i64 (u:Int),.int .i64 (v:Int),.pointer (some ⟨gb,0,none⟩)] W fun e w'=>e= .returned (.int .i64 (Qgg (key cs (u:Int)) (key cs (v:Int))))∧w'=W.drew):=fun W hW=>by
    subst hW
    exact Qii u v gb gs gc oc capc cs _ (HCT.out.kept (Qan HG.out)) hul hvl
   have hhn:(h:Int)<(n:Int):=by omega
   have han:(m:Int)<(n:Int):=by omega
   by_cases hk:key cs (u:Int)<key cs (v:Int)
   ·have HJ2:Hid (h=m∨key cs (o.getD m 0)<key cs (o.getD h 0)):=Or.inr (by rw[hu,hv];exact hk)
    have hneg:Qgg (key cs (u:Int)) (key cs (v:Int))<0:=(Qde _ _).2 hk
    clear hu hv hk HJ
    generalize Qgg (key cs (u:Int)) (key cs (v:Int))=z at *
    go_wp2_with fail
    rw[HH.out]
    go_wp2_with fail
    refine wp_region_held_drew (S:=fun W=>W.cell? ⟨gs,m,none⟩=some (.int .i64 (u:Int))∧W.cell? ⟨gs,h,none⟩=some (.int .i64 (v:Int))) (by kernel_rfl) ⟨c1,c2⟩ (fun hS=>?_)
    refine Ord.tk (i:=0) (d:=92) (v:=?v0) rfl rfl ?h0 (by assumption) ?_
    case h0=>intro w hSw;go_simp;try with_reducible rfl
    simp only[Ord.s1,Ord.s2,Ord.s3]
    refine Ord.tk (i:=1) (d:=93) (v:=?v1) rfl rfl ?h1 (by assumption) ?_
    case h1=>intro w hSw;go_simp;try with_reducible rfl
    simp only[Ord.s1,Ord.s2,Ord.s3]
    refine Ord.tk (i:=2) (d:=94) (v:=?v2) rfl rfl ?h2 (by assumption) ?_
    case h2=>intro w hSw;go_simp;try with_reducible rfl
    simp only[Ord.s1,Ord.s2,Ord.s3]
    refine Ord.tk (i:=3) (d:=95) (v:=?v3) rfl rfl ?h3 (by assumption) ?_
    case h3=>intro w hSw;go_simp;try with_reducible rfl
    simp only[Ord.s1,Ord.s2,Ord.s3]
    refine Ord.tk (i:=4) (d:=96) (v:= .int .i64 (u:Int)) rfl rfl ?h4 (by assumption) ?_
    case h4=>intro w hSw;have e:=hSw.1;go_simp;try with_reducible rfl
    simp only[Ord.s1,Ord.s2,Ord.s3]
    refine Ord.tk (i:=5) (d:=97) (v:=?v5) rfl rfl ?h5 (by assumption) ?_
    case h5=>intro w hSw;go_simp;try with_reducible rfl
    simp only[Ord.s1,Ord.s2,Ord.s3]
    refine Ord.tk (i:=6) (d:=98) (v:=?v6) rfl rfl ?h6 (by assumption) ?_
    case h6=>intro w hSw;go_simp;try with_reducible rfl
    simp only[Ord.s1,Ord.s2,Ord.s3]
    refine Ord.tk (i:=7) (d:=99) (v:=?v7) rfl rfl ?h7 (by assumption) ?_
    case h7=>intro w hSw;go_simp;try with_reducible rfl
    simp only[Ord.s1,Ord.s2,Ord.s3]
    refine Ord.tk (i:=8) (d:=100) (v:= .int .i64 (v:Int)) rfl rfl ?h8 (by assumption) ?_
    case h8=>intro w hSw;have e:=hSw.2;go_simp;try with_reducible rfl
    simp only[Ord.s1,Ord.s2,Ord.s3]
    refine wpAnyH_ready (rs:= [9]) (by as_aux_lemma=>kernel_rfl) (by simp) (AllReadyH.cons rfl (fun K hK=>?_) AllReadyH.nil)
    go_simp
    refine(HC.out _ rfl).mono ?_
    rintro _ w1 ⟨rfl,hw⟩
    obtain rfl:=hw.symm
    clear hw
    refine hK.out _ _ ⟨c1,c2⟩ (fun _=>?_)
    clear hK K
    refine Ord.tk (i:=10) (d:=102) (v:= .bool true) rfl rfl ?h10 (by assumption) ?_
    case h10=>intro w hSw;go_simp;try with_reducible rfl
    simp only[Ord.s1,Ord.s2,Ord.s3]
    refine Ord.tk (i:=11) (d:=103) (v:= .bool false) rfl rfl ?h11 (by assumption) ?_
    case h11=>intro w hSw;go_simp;try with_reducible rfl
    simp only[Ord.s1,Ord.s2,Ord.s3]
    refine wpAnyH_done (by as_aux_lemma=>kernel_rfl) ?_ _
    have HG2:=hid (Qan (Qan HG.out))
    have HO2:=hid HO.out.drew.drew
    clear HG HO c1 c2 hS HC
    generalize wr.drew.drew=W2 at *
    go_wp2
    exact⟨⟨i,h,rfl,rfl,by omega,by omega,by omega,HI,HJ2,HO2,HG2⟩,by simp[intOf];omega⟩
   ·have HI2:Hid (h+1=a∨key cs (o.getD (h+1-1) 0)<=key cs (o.getD m 0)):=Or.inr (by rw[Nat.add_sub_cancel,hu,hv];exact Int.not_lt.1 hk)
    have hneg:0<=Qgg (key cs (u:Int)) (key cs (v:Int)):=Int.not_lt.1 (fun h=>hk ((Qde _ _).1 h))
    clear hu hv hk HI
    generalize Qgg (key cs (u:Int)) (key cs (v:Int))=z at *
    go_wp2_with fail
    rw[HH.out]
    go_wp2_with fail
    refine wp_region_held_drew (S:=fun W=>W.cell? ⟨gs,m,none⟩=some (.int .i64 (u:Int))∧W.cell? ⟨gs,h,none⟩=some (.int .i64 (v:Int))) (by kernel_rfl) ⟨c1,c2⟩ (fun hS=>?_)
    refine Ord.tk (i:=0) (d:=92) (v:=?v0b) rfl rfl ?h0b (by assumption) ?_
    case h0b=>intro w hSw;go_simp;try with_reducible rfl
    simp only[Ord.s1,Ord.s2,Ord.s3]
    refine Ord.tk (i:=1) (d:=93) (v:=?v1b) rfl rfl ?h1b (by assumption) ?_
    case h1b=>intro w hSw;go_simp;try with_reducible rfl
    simp only[Ord.s1,Ord.s2,Ord.s3]
    refine Ord.tk (i:=2) (d:=94) (v:=?v2b) rfl rfl ?h2b (by assumption) ?_
    case h2b=>intro w hSw;go_simp;try with_reducible rfl
    simp only[Ord.s1,Ord.s2,Ord.s3]
    refine Ord.tk (i:=3) (d:=95) (v:=?v3b) rfl rfl ?h3b (by assumption) ?_
    case h3b=>intro w hSw;go_simp;try with_reducible rfl
    simp only[Ord.s1,Ord.s2,Ord.s3]
    refine Ord.tk (i:=4) (d:=96) (v:= .int .i64 (u:Int)) rfl rfl ?h4b (by assumption) ?_
    case h4b=>intro w hSw;have e:=hSw.1;go_simp;try with_reducible rfl
    simp only[Ord.s1,Ord.s2,Ord.s3]
    refine Ord.tk (i:=5) (d:=97) (v:=?v5b) rfl rfl ?h5b (by assumption) ?_
    case h5b=>intro w hSw;go_simp;try with_reducible rfl
    simp only[Ord.s1,Ord.s2,Ord.s3]
    refine Ord.tk (i:=6) (d:=98) (v:=?v6b) rfl rfl ?h6b (by assumption) ?_
    case h6b=>intro w hSw;go_simp;try with_reducible rfl
    simp only[Ord.s1,Ord.s2,Ord.s3]
    refine Ord.tk (i:=7) (d:=99) (v:=?v7b) rfl rfl ?h7b (by assumption) ?_
    case h7b=>intro w hSw;go_simp;try with_reducible rfl
    simp only[Ord.s1,Ord.s2,Ord.s3]
    refine Ord.tk (i:=8) (d:=100) (v:= .int .i64 (v:Int)) rfl rfl ?h8b (by assumption) ?_
    case h8b=>intro w hSw;have e:=hSw.2;go_simp;try with_reducible rfl
    simp only[Ord.s1,Ord.s2,Ord.s3]
    refine wpAnyH_ready (rs:= [9]) (by as_aux_lemma=>kernel_rfl) (by simp) (AllReadyH.cons rfl (fun K hK=>?_) AllReadyH.nil)
    go_simp
    refine(HC.out _ rfl).mono ?_
    rintro _ w1 ⟨rfl,hw⟩
    obtain rfl:=hw.symm
    clear hw
    refine hK.out _ _ ⟨c1,c2⟩ (fun _=>?_)
    clear hK K
    refine Ord.tk (i:=10) (d:=102) (v:= .bool false) rfl rfl ?h10b (by assumption) ?_
    case h10b=>intro w hSw;go_simp;try with_reducible rfl
    simp only[Ord.s1,Ord.s2,Ord.s3]
    refine Ord.tk (i:=11) (d:=103) (v:= .bool true) rfl rfl ?h11b (by assumption) ?_
    case h11b=>intro w hSw;go_simp;try with_reducible rfl
    simp only[Ord.s1,Ord.s2,Ord.s3]
    refine wpAnyH_done (by as_aux_lemma=>kernel_rfl) ?_ _
    have HG2:=hid (Qan (Qan HG.out))
    have HO2:=hid HO.out.drew.drew
    clear HG HO c1 c2 hS HC
    generalize wr.drew.drew=W2 at *
    go_wp2
    exact⟨⟨h+1,j,by go_num,rfl,by omega,by omega,by omega,HI2,HJ,HO2,HG2⟩,by simp[intOf];omega⟩
  ·have hz:¬(i:Int)<(j:Int):=by omega
   have HJ2:Hid (i=m∨key cs (o.getD m 0)<key cs (o.getD i 0)):=by
    have e:i=j:=by omega
    rw[e];exact HJ
   clear HJ
   go_wp2_with fail
   go_loopw [17] (fun x wr=>∃(k:Nat) (X:List Int),x= .int .i64 k∧i<=k∧k<=m∧Hid (Dn k m o X)∧Hid (wr.ownsRow B 3 1 (.slice (some ⟨gs,0,none⟩) n cap) n (X.map (Value.int .i64)))∧Hid (w.grownBy wr (some gs))) (fun x _=>(intOf x).toNat)
   case atStart=>exact⟨m,o,rfl,by omega,Nat.le_refl _,Dn.start m o,HO,HG⟩
   case round=>
    clear HO HG
    obtain⟨k,X,rfl,hik,hkm,HU,HO,HG⟩:=hrel
    have HXL:Hid (X.length=n):=by show _=_;rw[HU.out.perm.length_eq,HL.out]
    by_cases hlt2:i<k
    ·obtain⟨jp,rfl⟩:∃jp,k=jp+1:=⟨k-1,by omega⟩
     have hz2:(i:Int)<(jp:Int)+1:=by omega
     have c1:=Qa3 HO.out HXL.out (jp+1) (by omega)
     have c2:=Qa3 HO.out HXL.out jp (by omega)
     have f1:=HO.out.frozenAt (jp+1)
     have f2:=HO.out.frozenAt jp
     have h1:=Qkm HO.out (jp+1) jp
     have HS:Hid (((wr.setCell ⟨gs,jp+1,none⟩ (.int .i64 (X.getD jp 0))).setCell ⟨gs,jp,none⟩ (.int .i64 (X.getD (jp+1) 0))).drew.ownsRow B 3 1 (.slice (some ⟨gs,0,none⟩) n cap) n ((Qf6 X (jp+1) jp).map (Value.int .i64))∧w.grownBy ((wr.setCell ⟨gs,jp+1,none⟩ (.int .i64 (X.getD jp 0))).setCell ⟨gs,jp,none⟩ (.int .i64 (X.getD (jp+1) 0))).drew (some gs)):=⟨h1.1.drew,Qan (Qah HG.out h1.2)⟩
     have HU2:=hid (Dn.step HU.out hkm (by rw[HXL.out];omega))
     have hjn:(jp:Int)+1<(n:Int):=by omega
     have hj0:(0:Int)<=(jp:Int)+1:=by omega
     have hjpn:jp<n:=by omega
     clear h1 HO HG HXL HU
     generalize X.getD (jp+1) 0=u at *
     generalize X.getD jp 0=v at *
     go_wp2_with fail
     go_region
     clear c1 c2 f1 f2
     generalize ((wr.setCell ⟨gs,jp+1,none⟩ (.int .i64 v)).setCell ⟨gs,jp,none⟩ (.int .i64 u)).drew=W3 at *
     go_wp2
     go_roundw
     case rel=>exact⟨jp,Qf6 X (jp+1) jp,by go_num,by omega,by omega,HU2,HS.out.1,HS.out.2⟩
     case measure=>simp[intOf]
    ·have hz2:¬(i:Int)<(k:Int):=by omega
     have HST:Hid (Sorted cs a b o X):=by
      have e1:k=i:=by omega
      have h3:=HU.out
      have h4:=HM.out
      rw[e1] at h3
      rw[HMB.out] at h4
      show Sorted cs a b o X
      rw[HMB.out]
      exact Dn.sorted h4 hmi (by omega) HI.out HJ2.out h3
     go_wp2
     (try simp only[Exit.inBlock,Exit.then])
     refine bodyPost_ret (results_none rfl _ _ _) rfl ?_
     exact⟨rfl,⟨X,HST.out,HO.out⟩,HG.out⟩
namespace Hf
theorem Qg1(X:List Int)(a b:Nat):∀k,a+k<=X.length->b+k<=X.length->(Qdc X a b k).Perm X
 | 0,_,_=>List.Perm.refl _
 | k+1,ha,hb=>by
   have hl:=Qbs X a b k
   rw[Qdc]
   exact(Qg9 _ _ _ (by omega) (by omega)).trans (Qg1 X a b k (by omega) (by omega))
theorem Qmn(m:Nat):∀(f:Nat) (X:List Int) (i j:Nat),i<=m->m+j<=X.length->(Qmp m f X i j).Perm X
 | 0,_,_,_,_,_=>List.Perm.refl _
 | f+1,X,i,j,hi,hj=>by
   rw[Qmp]
   split
   ·exact Qg1 X _ _ _ (by omega) (by omega)
   ·split
    ·exact(Qmn m f _ _ _ (by omega) (by rw[Qbs];omega)).trans (Qg1 X _ _ _ (by omega) (by omega))
    ·exact(Qmn m f _ _ _ (by omega) (by rw[Qbs];omega)).trans (Qg1 X _ _ _ (by omega) (by omega))
theorem Turned.rot{a m b mid s e:Nat}{o:List Int}(hsum:s+e=mid+m)(has:a<=s∧e<=b)(hsm:s<m)(hme:m<e)(hb:e<=o.length):Turned a m b mid s e o (Qmp m (e-s) o (m-s) (e-m)):=by
 refine⟨Qmn m _ _ _ _ (by omega) (by omega),hsum,by omega,by omega,by omega,by omega,by omega,by omega,fun p=>?_⟩
 rw[Qlt m (e-s) o (m-s) (e-m) (by omega) (by omega) (by omega) (by omega) (by omega)]
 congr 1
 repeat' split
 all_goals omega
end Hf
theorem Qyi(a m b mid n cap B gb gs gc oc capc:Nat)(cs o:List Int)(w:World)(hcts:Cts w gb gs gc oc capc cs)(ham:a+1<m)(hmb:m+1<b)(hb:b<=n)(hn:n<=100000)(hl:o.length=n)
 (hmid:mid=(a+b)/2) (hway:mid<m)
 (hown:w.ownsRow B 3 1 (.slice (some ⟨gs,0,none⟩) n cap) n (o.map (Value.int .i64))) (ho:∀u∈o,0<=u∧u<(cs.length:Int)) (hm:Mrg cs a m b o)
 (hrec:∀(a' m' b':Nat) (o':List Int) (W:World),a'<m'->m'<b'->b'<=n->b'-a'<b-a->o'.length=n->W.ownsRow B 3 1 (.slice (some ⟨gs,0,none⟩) n cap) n (o'.map (Value.int .i64))->(∀u∈o',0<=u∧u<(cs.length:Int))->Mrg cs a' m' b' o'->w.grownBy W (some gs) ->
  Calls Tryz.prog 183 #[(.slice (some ⟨gs,0,none⟩) n cap),.int .i64 (a':Int),.int .i64 (m':Int),.int .i64 (b':Int),.func (.func 174) #[] #[.pointer (some ⟨gb,0,none⟩)]] W fun e w'=>e= .returned (.tuple #[])∧(∃X,Sorted cs a' b' o' X∧w'.ownsRow B 3 1 (.slice (some ⟨gs,0,none⟩) n cap) n (X.map (Value.int .i64)))∧W.grownBy w' (some gs)) :
 Calls Tryz.prog 183 #[(.slice (some ⟨gs,0,none⟩) n cap),.int .i64 (a:Int),.int .i64 (m:Int),.int .i64 (b:Int),.func (.func 174) #[] #[.pointer (some ⟨gb,0,none⟩)]] w fun e w'=>e= .returned (.tuple #[])∧(∃X,Sorted cs a b o X∧w'.ownsRow B 3 1 (.slice (some ⟨gs,0,none⟩) n cap) n (X.map (Value.int .i64)))∧w.grownBy w' (some gs):=by
 have HO:=hid hown
 have HCT:=hid hcts
 have HM:=hid hm
 have HL:=hid hl
 have HOO:=hid ho
 have HREC:=hid hrec
 have HYE:Hid (∀p,p<n->∃u:Nat,o.getD p 0=(u:Int)∧u<cs.length):=fun p hp=>by
  have hm:=Hf.getD_in (l:=o) p (by rw[hl];exact hp)
  have:=ho _ hm
  exact⟨(o.getD p 0).toNat,by omega,by omega⟩
 have hq0:((m:Int)-(a:Int)==1)=false:=by rw[beq_eq_false_iff_ne];omega
 have hq1:((b:Int)-(m:Int)==1)=false:=by rw[beq_eq_false_iff_ne];omega
 have HMID:Hid (((a:Int)+(b:Int))/2=(mid:Int)):=by show _=_;omega
 have hm1:2*mid<=a+b:=by omega
 have hm2:a+b<=2*mid+1:=by omega
 have hwz:(mid:Int)<(m:Int):=by omega
 have hamid:a<mid:=by omega
 have hmidb:mid<b:=by omega
 obtain⟨N,hN⟩:∃N,N=mid+m:=⟨_,rfl⟩
 obtain⟨P,hP⟩:∃P,P+1=N:=⟨N-1,by omega⟩
 have HN:Hid ((mid:Int)+(m:Int)=(N:Int)):=by show _=_;omega
 have HP:Hid ((N:Int)-1=(P:Int)):=by show _=_;omega
 have HDEC:Hid (decide ((mid:Int)<(m:Int))=true):=by show _=_;exact decide_eq_true hwz
 have hNn:N<=200000:=by omega
 have hPn:P<=200000:=by omega
 have HN':=hid hN
 have HP':=hid hP
 clear hown hcts ho hm hl hmid hrec hN hP
 go_enter Tryz.func183,Tryz.ntmps183
 go_wp2_with fail
 rw[HMID.out,HN.out,HP.out,HDEC.out]
 go_loopw [20,21] (fun x y wr=>∃s r:Nat,x= .int .i64 s∧y= .int .i64 r∧(mid+m-b)<=s∧s<=r∧r<=mid∧Hid (s=(mid+m-b)∨Lx cs (o.getD (s-1) 0) (o.getD (mid+m-s) 0))∧Hid (r=mid∨Lx cs (o.getD (mid+m-1-r) 0) (o.getD r 0))∧Hid (wr.ownsRow B 3 1 (.slice (some ⟨gs,0,none⟩) n cap) n (o.map (Value.int .i64)))∧Hid (w.grownBy wr (some gs))) (fun x y _=>(intOf y).toNat-(intOf x).toNat)
 case atStart=>exact⟨(mid+m-b),mid,(by congr 1;have:=HN'.out;omega),rfl,Nat.le_refl _,by omega,Nat.le_refl _,Or.inl rfl,Or.inl rfl,HO,World.grownBy.refl _ _⟩
 case round=>
  clear HO
  obtain⟨s,r,rfl,rfl,hs0,hsr,hr0,HI,HJ,HO,HG⟩:=hrel
  by_cases hlt:s<r
  ·have hz:(s:Int)<(r:Int):=by omega
   obtain⟨c,hc,hc1,hc2⟩:∃c:Nat,((s:Int)+(r:Int))/2=(c:Int)∧s<=c∧c<r:=⟨(s+r)/2,by omega,by omega,by omega⟩
   have HH:=hid hc
   obtain⟨pc,hpc⟩:∃pc,pc=mid+m-1-c:=⟨_,rfl⟩
   have hcm:a<=c∧c<m∧m<=pc∧pc<b:=by omega
   have HPC:Hid (IntKind.i64.wrap ((P:Int)-(c:Int))=(pc:Int)):=by show _=_;rw[IntKind.wrap_i64];have:=HN'.out;have:=HP'.out;omega
   have HPE:=hid hpc
   clear hc hpc
   obtain⟨u,hu,hul⟩:=HYE.out (pc) (by omega)
   obtain⟨v,hv,hvl⟩:=HYE.out (c) (by omega)
   have c1:=Qa3 HO.out HL.out (pc) (by omega)
   have c2:=Qa3 HO.out HL.out (c) (by omega)
   rw[hu] at c1
   rw[hv] at c2
   have HC:Hid (∀W,W=wr.drew->Calls Tryz.prog 174 #[.int .i64 (u:Int),.int .i64 (v:Int),.pointer (some ⟨gb,0,none⟩)] W fun e w'=>e= .returned (.int .i64 (Qgg (key cs (u:Int)) (key cs (v:Int))))∧w'=W.drew):=fun W hW=>by
    subst hW
    exact Qii u v gb gs gc oc capc cs _ (HCT.out.kept (Qan HG.out)) hul hvl
   have hhn:(c:Int)<(n:Int):=by omega
   have han:(pc:Int)<(n:Int):=by omega
   by_cases hk:key cs (u:Int)<key cs (v:Int)
   ·have HJ2:Hid (c=mid∨Lx cs (o.getD (mid+m-1-c) 0) (o.getD c 0)):=Or.inr (by rw[<-HPE.out,hu,hv];exact Or.inl hk)
    have hneg:Qgg (key cs (u:Int)) (key cs (v:Int))<0:=(Qde _ _).2 hk
    clear hu hv hk HJ
    generalize Qgg (key cs (u:Int)) (key cs (v:Int))=z at *
    go_wp2_with fail
    rw[HH.out]
    go_wp2_with fail
    refine wp_region_held_drew (S:=fun W=>W.cell? ⟨gs,pc,none⟩=some (.int .i64 (u:Int))∧W.cell? ⟨gs,c,none⟩=some (.int .i64 (v:Int))) (by kernel_rfl) ⟨c1,c2⟩ (fun hS=>?_)
    refine Ord.tk (i:=0) (d:=158) (v:=?v0) rfl rfl ?h0 (by assumption) ?_
    case h0=>intro w hSw;go_simp;try with_reducible rfl
    simp only[Ord.s1,Ord.s2,Ord.s3]
    refine Ord.tk (i:=1) (d:=159) (v:=?v1) rfl rfl ?h1 (by assumption) ?_
    case h1=>intro w hSw;go_simp;try with_reducible rfl
    simp only[Ord.s1,Ord.s2,Ord.s3]
    refine Ord.tk (i:=2) (d:=160) (v:=?v2) rfl rfl ?h2 (by assumption) ?_
    case h2=>intro w hSw;go_simp;try with_reducible rfl
    simp only[Ord.s1,Ord.s2,Ord.s3]
    refine Ord.tk (i:=3) (d:=161) (v:=?v3) rfl rfl ?h3 (by assumption) ?_
    case h3=>intro w hSw;go_simp;try with_reducible rfl
    simp only[Ord.s1,Ord.s2,Ord.s3]
    refine Ord.tk (i:=4) (d:=162) (v:= .int .i64 (pc:Int)) rfl rfl ?h4 (by assumption) ?_
    case h4=>intro w hSw;go_simp;exact HPC.out
    simp only[Ord.s1,Ord.s2,Ord.s3]
    refine Ord.tk (i:=5) (d:=163) (v:=?v5) rfl rfl ?h5 (by assumption) ?_
    case h5=>intro w hSw;go_simp;try with_reducible rfl
    simp only[Ord.s1,Ord.s2,Ord.s3]
    refine Ord.tk (i:=6) (d:=164) (v:= .int .i64 (u:Int)) rfl rfl ?h6 (by assumption) ?_
    case h6=>intro w hSw;have e:=hSw.1;go_simp;try with_reducible rfl
    simp only[Ord.s1,Ord.s2,Ord.s3]
    refine Ord.tk (i:=7) (d:=165) (v:=?v7) rfl rfl ?h7 (by assumption) ?_
    case h7=>intro w hSw;go_simp;try with_reducible rfl
    simp only[Ord.s1,Ord.s2,Ord.s3]
    refine Ord.tk (i:=8) (d:=166) (v:=?v8) rfl rfl ?h8 (by assumption) ?_
    case h8=>intro w hSw;go_simp;try with_reducible rfl
    simp only[Ord.s1,Ord.s2,Ord.s3]
    refine Ord.tk (i:=9) (d:=167) (v:=?v9) rfl rfl ?h9 (by assumption) ?_
    case h9=>intro w hSw;go_simp;try with_reducible rfl
    simp only[Ord.s1,Ord.s2,Ord.s3]
    refine Ord.tk (i:=10) (d:=168) (v:= .int .i64 (v:Int)) rfl rfl ?h10 (by assumption) ?_
    case h10=>intro w hSw;have e:=hSw.2;go_simp;try with_reducible rfl
    simp only[Ord.s1,Ord.s2,Ord.s3]
    refine wpAnyH_ready (rs:= [11]) (by as_aux_lemma=>kernel_rfl) (by simp) (AllReadyH.cons rfl (fun K hK=>?_) AllReadyH.nil)
    go_simp
    refine(HC.out _ rfl).mono ?_
    rintro _ w1 ⟨rfl,hw⟩
    obtain rfl:=hw.symm
    clear hw
    refine hK.out _ _ ⟨c1,c2⟩ (fun _=>?_)
    clear hK K
    refine Ord.tk (i:=12) (d:=170) (v:= .bool true) rfl rfl ?h12 (by assumption) ?_
    case h12=>intro w hSw;go_simp;try with_reducible rfl
    simp only[Ord.s1,Ord.s2,Ord.s3]
    refine Ord.tk (i:=13) (d:=171) (v:= .bool false) rfl rfl ?h13 (by assumption) ?_
    case h13=>intro w hSw;go_simp;try with_reducible rfl
    simp only[Ord.s1,Ord.s2,Ord.s3]
    refine wpAnyH_done (by as_aux_lemma=>kernel_rfl) ?_ _
    have HG2:=hid (Qan (Qan HG.out))
    have HO2:=hid HO.out.drew.drew
    clear HG HO c1 c2 hS HC
    generalize wr.drew.drew=W2 at *
    go_wp2
    go_roundw
    case rel=>exact⟨s,c,rfl,rfl,by omega,by omega,by omega,HI,HJ2,HO2,HG2⟩
    case measure=>simp[intOf];omega
   ·have HI2:Hid (c+1=(mid+m-b)∨Lx cs (o.getD (c+1-1) 0) (o.getD (mid+m-(c+1)) 0)):=Or.inr (by
     rw[Nat.add_sub_cancel,show mid+m-(c+1)=pc by have:=HPE.out;omega]
     exact HM.out.left hcm.1 hcm.2.1 hcm.2.2.1 hcm.2.2.2 (by rw[hu,hv];exact Int.not_lt.1 hk))
    have hneg:0<=Qgg (key cs (u:Int)) (key cs (v:Int)):=Int.not_lt.1 (fun h=>hk ((Qde _ _).1 h))
    clear hu hv hk HI
    generalize Qgg (key cs (u:Int)) (key cs (v:Int))=z at *
    go_wp2_with fail
    rw[HH.out]
    go_wp2_with fail
    refine wp_region_held_drew (S:=fun W=>W.cell? ⟨gs,pc,none⟩=some (.int .i64 (u:Int))∧W.cell? ⟨gs,c,none⟩=some (.int .i64 (v:Int))) (by kernel_rfl) ⟨c1,c2⟩ (fun hS=>?_)
    refine Ord.tk (i:=0) (d:=158) (v:=?v0b) rfl rfl ?h0b (by assumption) ?_
    case h0b=>intro w hSw;go_simp;try with_reducible rfl
    simp only[Ord.s1,Ord.s2,Ord.s3]
    refine Ord.tk (i:=1) (d:=159) (v:=?v1b) rfl rfl ?h1b (by assumption) ?_
    case h1b=>intro w hSw;go_simp;try with_reducible rfl
    simp only[Ord.s1,Ord.s2,Ord.s3]
    refine Ord.tk (i:=2) (d:=160) (v:=?v2b) rfl rfl ?h2b (by assumption) ?_
    case h2b=>intro w hSw;go_simp;try with_reducible rfl
    simp only[Ord.s1,Ord.s2,Ord.s3]
    refine Ord.tk (i:=3) (d:=161) (v:=?v3b) rfl rfl ?h3b (by assumption) ?_
    case h3b=>intro w hSw;go_simp;try with_reducible rfl
    simp only[Ord.s1,Ord.s2,Ord.s3]
    refine Ord.tk (i:=4) (d:=162) (v:= .int .i64 (pc:Int)) rfl rfl ?h4b (by assumption) ?_
    case h4b=>intro w hSw;go_simp;exact HPC.out
    simp only[Ord.s1,Ord.s2,Ord.s3]
    refine Ord.tk (i:=5) (d:=163) (v:=?v5b) rfl rfl ?h5b (by assumption) ?_
    case h5b=>intro w hSw;go_simp;try with_reducible rfl
    simp only[Ord.s1,Ord.s2,Ord.s3]
    refine Ord.tk (i:=6) (d:=164) (v:= .int .i64 (u:Int)) rfl rfl ?h6b (by assumption) ?_
    case h6b=>intro w hSw;have e:=hSw.1;go_simp;try with_reducible rfl
    simp only[Ord.s1,Ord.s2,Ord.s3]
    refine Ord.tk (i:=7) (d:=165) (v:=?v7b) rfl rfl ?h7b (by assumption) ?_
    case h7b=>intro w hSw;go_simp;try with_reducible rfl
    simp only[Ord.s1,Ord.s2,Ord.s3]
    refine Ord.tk (i:=8) (d:=166) (v:=?v8b) rfl rfl ?h8b (by assumption) ?_
    case h8b=>intro w hSw;go_simp;try with_reducible rfl
    simp only[Ord.s1,Ord.s2,Ord.s3]
    refine Ord.tk (i:=9) (d:=167) (v:=?v9b) rfl rfl ?h9b (by assumption) ?_
    case h9b=>intro w hSw;go_simp;try with_reducible rfl
    simp only[Ord.s1,Ord.s2,Ord.s3]
    refine Ord.tk (i:=10) (d:=168) (v:= .int .i64 (v:Int)) rfl rfl ?h10b (by assumption) ?_
    case h10b=>intro w hSw;have e:=hSw.2;go_simp;try with_reducible rfl
    simp only[Ord.s1,Ord.s2,Ord.s3]
    refine wpAnyH_ready (rs:= [11]) (by as_aux_lemma=>kernel_rfl) (by simp) (AllReadyH.cons rfl (fun K hK=>?_) AllReadyH.nil)
    go_simp
    refine(HC.out _ rfl).mono ?_
    rintro _ w1 ⟨rfl,hw⟩
    obtain rfl:=hw.symm
    clear hw
    refine hK.out _ _ ⟨c1,c2⟩ (fun _=>?_)
    clear hK K
    refine Ord.tk (i:=12) (d:=170) (v:= .bool false) rfl rfl ?h12b (by assumption) ?_
    case h12b=>intro w hSw;go_simp;try with_reducible rfl
    simp only[Ord.s1,Ord.s2,Ord.s3]
    refine Ord.tk (i:=13) (d:=171) (v:= .bool true) rfl rfl ?h13b (by assumption) ?_
    case h13b=>intro w hSw;go_simp;try with_reducible rfl
    simp only[Ord.s1,Ord.s2,Ord.s3]
    refine wpAnyH_done (by as_aux_lemma=>kernel_rfl) ?_ _
    have HG2:=hid (Qan (Qan HG.out))
    have HO2:=hid HO.out.drew.drew
    clear HG HO c1 c2 hS HC
    generalize wr.drew.drew=W2 at *
    go_wp2
    go_roundw
    case rel=>exact⟨c+1,r,by go_num,rfl,by omega,by omega,by omega,HI2,HJ,HO2,HG2⟩
    case measure=>simp[intOf];omega
  ·have hz:¬(s:Int)<(r:Int):=by omega
   have HCUT:Hid (Xlj cs a m b mid s o):=by
    have e:s=r:=by omega
    have h1:=HI.out
    have h2:=HJ.out
    rw[<-e] at h2
    refine⟨?_,?_⟩
    ·rcases h1 with h1 | h1
     ·left;exact⟨hway,h1⟩
     ·right;right;exact h1
    ·rcases h2 with h2 | h2
     ·left;exact⟨hway,h2⟩
     ·right;right;exact h2
   obtain⟨E,hE⟩:∃E,E=mid+m-s:=⟨_,rfl⟩
   have HE:Hid ((N:Int)-(s:Int)=(E:Int)):=by show _=_;have:=HN'.out;omega
   have hse:s+E=mid+m:=by omega
   have hlims:a<=s∧s<=m∧m<=E∧E<=b∧s<=mid∧mid<=E:=by omega
   obtain⟨l1,l2,l3,l4,l5,l6⟩:=hlims
   clear hE HI HJ HN' HP'
   by_cases x1:s<m
   ·by_cases x2:s<mid
    ·by_cases x3:a<s
     ·by_cases x4:E<b
      ·have hz0:(s:Int)<(m:Int):=by have:=HE.out;omega
       have hz1:(m:Int)<(E:Int):=by have:=HE.out;omega
       have hz2:(a:Int)<(s:Int):=by have:=HE.out;omega
       have hz3:(s:Int)<(mid:Int):=by have:=HE.out;omega
       have hz4:(mid:Int)<(E:Int):=by have:=HE.out;omega
       have hz5:(E:Int)<(b:Int):=by have:=HE.out;omega
       have hz6:(m:Int)<(N:Int)-(s:Int):=by have:=HE.out;omega
       have hz7:(mid:Int)<(N:Int)-(s:Int):=by have:=HE.out;omega
       have hz8:(N:Int)-(s:Int)<(b:Int):=by have:=HE.out;omega
       have HC:=hid (Qcq s m E n cap B gs (.func (.func 174) #[] #[.pointer (some ⟨gb,0,none⟩)]) o wr (by omega) (by omega) (by omega) hn HL.out HO.out)
       have HT:=hid (Turned.rot (a:=a) (b:=b) (mid:=mid) (s:=s) (e:=E) (m:=m) (o:=o) (by omega) (by omega) (by omega) (by omega) (by rw[HL.out];omega))
       generalize Qmp m (E-s) o (m-s) (E-m)=Y at *
       go_wp2_with fail
       rw[HE.out]
       refine HC.out.mono ?_
       rintro _ w2 ⟨rfl,hown2,hg2⟩
       have HO2:=hid hown2
       have HG2:=hid (Qah HG.out hg2)
       clear hown2 hg2 HC HO HG
       have HYL:Hid ((Y:List Int).length=n):=by show _=_;rw[HT.out.perm.length_eq,HL.out]
       have HF:=hid (Turned.first HM.out HT.out)
       have HR1:=hid (HREC.out a s mid Y w2 (by omega) (by omega) (by omega) (by omega) HYL.out HO2.out (fun u hu=>HOO.out u (HT.out.perm.subset hu)) HF.out HG2.out)
       go_wp2_with fail
       refine HR1.out.mono ?_
       rintro _ w3 ⟨rfl,⟨Z,hZ,hown3⟩,hg3⟩
       have HZ1:=hid hZ
       have HO3:=hid hown3
       have HG3:=hid (Qah HG2.out hg3)
       clear hZ hown3 hg3 HR1 HO2 HG2
       have HZL:Hid ((Z:List Int).length=n):=by show _=_;rw[HZ1.out.perm.length_eq,HYL.out]
       have HS2:=hid (Turned.second HM.out HT.out HZ1.out.same)
       have HR2:=hid (HREC.out mid E b Z w3 (by omega) (by omega) (by omega) (by omega) HZL.out HO3.out (fun u hu=>HOO.out u (HT.out.perm.subset (HZ1.out.perm.subset hu))) HS2.out HG3.out)
       go_wp2_with fail
       refine HR2.out.mono ?_
       rintro _ w4 ⟨rfl,⟨Z2,hZ,hown4⟩,hg4⟩
       have HZ2:=hid hZ
       have HO4:=hid hown4
       have HG4:=hid (Qah HG3.out hg4)
       clear hZ hown4 hg4 HR2 HO3 HG3
       have HEND:=hid (merged (by rw[HL.out];omega) HM.out HT.out HCUT.out HZ1.out HZ2.out)
       clear HREC HF HS2 HZ1 HZ2 HT HCUT
       go_wp2
       go_end0
       exact⟨rfl,⟨Z2,HEND.out,HO4.out⟩,HG4.out⟩
      ·have hz0:(s:Int)<(m:Int):=by have:=HE.out;omega
       have hz1:(m:Int)<(E:Int):=by have:=HE.out;omega
       have hz2:(a:Int)<(s:Int):=by have:=HE.out;omega
       have hz3:(s:Int)<(mid:Int):=by have:=HE.out;omega
       have hz4:(mid:Int)<(E:Int):=by have:=HE.out;omega
       have hz5:¬(E:Int)<(b:Int):=by have:=HE.out;omega
       have hz6:(m:Int)<(N:Int)-(s:Int):=by have:=HE.out;omega
       have hz7:(mid:Int)<(N:Int)-(s:Int):=by have:=HE.out;omega
       have hz8:¬(N:Int)-(s:Int)<(b:Int):=by have:=HE.out;omega
       have HC:=hid (Qcq s m E n cap B gs (.func (.func 174) #[] #[.pointer (some ⟨gb,0,none⟩)]) o wr (by omega) (by omega) (by omega) hn HL.out HO.out)
       have HT:=hid (Turned.rot (a:=a) (b:=b) (mid:=mid) (s:=s) (e:=E) (m:=m) (o:=o) (by omega) (by omega) (by omega) (by omega) (by rw[HL.out];omega))
       generalize Qmp m (E-s) o (m-s) (E-m)=Y at *
       go_wp2_with fail
       rw[HE.out]
       refine HC.out.mono ?_
       rintro _ w2 ⟨rfl,hown2,hg2⟩
       have HO2:=hid hown2
       have HG2:=hid (Qah HG.out hg2)
       clear hown2 hg2 HC HO HG
       have HYL:Hid ((Y:List Int).length=n):=by show _=_;rw[HT.out.perm.length_eq,HL.out]
       have HF:=hid (Turned.first HM.out HT.out)
       have HR1:=hid (HREC.out a s mid Y w2 (by omega) (by omega) (by omega) (by omega) HYL.out HO2.out (fun u hu=>HOO.out u (HT.out.perm.subset hu)) HF.out HG2.out)
       go_wp2_with fail
       refine HR1.out.mono ?_
       rintro _ w3 ⟨rfl,⟨Z,hZ,hown3⟩,hg3⟩
       have HZ1:=hid hZ
       have HO3:=hid hown3
       have HG3:=hid (Qah HG2.out hg3)
       clear hZ hown3 hg3 HR1 HO2 HG2
       have HZL:Hid ((Z:List Int).length=n):=by show _=_;rw[HZ1.out.perm.length_eq,HYL.out]
       have HS2:=hid (Turned.second HM.out HT.out HZ1.out.same)
       have HZ2:=hid (Mrg.one HS2.out (by omega))
       have HEND:=hid (merged (by rw[HL.out];omega) HM.out HT.out HCUT.out HZ1.out HZ2.out)
       clear HREC HF HS2 HZ1 HZ2 HT HCUT
       go_wp2
       go_end0
       exact⟨rfl,⟨Z,HEND.out,HO3.out⟩,HG3.out⟩
     ·by_cases x4:E<b
      ·have hz0:(s:Int)<(m:Int):=by have:=HE.out;omega
       have hz1:(m:Int)<(E:Int):=by have:=HE.out;omega
       have hz2:¬(a:Int)<(s:Int):=by have:=HE.out;omega
       have hz3:(s:Int)<(mid:Int):=by have:=HE.out;omega
       have hz4:(mid:Int)<(E:Int):=by have:=HE.out;omega
       have hz5:(E:Int)<(b:Int):=by have:=HE.out;omega
       have hz6:(m:Int)<(N:Int)-(s:Int):=by have:=HE.out;omega
       have hz7:(mid:Int)<(N:Int)-(s:Int):=by have:=HE.out;omega
       have hz8:(N:Int)-(s:Int)<(b:Int):=by have:=HE.out;omega
       have HC:=hid (Qcq s m E n cap B gs (.func (.func 174) #[] #[.pointer (some ⟨gb,0,none⟩)]) o wr (by omega) (by omega) (by omega) hn HL.out HO.out)
       have HT:=hid (Turned.rot (a:=a) (b:=b) (mid:=mid) (s:=s) (e:=E) (m:=m) (o:=o) (by omega) (by omega) (by omega) (by omega) (by rw[HL.out];omega))
       generalize Qmp m (E-s) o (m-s) (E-m)=Y at *
       go_wp2_with fail
       rw[HE.out]
       refine HC.out.mono ?_
       rintro _ w2 ⟨rfl,hown2,hg2⟩
       have HO2:=hid hown2
       have HG2:=hid (Qah HG.out hg2)
       clear hown2 hg2 HC HO HG
       have HYL:Hid ((Y:List Int).length=n):=by show _=_;rw[HT.out.perm.length_eq,HL.out]
       have HF:=hid (Turned.first HM.out HT.out)
       have HZ1:=hid (Mrg.one HF.out (by omega))
       have HZL:Hid ((Y:List Int).length=n):=by show _=_;rw[HZ1.out.perm.length_eq,HYL.out]
       have HS2:=hid (Turned.second HM.out HT.out HZ1.out.same)
       have HR2:=hid (HREC.out mid E b Y w2 (by omega) (by omega) (by omega) (by omega) HZL.out HO2.out (fun u hu=>HOO.out u (HT.out.perm.subset (HZ1.out.perm.subset hu))) HS2.out HG2.out)
       go_wp2_with fail
       refine HR2.out.mono ?_
       rintro _ w4 ⟨rfl,⟨Z2,hZ,hown4⟩,hg4⟩
       have HZ2:=hid hZ
       have HO4:=hid hown4
       have HG4:=hid (Qah HG2.out hg4)
       clear hZ hown4 hg4 HR2 HO2 HG2
       have HEND:=hid (merged (by rw[HL.out];omega) HM.out HT.out HCUT.out HZ1.out HZ2.out)
       clear HREC HF HS2 HZ1 HZ2 HT HCUT
       go_wp2
       go_end0
       exact⟨rfl,⟨Z2,HEND.out,HO4.out⟩,HG4.out⟩
      ·have hz0:(s:Int)<(m:Int):=by have:=HE.out;omega
       have hz1:(m:Int)<(E:Int):=by have:=HE.out;omega
       have hz2:¬(a:Int)<(s:Int):=by have:=HE.out;omega
       have hz3:(s:Int)<(mid:Int):=by have:=HE.out;omega
       have hz4:(mid:Int)<(E:Int):=by have:=HE.out;omega
       have hz5:¬(E:Int)<(b:Int):=by have:=HE.out;omega
       have hz6:(m:Int)<(N:Int)-(s:Int):=by have:=HE.out;omega
       have hz7:(mid:Int)<(N:Int)-(s:Int):=by have:=HE.out;omega
       have hz8:¬(N:Int)-(s:Int)<(b:Int):=by have:=HE.out;omega
       have HC:=hid (Qcq s m E n cap B gs (.func (.func 174) #[] #[.pointer (some ⟨gb,0,none⟩)]) o wr (by omega) (by omega) (by omega) hn HL.out HO.out)
       have HT:=hid (Turned.rot (a:=a) (b:=b) (mid:=mid) (s:=s) (e:=E) (m:=m) (o:=o) (by omega) (by omega) (by omega) (by omega) (by rw[HL.out];omega))
       generalize Qmp m (E-s) o (m-s) (E-m)=Y at *
       go_wp2_with fail
       rw[HE.out]
       refine HC.out.mono ?_
       rintro _ w2 ⟨rfl,hown2,hg2⟩
       have HO2:=hid hown2
       have HG2:=hid (Qah HG.out hg2)
       clear hown2 hg2 HC HO HG
       have HYL:Hid ((Y:List Int).length=n):=by show _=_;rw[HT.out.perm.length_eq,HL.out]
       have HF:=hid (Turned.first HM.out HT.out)
       have HZ1:=hid (Mrg.one HF.out (by omega))
       have HZL:Hid ((Y:List Int).length=n):=by show _=_;rw[HZ1.out.perm.length_eq,HYL.out]
       have HS2:=hid (Turned.second HM.out HT.out HZ1.out.same)
       have HZ2:=hid (Mrg.one HS2.out (by omega))
       have HEND:=hid (merged (by rw[HL.out];omega) HM.out HT.out HCUT.out HZ1.out HZ2.out)
       clear HREC HF HS2 HZ1 HZ2 HT HCUT
       go_wp2
       go_end0
       exact⟨rfl,⟨Y,HEND.out,HO2.out⟩,HG2.out⟩
    ·have hz0:(s:Int)<(m:Int):=by have:=HE.out;omega
     have hz1:¬(m:Int)<(E:Int):=by have:=HE.out;omega
     have hz2:(a:Int)<(s:Int):=by have:=HE.out;omega
     have hz3:¬(s:Int)<(mid:Int):=by have:=HE.out;omega
     have hz4:(mid:Int)<(E:Int):=by have:=HE.out;omega
     have hz5:(E:Int)<(b:Int):=by have:=HE.out;omega
     have hz6:¬(m:Int)<(N:Int)-(s:Int):=by have:=HE.out;omega
     have hz7:(mid:Int)<(N:Int)-(s:Int):=by have:=HE.out;omega
     have hz8:(N:Int)-(s:Int)<(b:Int):=by have:=HE.out;omega
     have HT:=hid (Turned.still (a:=a) (b:=b) (mid:=mid) (s:=s) (e:=E) (m:=m) (o:=o) (by omega) (by omega) (by omega) (by omega) (by omega) (by omega) (by omega) (by omega))
     have HYL:Hid ((o:List Int).length=n):=by show _=_;rw[HT.out.perm.length_eq,HL.out]
     have HF:=hid (Turned.first HM.out HT.out)
     have HZ1:=hid (Mrg.one HF.out (by omega))
     have HZL:Hid ((o:List Int).length=n):=by show _=_;rw[HZ1.out.perm.length_eq,HYL.out]
     have HS2:=hid (Turned.second HM.out HT.out HZ1.out.same)
     have HR2:=hid (HREC.out mid E b o wr (by omega) (by omega) (by omega) (by omega) HZL.out HO.out (fun u hu=>HOO.out u (HT.out.perm.subset (HZ1.out.perm.subset hu))) HS2.out HG.out)
     go_wp2_with fail
     rw[HE.out]
     refine HR2.out.mono ?_
     rintro _ w4 ⟨rfl,⟨Z2,hZ,hown4⟩,hg4⟩
     have HZ2:=hid hZ
     have HO4:=hid hown4
     have HG4:=hid (Qah HG.out hg4)
     clear hZ hown4 hg4 HR2 HO HG
     have HEND:=hid (merged (by rw[HL.out];omega) HM.out HT.out HCUT.out HZ1.out HZ2.out)
     clear HREC HF HS2 HZ1 HZ2 HT HCUT
     go_wp2
     go_end0
     exact⟨rfl,⟨Z2,HEND.out,HO4.out⟩,HG4.out⟩
   ·exact absurd l5 (by omega)
end
end Go.Proofs.YtibjlbcnapoblaaGreatDoor
