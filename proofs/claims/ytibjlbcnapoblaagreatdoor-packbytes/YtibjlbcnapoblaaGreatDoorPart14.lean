/- Contracts and facts. -/
import Derived.Test.YtibjlbcnapoblaaGreatDoorPart13
namespace Go.Proofs.YtibjlbcnapoblaaGreatDoor
set_option maxRecDepth 100000
set_option maxHeartbeats 6400000
section
open Go.RowKit Hf
theorem Qx9(a m b mid n cap B gb gs gc oc capc:Nat)(cs o:List Int)(w:World)(hcts:Cts w gb gs gc oc capc cs)(ham:a+1<m)(hmb:m+1<b)(hb:b<=n)(hn:n<=100000)(hl:o.length=n)
 (hmid:mid=(a+b)/2) (hway:m<=mid)
 (hown:w.ownsRow B 3 1 (.slice (some ⟨gs,0,none⟩) n cap) n (o.map (Value.int .i64))) (ho:∀u∈o,0<=u∧u<(cs.length:Int)) (hm:Mrg cs a m b o)
 (hrec:∀(a' m' b':Nat) (o':List Int) (W:World),a'<m'->m'<b'->b'<=n->b'-a'<b-a->o'.length=n->W.ownsRow B 3 1 (.slice (some ⟨gs,0,none⟩) n cap) n (o'.map (Value.int .i64))->(∀u∈o',0<=u∧u<(cs.length:Int))->Mrg cs a' m' b' o'->w.grownBy W (some gs) ->
  Calls Tryz.prog 183 #[(.slice (some ⟨gs,0,none⟩) n cap),.int .i64 (a':Int),.int .i64 (m':Int),.int .i64 (b':Int),.func (.func 174) #[] #[.pointer (some ⟨gb,0,none⟩)]] W fun e w'=>e= .returned (.tuple #[])∧(∃X,Sorted cs a' b' o' X∧w'.ownsRow B 3 1 (.slice (some ⟨gs,0,none⟩) n cap) n (X.map (Value.int .i64)))∧W.grownBy w' (some gs)) :
 Calls Tryz.prog 183 #[(.slice (some ⟨gs,0,none⟩) n cap),.int .i64 (a:Int),.int .i64 (m:Int),.int .i64 (b:Int),.func (.func 174) #[] #[.pointer (some ⟨gb,0,none⟩)]] w fun e w'=>e= .returned (.tuple #[])∧(∃X,Sorted cs a b o X∧w'.ownsRow B 3 1 (.slice (some ⟨gs,0,none⟩) n cap) n (X.map (Value.int .i64)))∧w.grownBy w' (some gs):=by
 have HO:=hid hown
 have HCT:=hid hcts
 have HM:=hid hm
 have HL:=hid hl
 have HOO:=hid ho
 have HREC:=hid hrec
 have HYE:Hid (∀p,p<n->∃u:Nat,o.getD p 0=(u:Int)∧u<cs.length):=fun p hp=>by
  have hm:=Hf.getD_in (l:=o) p (by rw[hl];exact hp)
  have:=ho _ hm
  exact⟨(o.getD p 0).toNat,by omega,by omega⟩
 have hq0:((m:Int)-(a:Int)==1)=false:=by rw[beq_eq_false_iff_ne];omega
 have hq1:((b:Int)-(m:Int)==1)=false:=by rw[beq_eq_false_iff_ne];omega
 have HMID:Hid (((a:Int)+(b:Int))/2=(mid:Int)):=by show _=_;omega
 have hm1:2*mid<=a+b:=by omega
 have hm2:a+b<=2*mid+1:=by omega
 have hwz:(m:Int)<=(mid:Int):=by omega
 have hamid:a<mid:=by omega
 have hmidb:mid<b:=by omega
 obtain⟨N,hN⟩:∃N,N=mid+m:=⟨_,rfl⟩
 obtain⟨P,hP⟩:∃P,P+1=N:=⟨N-1,by omega⟩
 have HN:Hid ((mid:Int)+(m:Int)=(N:Int)):=by show _=_;omega
 have HP:Hid ((N:Int)-1=(P:Int)):=by show _=_;omega
 have HDEC:Hid (decide ((mid:Int)<(m:Int))=false):=by show _=_;exact decide_eq_false (by omega)
 have hNn:N<=200000:=by omega
 have hPn:P<=200000:=by omega
 have HN':=hid hN
 have HP':=hid hP
 clear hown hcts ho hm hl hmid hrec hN hP
 go_enter Tryz.func183,Tryz.ntmps183
 go_wp2_with fail
 rw[HMID.out,HN.out,HP.out,HDEC.out]
 go_loopw [20,21] (fun x y wr=>∃s r:Nat,x= .int .i64 s∧y= .int .i64 r∧a<=s∧s<=r∧r<=m∧Hid (s=a∨Lx cs (o.getD (s-1) 0) (o.getD (mid+m-s) 0))∧Hid (r=m∨Lx cs (o.getD (mid+m-1-r) 0) (o.getD r 0))∧Hid (wr.ownsRow B 3 1 (.slice (some ⟨gs,0,none⟩) n cap) n (o.map (Value.int .i64)))∧Hid (w.grownBy wr (some gs))) (fun x y _=>(intOf y).toNat-(intOf x).toNat)
 case atStart=>exact⟨a,m,rfl,rfl,Nat.le_refl _,by omega,Nat.le_refl _,Or.inl rfl,Or.inl rfl,HO,World.grownBy.refl _ _⟩
 case round=>
  clear HO
  obtain⟨s,r,rfl,rfl,hs0,hsr,hr0,HI,HJ,HO,HG⟩:=hrel
  by_cases hlt:s<r
  ·have hz:(s:Int)<(r:Int):=by omega
   obtain⟨c,hc,hc1,hc2⟩:∃c:Nat,((s:Int)+(r:Int))/2=(c:Int)∧s<=c∧c<r:=⟨(s+r)/2,by omega,by omega,by omega⟩
   have HH:=hid hc
   obtain⟨pc,hpc⟩:∃pc,pc=mid+m-1-c:=⟨_,rfl⟩
   have hcm:a<=c∧c<m∧m<=pc∧pc<b:=by omega
   have HPC:Hid (IntKind.i64.wrap ((P:Int)-(c:Int))=(pc:Int)):=by show _=_;rw[IntKind.wrap_i64];have:=HN'.out;have:=HP'.out;omega
   have HPE:=hid hpc
   clear hc hpc
   obtain⟨u,hu,hul⟩:=HYE.out (pc) (by omega)
   obtain⟨v,hv,hvl⟩:=HYE.out (c) (by omega)
   have c1:=Qa3 HO.out HL.out (pc) (by omega)
   have c2:=Qa3 HO.out HL.out (c) (by omega)
   rw[hu] at c1
   rw[hv] at c2
   have HC:Hid (∀W,W=wr.drew->Calls Tryz.prog 174 #[.int .i64 (u:Int),.int .i64 (v:Int),.pointer (some ⟨gb,0,none⟩)] W fun e w'=>e= .returned (.int .i64 (Qgg (key cs (u:Int)) (key cs (v:Int))))∧w'=W.drew):=fun W hW=>by
    subst hW
    exact Qii u v gb gs gc oc capc cs _ (HCT.out.kept (Qan HG.out)) hul hvl
   have hhn:(c:Int)<(n:Int):=by omega
   have han:(pc:Int)<(n:Int):=by omega
   by_cases hk:key cs (u:Int)<key cs (v:Int)
   ·have HJ2:Hid (c=m∨Lx cs (o.getD (mid+m-1-c) 0) (o.getD c 0)):=Or.inr (by rw[<-HPE.out,hu,hv];exact Or.inl hk)
    have hneg:Qgg (key cs (u:Int)) (key cs (v:Int))<0:=(Qde _ _).2 hk
    clear hu hv hk HJ
    generalize Qgg (key cs (u:Int)) (key cs (v:Int))=z at *
    go_wp2_with fail
    rw[HH.out]
    go_wp2_with fail
    refine wp_region_held_drew (S:=fun W=>W.cell? ⟨gs,pc,none⟩=some (.int .i64 (u:Int))∧W.cell? ⟨gs,c,none⟩=some (.int .i64 (v:Int))) (by kernel_rfl) ⟨c1,c2⟩ (fun hS=>?_)
    refine Ord.tk (i:=0) (d:=158) (v:=?v0) rfl rfl ?h0 (by assumption) ?_
    case h0=>intro w hSw;go_simp;try with_reducible rfl
    simp only[Ord.s1,Ord.s2,Ord.s3]
    refine Ord.tk (i:=1) (d:=159) (v:=?v1) rfl rfl ?h1 (by assumption) ?_
    case h1=>intro w hSw;go_simp;try with_reducible rfl
    simp only[Ord.s1,Ord.s2,Ord.s3]
    refine Ord.tk (i:=2) (d:=160) (v:=?v2) rfl rfl ?h2 (by assumption) ?_
    case h2=>intro w hSw;go_simp;try with_reducible rfl
    simp only[Ord.s1,Ord.s2,Ord.s3]
    refine Ord.tk (i:=3) (d:=161) (v:=?v3) rfl rfl ?h3 (by assumption) ?_
    case h3=>intro w hSw;go_simp;try with_reducible rfl
    simp only[Ord.s1,Ord.s2,Ord.s3]
    refine Ord.tk (i:=4) (d:=162) (v:= .int .i64 (pc:Int)) rfl rfl ?h4 (by assumption) ?_
    case h4=>intro w hSw;go_simp;exact HPC.out
    simp only[Ord.s1,Ord.s2,Ord.s3]
    refine Ord.tk (i:=5) (d:=163) (v:=?v5) rfl rfl ?h5 (by assumption) ?_
    case h5=>intro w hSw;go_simp;try with_reducible rfl
    simp only[Ord.s1,Ord.s2,Ord.s3]
    refine Ord.tk (i:=6) (d:=164) (v:= .int .i64 (u:Int)) rfl rfl ?h6 (by assumption) ?_
    case h6=>intro w hSw;have e:=hSw.1;go_simp;try with_reducible rfl
    simp only[Ord.s1,Ord.s2,Ord.s3]
    refine Ord.tk (i:=7) (d:=165) (v:=?v7) rfl rfl ?h7 (by assumption) ?_
    case h7=>intro w hSw;go_simp;try with_reducible rfl
    simp only[Ord.s1,Ord.s2,Ord.s3]
    refine Ord.tk (i:=8) (d:=166) (v:=?v8) rfl rfl ?h8 (by assumption) ?_
    case h8=>intro w hSw;go_simp;try with_reducible rfl
    simp only[Ord.s1,Ord.s2,Ord.s3]
    refine Ord.tk (i:=9) (d:=167) (v:=?v9) rfl rfl ?h9 (by assumption) ?_
    case h9=>intro w hSw;go_simp;try with_reducible rfl
    simp only[Ord.s1,Ord.s2,Ord.s3]
    refine Ord.tk (i:=10) (d:=168) (v:= .int .i64 (v:Int)) rfl rfl ?h10 (by assumption) ?_
    case h10=>intro w hSw;have e:=hSw.2;go_simp;try with_reducible rfl
    simp only[Ord.s1,Ord.s2,Ord.s3]
    refine wpAnyH_ready (rs:= [11]) (by as_aux_lemma=>kernel_rfl) (by simp) (AllReadyH.cons rfl (fun K hK=>?_) AllReadyH.nil)
    go_simp
    refine(HC.out _ rfl).mono ?_
    rintro _ w1 ⟨rfl,hw⟩
    obtain rfl:=hw.symm
    clear hw
    refine hK.out _ _ ⟨c1,c2⟩ (fun _=>?_)
    clear hK K
    refine Ord.tk (i:=12) (d:=170) (v:= .bool true) rfl rfl ?h12 (by assumption) ?_
    case h12=>intro w hSw;go_simp;try with_reducible rfl
    simp only[Ord.s1,Ord.s2,Ord.s3]
    refine Ord.tk (i:=13) (d:=171) (v:= .bool false) rfl rfl ?h13 (by assumption) ?_
    case h13=>intro w hSw;go_simp;try with_reducible rfl
    simp only[Ord.s1,Ord.s2,Ord.s3]
    refine wpAnyH_done (by as_aux_lemma=>kernel_rfl) ?_ _
    have HG2:=hid (Qan (Qan HG.out))
    have HO2:=hid HO.out.drew.drew
    clear HG HO c1 c2 hS HC
    generalize wr.drew.drew=W2 at *
    go_wp2
    go_roundw
    case rel=>exact⟨s,c,rfl,rfl,by omega,by omega,by omega,HI,HJ2,HO2,HG2⟩
    case measure=>simp[intOf];omega
   ·have HI2:Hid (c+1=a∨Lx cs (o.getD (c+1-1) 0) (o.getD (mid+m-(c+1)) 0)):=Or.inr (by
     rw[Nat.add_sub_cancel,show mid+m-(c+1)=pc by have:=HPE.out;omega]
     exact HM.out.left hcm.1 hcm.2.1 hcm.2.2.1 hcm.2.2.2 (by rw[hu,hv];exact Int.not_lt.1 hk))
    have hneg:0<=Qgg (key cs (u:Int)) (key cs (v:Int)):=Int.not_lt.1 (fun h=>hk ((Qde _ _).1 h))
    clear hu hv hk HI
    generalize Qgg (key cs (u:Int)) (key cs (v:Int))=z at *
    go_wp2_with fail
    rw[HH.out]
    go_wp2_with fail
    refine wp_region_held_drew (S:=fun W=>W.cell? ⟨gs,pc,none⟩=some (.int .i64 (u:Int))∧W.cell? ⟨gs,c,none⟩=some (.int .i64 (v:Int))) (by kernel_rfl) ⟨c1,c2⟩ (fun hS=>?_)
    refine Ord.tk (i:=0) (d:=158) (v:=?v0b) rfl rfl ?h0b (by assumption) ?_
    case h0b=>intro w hSw;go_simp;try with_reducible rfl
    simp only[Ord.s1,Ord.s2,Ord.s3]
    refine Ord.tk (i:=1) (d:=159) (v:=?v1b) rfl rfl ?h1b (by assumption) ?_
    case h1b=>intro w hSw;go_simp;try with_reducible rfl
    simp only[Ord.s1,Ord.s2,Ord.s3]
    refine Ord.tk (i:=2) (d:=160) (v:=?v2b) rfl rfl ?h2b (by assumption) ?_
    case h2b=>intro w hSw;go_simp;try with_reducible rfl
    simp only[Ord.s1,Ord.s2,Ord.s3]
    refine Ord.tk (i:=3) (d:=161) (v:=?v3b) rfl rfl ?h3b (by assumption) ?_
    case h3b=>intro w hSw;go_simp;try with_reducible rfl
    simp only[Ord.s1,Ord.s2,Ord.s3]
    refine Ord.tk (i:=4) (d:=162) (v:= .int .i64 (pc:Int)) rfl rfl ?h4b (by assumption) ?_
    case h4b=>intro w hSw;go_simp;exact HPC.out
    simp only[Ord.s1,Ord.s2,Ord.s3]
    refine Ord.tk (i:=5) (d:=163) (v:=?v5b) rfl rfl ?h5b (by assumption) ?_
    case h5b=>intro w hSw;go_simp;try with_reducible rfl
    simp only[Ord.s1,Ord.s2,Ord.s3]
    refine Ord.tk (i:=6) (d:=164) (v:= .int .i64 (u:Int)) rfl rfl ?h6b (by assumption) ?_
    case h6b=>intro w hSw;have e:=hSw.1;go_simp;try with_reducible rfl
    simp only[Ord.s1,Ord.s2,Ord.s3]
    refine Ord.tk (i:=7) (d:=165) (v:=?v7b) rfl rfl ?h7b (by assumption) ?_
    case h7b=>intro w hSw;go_simp;try with_reducible rfl
    simp only[Ord.s1,Ord.s2,Ord.s3]
    refine Ord.tk (i:=8) (d:=166) (v:=?v8b) rfl rfl ?h8b (by assumption) ?_
    case h8b=>intro w hSw;go_simp;try with_reducible rfl
    simp only[Ord.s1,Ord.s2,Ord.s3]
    refine Ord.tk (i:=9) (d:=167) (v:=?v9b) rfl rfl ?h9b (by assumption) ?_
    case h9b=>intro w hSw;go_simp;try with_reducible rfl
    simp only[Ord.s1,Ord.s2,Ord.s3]
    refine Ord.tk (i:=10) (d:=168) (v:= .int .i64 (v:Int)) rfl rfl ?h10b (by assumption) ?_
    case h10b=>intro w hSw;have e:=hSw.2;go_simp;try with_reducible rfl
    simp only[Ord.s1,Ord.s2,Ord.s3]
    refine wpAnyH_ready (rs:= [11]) (by as_aux_lemma=>kernel_rfl) (by simp) (AllReadyH.cons rfl (fun K hK=>?_) AllReadyH.nil)
    go_simp
    refine(HC.out _ rfl).mono ?_
    rintro _ w1 ⟨rfl,hw⟩
    obtain rfl:=hw.symm
    clear hw
    refine hK.out _ _ ⟨c1,c2⟩ (fun _=>?_)
    clear hK K
    refine Ord.tk (i:=12) (d:=170) (v:= .bool false) rfl rfl ?h12b (by assumption) ?_
    case h12b=>intro w hSw;go_simp;try with_reducible rfl
    simp only[Ord.s1,Ord.s2,Ord.s3]
    refine Ord.tk (i:=13) (d:=171) (v:= .bool true) rfl rfl ?h13b (by assumption) ?_
    case h13b=>intro w hSw;go_simp;try with_reducible rfl
    simp only[Ord.s1,Ord.s2,Ord.s3]
    refine wpAnyH_done (by as_aux_lemma=>kernel_rfl) ?_ _
    have HG2:=hid (Qan (Qan HG.out))
    have HO2:=hid HO.out.drew.drew
    clear HG HO c1 c2 hS HC
    generalize wr.drew.drew=W2 at *
    go_wp2
    go_roundw
    case rel=>exact⟨c+1,r,by go_num,rfl,by omega,by omega,by omega,HI2,HJ,HO2,HG2⟩
    case measure=>simp[intOf];omega
  ·have hz:¬(s:Int)<(r:Int):=by omega
   have HCUT:Hid (Xlj cs a m b mid s o):=by
    have e:s=r:=by omega
    have h1:=HI.out
    have h2:=HJ.out
    rw[<-e] at h2
    refine⟨?_,?_⟩
    ·rcases h1 with h1 | h1
     ·right;left;exact⟨hway,h1⟩
     ·right;right;exact h1
    ·rcases h2 with h2 | h2
     ·right;left;exact⟨hway,h2⟩
     ·right;right;exact h2
   obtain⟨E,hE⟩:∃E,E=mid+m-s:=⟨_,rfl⟩
   have HE:Hid ((N:Int)-(s:Int)=(E:Int)):=by show _=_;have:=HN'.out;omega
   have hse:s+E=mid+m:=by omega
   have hlims:a<=s∧s<=m∧m<=E∧E<=b∧s<=mid∧mid<=E:=by omega
   obtain⟨l1,l2,l3,l4,l5,l6⟩:=hlims
   clear hE HI HJ HN' HP'
   by_cases x1:s<m
   ·by_cases x2:s<mid
    ·by_cases x3:a<s
     ·by_cases x4:E<b
      ·have hz0:(s:Int)<(m:Int):=by have:=HE.out;omega
       have hz1:(m:Int)<(E:Int):=by have:=HE.out;omega
       have hz2:(a:Int)<(s:Int):=by have:=HE.out;omega
       have hz3:(s:Int)<(mid:Int):=by have:=HE.out;omega
       have hz4:(mid:Int)<(E:Int):=by have:=HE.out;omega
       have hz5:(E:Int)<(b:Int):=by have:=HE.out;omega
       have hz6:(m:Int)<(N:Int)-(s:Int):=by have:=HE.out;omega
       have hz7:(mid:Int)<(N:Int)-(s:Int):=by have:=HE.out;omega
       have hz8:(N:Int)-(s:Int)<(b:Int):=by have:=HE.out;omega
       have HC:=hid (Qcq s m E n cap B gs (.func (.func 174) #[] #[.pointer (some ⟨gb,0,none⟩)]) o wr (by omega) (by omega) (by omega) hn HL.out HO.out)
       have HT:=hid (Turned.rot (a:=a) (b:=b) (mid:=mid) (s:=s) (e:=E) (m:=m) (o:=o) (by omega) (by omega) (by omega) (by omega) (by rw[HL.out];omega))
       generalize Qmp m (E-s) o (m-s) (E-m)=Y at *
       go_wp2_with fail
       rw[HE.out]
       refine HC.out.mono ?_
       rintro _ w2 ⟨rfl,hown2,hg2⟩
       have HO2:=hid hown2
       have HG2:=hid (Qah HG.out hg2)
       clear hown2 hg2 HC HO HG
       have HYL:Hid ((Y:List Int).length=n):=by show _=_;rw[HT.out.perm.length_eq,HL.out]
       have HF:=hid (Turned.first HM.out HT.out)
       have HR1:=hid (HREC.out a s mid Y w2 (by omega) (by omega) (by omega) (by omega) HYL.out HO2.out (fun u hu=>HOO.out u (HT.out.perm.subset hu)) HF.out HG2.out)
       go_wp2_with fail
       refine HR1.out.mono ?_
       rintro _ w3 ⟨rfl,⟨Z,hZ,hown3⟩,hg3⟩
       have HZ1:=hid hZ
       have HO3:=hid hown3
       have HG3:=hid (Qah HG2.out hg3)
       clear hZ hown3 hg3 HR1 HO2 HG2
       have HZL:Hid ((Z:List Int).length=n):=by show _=_;rw[HZ1.out.perm.length_eq,HYL.out]
       have HS2:=hid (Turned.second HM.out HT.out HZ1.out.same)
       have HR2:=hid (HREC.out mid E b Z w3 (by omega) (by omega) (by omega) (by omega) HZL.out HO3.out (fun u hu=>HOO.out u (HT.out.perm.subset (HZ1.out.perm.subset hu))) HS2.out HG3.out)
       go_wp2_with fail
       refine HR2.out.mono ?_
       rintro _ w4 ⟨rfl,⟨Z2,hZ,hown4⟩,hg4⟩
       have HZ2:=hid hZ
       have HO4:=hid hown4
       have HG4:=hid (Qah HG3.out hg4)
       clear hZ hown4 hg4 HR2 HO3 HG3
       have HEND:=hid (merged (by rw[HL.out];omega) HM.out HT.out HCUT.out HZ1.out HZ2.out)
       clear HREC HF HS2 HZ1 HZ2 HT HCUT
       go_wp2
       go_end0
       exact⟨rfl,⟨Z2,HEND.out,HO4.out⟩,HG4.out⟩
      ·have hz0:(s:Int)<(m:Int):=by have:=HE.out;omega
       have hz1:(m:Int)<(E:Int):=by have:=HE.out;omega
       have hz2:(a:Int)<(s:Int):=by have:=HE.out;omega
       have hz3:(s:Int)<(mid:Int):=by have:=HE.out;omega
       have hz4:(mid:Int)<(E:Int):=by have:=HE.out;omega
       have hz5:¬(E:Int)<(b:Int):=by have:=HE.out;omega
       have hz6:(m:Int)<(N:Int)-(s:Int):=by have:=HE.out;omega
       have hz7:(mid:Int)<(N:Int)-(s:Int):=by have:=HE.out;omega
       have hz8:¬(N:Int)-(s:Int)<(b:Int):=by have:=HE.out;omega
       have HC:=hid (Qcq s m E n cap B gs (.func (.func 174) #[] #[.pointer (some ⟨gb,0,none⟩)]) o wr (by omega) (by omega) (by omega) hn HL.out HO.out)
       have HT:=hid (Turned.rot (a:=a) (b:=b) (mid:=mid) (s:=s) (e:=E) (m:=m) (o:=o) (by omega) (by omega) (by omega) (by omega) (by rw[HL.out];omega))
       generalize Qmp m (E-s) o (m-s) (E-m)=Y at *
       go_wp2_with fail
       rw[HE.out]
       refine HC.out.mono ?_
       rintro _ w2 ⟨rfl,hown2,hg2⟩
       have HO2:=hid hown2
       have HG2:=hid (Qah HG.out hg2)
       clear hown2 hg2 HC HO HG
       have HYL:Hid ((Y:List Int).length=n):=by show _=_;rw[HT.out.perm.length_eq,HL.out]
       have HF:=hid (Turned.first HM.out HT.out)
       have HR1:=hid (HREC.out a s mid Y w2 (by omega) (by omega) (by omega) (by omega) HYL.out HO2.out (fun u hu=>HOO.out u (HT.out.perm.subset hu)) HF.out HG2.out)
       go_wp2_with fail
       refine HR1.out.mono ?_
       rintro _ w3 ⟨rfl,⟨Z,hZ,hown3⟩,hg3⟩
       have HZ1:=hid hZ
       have HO3:=hid hown3
       have HG3:=hid (Qah HG2.out hg3)
       clear hZ hown3 hg3 HR1 HO2 HG2
       have HZL:Hid ((Z:List Int).length=n):=by show _=_;rw[HZ1.out.perm.length_eq,HYL.out]
       have HS2:=hid (Turned.second HM.out HT.out HZ1.out.same)
       have HZ2:=hid (Mrg.one HS2.out (by omega))
       have HEND:=hid (merged (by rw[HL.out];omega) HM.out HT.out HCUT.out HZ1.out HZ2.out)
       clear HREC HF HS2 HZ1 HZ2 HT HCUT
       go_wp2
       go_end0
       exact⟨rfl,⟨Z,HEND.out,HO3.out⟩,HG3.out⟩
     ·by_cases x4:E<b
      ·have hz0:(s:Int)<(m:Int):=by have:=HE.out;omega
       have hz1:(m:Int)<(E:Int):=by have:=HE.out;omega
       have hz2:¬(a:Int)<(s:Int):=by have:=HE.out;omega
       have hz3:(s:Int)<(mid:Int):=by have:=HE.out;omega
       have hz4:(mid:Int)<(E:Int):=by have:=HE.out;omega
       have hz5:(E:Int)<(b:Int):=by have:=HE.out;omega
       have hz6:(m:Int)<(N:Int)-(s:Int):=by have:=HE.out;omega
       have hz7:(mid:Int)<(N:Int)-(s:Int):=by have:=HE.out;omega
       have hz8:(N:Int)-(s:Int)<(b:Int):=by have:=HE.out;omega
       have HC:=hid (Qcq s m E n cap B gs (.func (.func 174) #[] #[.pointer (some ⟨gb,0,none⟩)]) o wr (by omega) (by omega) (by omega) hn HL.out HO.out)
       have HT:=hid (Turned.rot (a:=a) (b:=b) (mid:=mid) (s:=s) (e:=E) (m:=m) (o:=o) (by omega) (by omega) (by omega) (by omega) (by rw[HL.out];omega))
       generalize Qmp m (E-s) o (m-s) (E-m)=Y at *
       go_wp2_with fail
       rw[HE.out]
       refine HC.out.mono ?_
       rintro _ w2 ⟨rfl,hown2,hg2⟩
       have HO2:=hid hown2
       have HG2:=hid (Qah HG.out hg2)
       clear hown2 hg2 HC HO HG
       have HYL:Hid ((Y:List Int).length=n):=by show _=_;rw[HT.out.perm.length_eq,HL.out]
       have HF:=hid (Turned.first HM.out HT.out)
       have HZ1:=hid (Mrg.one HF.out (by omega))
       have HZL:Hid ((Y:List Int).length=n):=by show _=_;rw[HZ1.out.perm.length_eq,HYL.out]
       have HS2:=hid (Turned.second HM.out HT.out HZ1.out.same)
       have HR2:=hid (HREC.out mid E b Y w2 (by omega) (by omega) (by omega) (by omega) HZL.out HO2.out (fun u hu=>HOO.out u (HT.out.perm.subset (HZ1.out.perm.subset hu))) HS2.out HG2.out)
       go_wp2_with fail
       refine HR2.out.mono ?_
       rintro _ w4 ⟨rfl,⟨Z2,hZ,hown4⟩,hg4⟩
       have HZ2:=hid hZ
       have HO4:=hid hown4
       have HG4:=hid (Qah HG2.out hg4)
       clear hZ hown4 hg4 HR2 HO2 HG2
       have HEND:=hid (merged (by rw[HL.out];omega) HM.out HT.out HCUT.out HZ1.out HZ2.out)
       clear HREC HF HS2 HZ1 HZ2 HT HCUT
       go_wp2
       go_end0
       exact⟨rfl,⟨Z2,HEND.out,HO4.out⟩,HG4.out⟩
      ·have hz0:(s:Int)<(m:Int):=by have:=HE.out;omega
       have hz1:(m:Int)<(E:Int):=by have:=HE.out;omega
       have hz2:¬(a:Int)<(s:Int):=by have:=HE.out;omega
       have hz3:(s:Int)<(mid:Int):=by have:=HE.out;omega
       have hz4:(mid:Int)<(E:Int):=by have:=HE.out;omega
       have hz5:¬(E:Int)<(b:Int):=by have:=HE.out;omega
       have hz6:(m:Int)<(N:Int)-(s:Int):=by have:=HE.out;omega
       have hz7:(mid:Int)<(N:Int)-(s:Int):=by have:=HE.out;omega
       have hz8:¬(N:Int)-(s:Int)<(b:Int):=by have:=HE.out;omega
       have HC:=hid (Qcq s m E n cap B gs (.func (.func 174) #[] #[.pointer (some ⟨gb,0,none⟩)]) o wr (by omega) (by omega) (by omega) hn HL.out HO.out)
       have HT:=hid (Turned.rot (a:=a) (b:=b) (mid:=mid) (s:=s) (e:=E) (m:=m) (o:=o) (by omega) (by omega) (by omega) (by omega) (by rw[HL.out];omega))
       generalize Qmp m (E-s) o (m-s) (E-m)=Y at *
       go_wp2_with fail
       rw[HE.out]
       refine HC.out.mono ?_
       rintro _ w2 ⟨rfl,hown2,hg2⟩
       have HO2:=hid hown2
       have HG2:=hid (Qah HG.out hg2)
       clear hown2 hg2 HC HO HG
       have HYL:Hid ((Y:List Int).length=n):=by show _=_;rw[HT.out.perm.length_eq,HL.out]
       have HF:=hid (Turned.first HM.out HT.out)
       have HZ1:=hid (Mrg.one HF.out (by omega))
       have HZL:Hid ((Y:List Int).length=n):=by show _=_;rw[HZ1.out.perm.length_eq,HYL.out]
       have HS2:=hid (Turned.second HM.out HT.out HZ1.out.same)
       have HZ2:=hid (Mrg.one HS2.out (by omega))
       have HEND:=hid (merged (by rw[HL.out];omega) HM.out HT.out HCUT.out HZ1.out HZ2.out)
       clear HREC HF HS2 HZ1 HZ2 HT HCUT
       go_wp2
       go_end0
       exact⟨rfl,⟨Y,HEND.out,HO2.out⟩,HG2.out⟩
    ·have hz0:(s:Int)<(m:Int):=by have:=HE.out;omega
     have hz1:¬(m:Int)<(E:Int):=by have:=HE.out;omega
     have hz2:(a:Int)<(s:Int):=by have:=HE.out;omega
     have hz3:¬(s:Int)<(mid:Int):=by have:=HE.out;omega
     have hz4:(mid:Int)<(E:Int):=by have:=HE.out;omega
     have hz5:(E:Int)<(b:Int):=by have:=HE.out;omega
     have hz6:¬(m:Int)<(N:Int)-(s:Int):=by have:=HE.out;omega
     have hz7:(mid:Int)<(N:Int)-(s:Int):=by have:=HE.out;omega
     have hz8:(N:Int)-(s:Int)<(b:Int):=by have:=HE.out;omega
     have HT:=hid (Turned.still (a:=a) (b:=b) (mid:=mid) (s:=s) (e:=E) (m:=m) (o:=o) (by omega) (by omega) (by omega) (by omega) (by omega) (by omega) (by omega) (by omega))
     have HYL:Hid ((o:List Int).length=n):=by show _=_;rw[HT.out.perm.length_eq,HL.out]
     have HF:=hid (Turned.first HM.out HT.out)
     have HZ1:=hid (Mrg.one HF.out (by omega))
     have HZL:Hid ((o:List Int).length=n):=by show _=_;rw[HZ1.out.perm.length_eq,HYL.out]
     have HS2:=hid (Turned.second HM.out HT.out HZ1.out.same)
     have HR2:=hid (HREC.out mid E b o wr (by omega) (by omega) (by omega) (by omega) HZL.out HO.out (fun u hu=>HOO.out u (HT.out.perm.subset (HZ1.out.perm.subset hu))) HS2.out HG.out)
     go_wp2_with fail
     rw[HE.out]
     refine HR2.out.mono ?_
     rintro _ w4 ⟨rfl,⟨Z2,hZ,hown4⟩,hg4⟩
     have HZ2:=hid hZ
     have HO4:=hid hown4
     have HG4:=hid (Qah HG.out hg4)
     clear hZ hown4 hg4 HR2 HO HG
     have HEND:=hid (merged (by rw[HL.out];omega) HM.out HT.out HCUT.out HZ1.out HZ2.out)
     clear HREC HF HS2 HZ1 HZ2 HT HCUT
     go_wp2
     go_end0
     exact⟨rfl,⟨Z2,HEND.out,HO4.out⟩,HG4.out⟩
   ·by_cases x2:s<mid
    ·have hz0:¬(s:Int)<(m:Int):=by have:=HE.out;omega
     have hz1:(a:Int)<(s:Int):=by have:=HE.out;omega
     have hz2:(s:Int)<(mid:Int):=by have:=HE.out;omega
     have hz3:¬(mid:Int)<(E:Int):=by have:=HE.out;omega
     have hz4:¬(mid:Int)<(N:Int)-(s:Int):=by have:=HE.out;omega
     have HT:=hid (Turned.still (a:=a) (b:=b) (mid:=mid) (s:=s) (e:=E) (m:=m) (o:=o) (by omega) (by omega) (by omega) (by omega) (by omega) (by omega) (by omega) (by omega))
     have HYL:Hid ((o:List Int).length=n):=by show _=_;rw[HT.out.perm.length_eq,HL.out]
     have HF:=hid (Turned.first HM.out HT.out)
     have HR1:=hid (HREC.out a s mid o wr (by omega) (by omega) (by omega) (by omega) HYL.out HO.out (fun u hu=>HOO.out u (HT.out.perm.subset hu)) HF.out HG.out)
     go_wp2_with fail
     rw[HE.out]
     refine HR1.out.mono ?_
     rintro _ w3 ⟨rfl,⟨Z,hZ,hown3⟩,hg3⟩
     have HZ1:=hid hZ
     have HO3:=hid hown3
     have HG3:=hid (Qah HG.out hg3)
     clear hZ hown3 hg3 HR1 HO HG
     have HZL:Hid ((Z:List Int).length=n):=by show _=_;rw[HZ1.out.perm.length_eq,HYL.out]
     have HS2:=hid (Turned.second HM.out HT.out HZ1.out.same)
     have HZ2:=hid (Mrg.one HS2.out (by omega))
     have HEND:=hid (merged (by rw[HL.out];omega) HM.out HT.out HCUT.out HZ1.out HZ2.out)
     clear HREC HF HS2 HZ1 HZ2 HT HCUT
     go_wp2
     go_end0
     exact⟨rfl,⟨Z,HEND.out,HO3.out⟩,HG3.out⟩
    ·have hz0:¬(s:Int)<(m:Int):=by have:=HE.out;omega
     have hz1:(a:Int)<(s:Int):=by have:=HE.out;omega
     have hz2:¬(s:Int)<(mid:Int):=by have:=HE.out;omega
     have hz3:¬(mid:Int)<(E:Int):=by have:=HE.out;omega
     have hz4:¬(mid:Int)<(N:Int)-(s:Int):=by have:=HE.out;omega
     have HT:=hid (Turned.still (a:=a) (b:=b) (mid:=mid) (s:=s) (e:=E) (m:=m) (o:=o) (by omega) (by omega) (by omega) (by omega) (by omega) (by omega) (by omega) (by omega))
     have HYL:Hid ((o:List Int).length=n):=by show _=_;rw[HT.out.perm.length_eq,HL.out]
     have HF:=hid (Turned.first HM.out HT.out)
     have HZ1:=hid (Mrg.one HF.out (by omega))
     have HZL:Hid ((o:List Int).length=n):=by show _=_;rw[HZ1.out.perm.length_eq,HYL.out]
     have HS2:=hid (Turned.second HM.out HT.out HZ1.out.same)
     have HZ2:=hid (Mrg.one HS2.out (by omega))
     have HEND:=hid (merged (by rw[HL.out];omega) HM.out HT.out HCUT.out HZ1.out HZ2.out)
     clear HREC HF HS2 HZ1 HZ2 HT HCUT
     go_wp2
     go_end0
     exact⟨rfl,⟨o,HEND.out,HO.out⟩,HG.out⟩
theorem Qv8(n cap B gb gs gc oc capc:Nat)(cs:List Int)(hn:n<=100000):∀(k a m b:Nat) (o:List Int) (w:World),b-a<=k->Cts w gb gs gc oc capc cs->a<m->m<b->b<=n->o.length=n->w.ownsRow B 3 1 (.slice (some ⟨gs,0,none⟩) n cap) n (o.map (Value.int .i64))->(∀u∈o,0<=u∧u<(cs.length:Int))->Mrg cs a m b o ->
 Calls Tryz.prog 183 #[(.slice (some ⟨gs,0,none⟩) n cap),.int .i64 (a:Int),.int .i64 (m:Int),.int .i64 (b:Int),.func (.func 174) #[] #[.pointer (some ⟨gb,0,none⟩)]] w fun e w'=>e= .returned (.tuple #[])∧(∃X,Sorted cs a b o X∧w'.ownsRow B 3 1 (.slice (some ⟨gs,0,none⟩) n cap) n (X.map (Value.int .i64)))∧w.grownBy w' (some gs)
 | 0,a,m,b,_,_,hk,_,h1,h2,_,_,_,_,_=>by omega
 | k+1,a,m,b,o,w,hk,hcts,h1,h2,hb,hl,hown,ho,hm=>by
   by_cases c1:m=a+1
   ·exact Xa5 a m b n cap B gb gs gc oc capc cs o w hcts c1 h2 hb hn hl hown ho hm
   ·by_cases c2:b=m+1
    ·exact Qyx a m b n cap B gb gs gc oc capc cs o w hcts (by omega) c2 hb hn hl hown ho hm
    ·have hrec:∀(a' m' b':Nat) (o':List Int) (W:World),a'<m'->m'<b'->b'<=n->b'-a'<b-a->o'.length=n->W.ownsRow B 3 1 (.slice (some ⟨gs,0,none⟩) n cap) n (o'.map (Value.int .i64))->(∀u∈o',0<=u∧u<(cs.length:Int))->Mrg cs a' m' b' o'->w.grownBy W (some gs) ->
      Calls Tryz.prog 183 #[(.slice (some ⟨gs,0,none⟩) n cap),.int .i64 (a':Int),.int .i64 (m':Int),.int .i64 (b':Int),.func (.func 174) #[] #[.pointer (some ⟨gb,0,none⟩)]] W fun e w'=>e= .returned (.tuple #[])∧(∃X,Sorted cs a' b' o' X∧w'.ownsRow B 3 1 (.slice (some ⟨gs,0,none⟩) n cap) n (X.map (Value.int .i64)))∧W.grownBy w' (some gs):=
      fun a' m' b' o' W e1 e2 e3 e4 e5 e6 e7 e8 e9=>Qv8 n cap B gb gs gc oc capc cs hn k a' m' b' o' W (by omega) (hcts.kept e9) e1 e2 e3 e5 e6 e7 e8
     by_cases c3:(a+b)/2<m
     ·exact Qyi a m b ((a+b)/2) n cap B gb gs gc oc capc cs o w hcts (by omega) (by omega) hb hn hl rfl c3 hown ho hm hrec
     ·exact Qx9 a m b ((a+b)/2) n cap B gb gs gc oc capc cs o w hcts (by omega) (by omega) hb hn hl rfl (by omega) hown ho hm hrec
structure Stb (cs o:List Int) (C:Nat->Prop) (n cap B gs:Nat) (w wr:World) (X:List Int):Prop where
 gd:Gd cs C n X
 perm:X.Perm o
 len:X.length=n
 own:wr.ownsRow B 3 1 (.slice (some ⟨gs,0,none⟩) n cap) n (X.map (Value.int .i64))
 grown:w.grownBy wr (some gs)
theorem Stb.iff{cs o:List Int}{C D:Nat->Prop}{n cap B gs:Nat}{w wr:World}{X:List Int}(h:Stb cs o C n cap B gs w wr X)(e:∀x,x<n->(C x↔D x)):Stb cs o D n cap B gs w wr X:=⟨h.gd.iff e,h.perm,h.len,h.own,h.grown⟩
theorem Xf5(n cap B gb gs gc oc capc:Nat)(cs o:List Int)(w:World)(hcts:Cts w gb gs gc oc capc cs)(hn:n<=100000)(hl:o.length=n)(hown:w.ownsRow B 3 1 (.slice (some ⟨gs,0,none⟩) n cap) n (o.map (Value.int .i64)))(hcap:n<=cap)(ho:∀u∈o,0<=u∧u<(cs.length:Int))(hinc:∀p q,p<q->q<n->o.getD p 0<o.getD q 0):
 Calls Tryz.prog 178 #[(.slice (some ⟨gs,0,none⟩) n cap),.int .i64 (n:Int),.func (.func 174) #[] #[.pointer (some ⟨gb,0,none⟩)]] w fun e w'=>e= .returned (.tuple #[])∧(∃X,Sorted cs 0 n o X∧w'.ownsRow B 3 1 (.slice (some ⟨gs,0,none⟩) n cap) n (X.map (Value.int .i64)))∧w.grownBy w' (some gs):=by
 have HS0:Hid (Stb cs o (C20 0) n cap B gs w w o):=⟨Gd.start hinc _ (fun x=>Or.inl (Nat.zero_le _)),List.Perm.refl _,hl,hown,World.grownBy.refl _ _⟩
 have HI:Hid (∀(a b:Nat) (X:List Int) (W:World) (C:Nat->Prop),Stb cs o C n cap B gs w W X->a<=b->b<=n->(a=0∨C a)->(b=n∨C b)->(∀x,a<x->x<b->C x) ->
  Calls Tryz.prog 182 #[(.slice (some ⟨gs,0,none⟩) n cap),.int .i64 (a:Int),.int .i64 (b:Int),.func (.func 174) #[] #[.pointer (some ⟨gb,0,none⟩)]] W fun e w'=>e= .returned (.tuple #[])∧∃Y,Stb cs o (fun x=>C x∧¬(a<x∧x<b)) n cap B gs w w' Y):=by
  intro a b X W C h h1 h2 h3 h4 h5
  refine(Xfg a b n cap B gb gs gc oc capc cs X W (hcts.kept h.grown) h1 h2 hn h.len h.own hcap (fun u hu=>ho u (h.perm.subset hu)) (fun p q e1 e2 e3=>(h.gd p q e2 (by omega)).2 q e2 (Nat.le_refl _) (h5 q (by omega) e3))).mono ?_
  rintro e w' ⟨he,⟨Y,hY,hw⟩,hg⟩
  exact⟨he,Y,h.gd.join hY h.len h2 h3 h4,hY.perm.trans h.perm,by rw[hY.perm.length_eq,h.len],hw,Qah h.grown hg⟩
 have HM:Hid (∀(a m b:Nat) (X:List Int) (W:World) (C:Nat->Prop),Stb cs o C n cap B gs w W X->a<m->m<b->b<=n->(a=0∨C a)->(b=n∨C b)->C m->(∀x,a<x->x<b->C x->x=m) ->
  Calls Tryz.prog 183 #[(.slice (some ⟨gs,0,none⟩) n cap),.int .i64 (a:Int),.int .i64 (m:Int),.int .i64 (b:Int),.func (.func 174) #[] #[.pointer (some ⟨gb,0,none⟩)]] W fun e w'=>e= .returned (.tuple #[])∧∃Y,Stb cs o (fun x=>C x∧¬(a<x∧x<b)) n cap B gs w w' Y):=by
  intro a m b X W C h h1 h2 h3 h4 h5 h6 h7
  refine(Qv8 n cap B gb gs gc oc capc cs hn (b-a) a m b X W (Nat.le_refl _) (hcts.kept h.grown) h1 h2 h3 h.len h.own (fun u hu=>ho u (h.perm.subset hu)) (h.gd.mrg h3 h6 h7 h1 (by omega))).mono ?_
  rintro e w' ⟨he,⟨Y,hY,hw⟩,hg⟩
  exact⟨he,Y,h.gd.join hY h.len h3 h4 h5,hY.perm.trans h.perm,by rw[hY.perm.length_eq,h.len],hw,Qah h.grown hg⟩
 have HL:=hid hl
 clear hcts hl hown hcap ho hinc
 go_enter Tryz.func178,Tryz.ntmps178
 go_wp2
 go_loopw [7,8] (fun x y wr=>∃(a b:Nat),x= .int .i64 (a:Int)∧y= .int .i64 (b:Int)∧a<=n∧b<=n+20∧Hid (b=a+20)∧Hid (20 ∣ a)∧Hid (∃X,Stb cs o (C20 a) n cap B gs w wr X)) (fun x _ _=>n-(intOf x).toNat)
 case atStart=>exact⟨0,20,rfl,rfl,by omega,by omega,rfl,⟨0,rfl⟩,⟨o,HS0.out⟩⟩
 case round=>
  obtain⟨a,b,rfl,rfl,ha,hb,HE,HD,HX⟩:=hrel
  by_cases hbn:b<=n
  ·have hbi:(b:Int)<=(n:Int):=by omega
   obtain⟨X,hX⟩:=HX.out
   have HC:=hid (HI.out a b X wr (C20 a) hX (by rw[HE.out];omega) hbn (Or.inr (Or.inl (Nat.le_refl _))) (Or.inr (Or.inl (by rw[HE.out];omega))) (fun x e1 e2=>Or.inl (by omega)))
   have hm:n-b<n-a:=by have:=HE.out;omega
   clear hX HX
   go_wp2_with fail
   refine HC.out.mono ?_
   rintro _ w1 ⟨rfl,Y,hY⟩
   have HY:Hid (∃X,Stb cs o (C20 b) n cap B gs w w1 X):=⟨Y,hY.iff (fun x _=>by rw[HE.out];exact Xd5 HD.out)⟩
   have HD2:Hid (20 ∣ b):=by show 20 ∣ b;rw[HE.out];exact(Nat.dvd_add_iff_right HD.out).1 (Nat.dvd_refl _)
   clear hY HC HD HE
   go_wp2
   exact⟨⟨b,b+20,rfl,by go_num,by omega,by omega,rfl,HD2.out,HY.out⟩,by simp[intOf];omega⟩
  ·have hbi:¬(b:Int)<=(n:Int):=by omega
   obtain⟨X,hX⟩:=HX.out
   have HC:=hid (HI.out a n X wr (C20 a) hX ha (Nat.le_refl _) (Or.inr (Or.inl (Nat.le_refl _))) (Or.inl rfl) (fun x e1 e2=>Or.inl (by omega)))
   clear hX HX
   have HN20:Hid (n<a+20):=by show n<a+20;have:=HE.out;omega
   clear HE
   go_wp2_with fail
   refine HC.out.mono ?_
   rintro _ w1 ⟨rfl,Y,hY⟩
   have HY:Hid (∃X,Stb cs o (fun x=>20 ∣ x) n cap B gs w w1 X):=⟨Y,hY.iff (fun x hx=>Xjv HD.out HN20.out hx)⟩
   clear hY HC HD HN20 hbi hbn
   go_wp2
   go_loopw [6,7,8,9] (fun x _ _ _ wr=>∃(s:Nat),x= .int .i64 (s:Int)∧20<=s∧s<=2*n+20∧Hid (∃X,Stb cs o (fun x=>s ∣ x) n cap B gs w wr X)) (fun x _ _ _ _=>n-(intOf x).toNat)
   case atStart=>exact⟨20,rfl,by omega,by omega,HY.out⟩
   case round=>
    obtain⟨s,rfl,hs1,hs2,HX⟩:=hrel
    by_cases hsn:s<n
    ·have hsi:(s:Int)<(n:Int):=by omega
     have HX0:Hid (∃X,Stb cs o (CB s 0) n cap B gs w wr X):=by
      obtain⟨X,hX⟩:=HX.out
      exact⟨X,hX.iff (fun x _=>Xel s x)⟩
     clear HX HY
     go_wp2
     go_loopw [7,8] (fun x y wr=>∃(a b:Nat),x= .int .i64 (a:Int)∧y= .int .i64 (b:Int)∧a<=n∧b<=n+2*s∧Hid (b=a+2*s)∧Hid (2*s ∣ a)∧Hid (∃X,Stb cs o (CB s a) n cap B gs w wr X)) (fun x _ _=>n-(intOf x).toNat)
     case atStart=>exact⟨0,2*s,rfl,by go_num,by omega,by omega,by show 2*s=0+2*s;omega,⟨0,rfl⟩,HX0.out⟩
     case round=>
      obtain⟨a,b,rfl,rfl,ha,hb,HE,HD,HX⟩:=hrel
      have hs0:0<s:=by omega
      by_cases hbn:b<=n
      ·have hbi:(b:Int)<=(n:Int):=by omega
       have HC:Hid (Calls Tryz.prog 183 #[(.slice (some ⟨gs,0,none⟩) n cap),.int .i64 (a:Int),.int .i64 ((a:Int)+(s:Int)),.int .i64 (b:Int),.func (.func 174) #[] #[.pointer (some ⟨gb,0,none⟩)]] wr fun e w'=>e= .returned (.tuple #[])∧∃X,Stb cs o (CB s b) n cap B gs w w' X):=by
        obtain⟨X,hX⟩:=HX.out
        have e:=HE.out
        have hd:=HD.out
        have h:=HM.out a (a+s) b X wr (CB s a) hX (by omega) (by omega) hbn (Or.inr (Xk9 hd)) (Or.inr (by rw[e];exact Xjl hd)) (Xc6 hd) (fun x e1 e2 hc=>Qz6 hs0 hd e1 (by omega) hc)
        rw[show((a+s:Nat):Int)=(a:Int)+(s:Int) from by omega] at h
        refine h.mono ?_
        rintro q w' ⟨hq,Y,hY⟩
        exact⟨hq,Y,hY.iff (fun x _=>by rw[e];exact Xij hs0 hd)⟩
       have hm:n-b<n-a:=by have:=HE.out;omega
       have HD2:Hid (2*s ∣ b):=by show 2*s ∣ b;rw[HE.out];exact(Nat.dvd_add_iff_right HD.out).1 (Nat.dvd_refl _)
       have has:(a:Int)+(s:Int)<=(b:Int):=by have:=HE.out;omega
       clear HX HE HD
       go_wp2_with fail
       refine HC.out.mono ?_
       rintro _ w1 ⟨rfl,hY⟩
       have HY:=hid hY
       clear hY HC
       go_wp2
       exact⟨⟨b,b+2*s,rfl,by go_num,by omega,by omega,rfl,HD2.out,HY.out⟩,by simp[intOf];omega⟩
      ·have hbi:¬(b:Int)<=(n:Int):=by omega
       by_cases hmn:a+s<n
       ·have hmi:(a:Int)+(s:Int)<(n:Int):=by omega
        have HC:Hid (Calls Tryz.prog 183 #[(.slice (some ⟨gs,0,none⟩) n cap),.int .i64 (a:Int),.int .i64 ((a:Int)+(s:Int)),.int .i64 (n:Int),.func (.func 174) #[] #[.pointer (some ⟨gb,0,none⟩)]] wr fun e w'=>e= .returned (.tuple #[])∧∃X,Stb cs o (fun x=>2*s ∣ x) n cap B gs w w' X):=by
         obtain⟨X,hX⟩:=HX.out
         have e:=HE.out
         have hd:=HD.out
         have h:=HM.out a (a+s) n X wr (CB s a) hX (by omega) (by omega) (Nat.le_refl _) (Or.inr (Xk9 hd)) (Or.inl rfl) (Xc6 hd) (fun x e1 e2 hc=>Qz6 hs0 hd e1 (by omega) hc)
         rw[show((a+s:Nat):Int)=(a:Int)+(s:Int) from by omega] at h
         refine h.mono ?_
         rintro q w' ⟨hq,Y,hY⟩
         exact⟨hq,Y,hY.iff (fun x hx=>Xgr hs0 hd (by omega) hx)⟩
        clear HX HE HD
        go_wp2_with fail
        refine HC.out.mono ?_
        rintro _ w1 ⟨rfl,hY⟩
        have HY:Hid (∃X,Stb cs o (fun x=>s*2 ∣ x) n cap B gs w w1 X):=by rw[Nat.mul_comm s 2];exact hY
        clear hY HC
        go_wp2
        exact⟨⟨s*2,by go_num,by omega,by omega,HY.out⟩,by simp[intOf];omega⟩
       ·have hmi:¬(a:Int)+(s:Int)<(n:Int):=by omega
        have HY:Hid (∃X,Stb cs o (fun x=>s*2 ∣ x) n cap B gs w wr X):=by
         obtain⟨X,hX⟩:=HX.out
         exact⟨X,hX.iff (fun x hx=>by rw[Nat.mul_comm s 2];exact Xir hs0 HD.out (by omega) hx)⟩
        clear HX HE HD
        go_wp2
        exact⟨⟨s*2,by go_num,by omega,by omega,HY.out⟩,by simp[intOf];omega⟩
    ·have hsi:¬(s:Int)<(n:Int):=by omega
     have HEND:Hid ((∃X,Sorted cs 0 n o X∧wr.ownsRow B 3 1 (.slice (some ⟨gs,0,none⟩) n cap) n (X.map (Value.int .i64)))∧w.grownBy wr (some gs)):=by
      obtain⟨X,hX⟩:=HX.out
      exact⟨⟨X,hX.gd.end hX.perm HL.out (fun x h0 hx=>Xh9 (by omega) h0 hx),hX.own⟩,hX.grown⟩
     clear HX HY HI HM
     go_wp2
     go_end0
     exact⟨rfl,HEND.out⟩
theorem Tryz.info4:(Tryz.prog.info? 4).map (fun i=>(i.zero,i.size,i.bytes))=some (some (.bool false),1,1):=by kernel_rfl
structure Rb (w:World) (a:Option Addr) (cap:Nat) (bs:List Bool):Prop where
 room:bs.length<=cap
 most:cap<=maxLen
 cells:0<bs.length->∃b off,a=some ⟨b,off,none⟩∧b<w.heap.size∧∀j,j<bs.length->w.cell? ⟨b,off+j,none⟩=some (.bool (bs.getD j false))
theorem Rb.own{w:World}{base:Nat}{e:TypeId}{v:Value}{bs:List Bool}(h:w.ownsRow base e 1 v bs.length (bs.map Value.bool)):
 ∃a cap,v= .slice a bs.length cap∧Rb w a cap bs:=by
 obtain⟨hl,hn | ⟨g,cap,cur,rfl,hb,hg,hnc,hcm,hcur,htk⟩⟩:=id h
 ·obtain⟨rfl,h0⟩:=hn
  refine⟨none,0,by rw[h0],by omega,by unfold maxLen;omega,fun h1=>by omega⟩
 ·refine⟨some ⟨g,0,none⟩,cap,rfl,hnc,hcm,fun h0=>⟨g,0,rfl,?_,fun j hj=>?_⟩⟩
  ·exact(Array.getElem?_eq_some_iff.1 hg).1
  ·rw[Nat.zero_add,h.cellAt j (by omega),List.getElem?_map]
   simp[List.getD,List.getElem?_eq_getElem hj]
theorem Qg3{w:World}{B e n:Nat}{v:Value}{xs:List Value}(h:w.ownsRow B e 1 v n xs)(hn:0<n):∃g cap,v= .slice (some ⟨g,0,none⟩) n cap∧B<=g∧n<=cap:=by
 rcases h.2 with ⟨_,h0⟩ | ⟨g,cap,cur,hv,hb,hg,hnc,_⟩
 ·omega
 ·exact⟨g,cap,hv,hb,hnc⟩
theorem Xd1(k:Nat)(hk:k<8):2^(7-k)<=128:=by
 have:=Nat.pow_le_pow_right (show 0<2 by decide) (show 7-k<=7 by omega)
 simpa using this
theorem Qkv{w:World}{B B' e n:Nat}{v:Value}{xs:List Value}(h:w.ownsRow B e 1 v n xs)(hB:B'<=B):w.ownsRow B' e 1 v n xs:=by
 refine⟨h.1,?_⟩
 rcases h.2 with h | ⟨g,cp,cur,h1,h2,h3⟩
 ·exact Or.inl h
 ·exact Or.inr ⟨g,cp,cur,h1,Nat.le_trans hB h2,h3⟩
def Qox:Nat:=1000
theorem Qtf(n cap B gb gs gc oc capc:Nat)(cs o:List Int)(w:World)(hcts:Cts w gb gs gc oc capc cs)(hn:n<=Qox)(hl:o.length=n)
 (hown:w.ownsRow B 3 1 (.slice (some ⟨gs,0,none⟩) n cap) n (o.map (Value.int .i64))) (hcap:n<=cap) (ho:∀u∈o,0<=u∧u<(cs.length:Int)) (hinc:∀p q,p<q->q<n->o.getD p 0<o.getD q 0) :
 Calls Tryz.prog 178 #[.slice (some ⟨gs,0,none⟩) n cap,.int .i64 (n:Int),.func (.func 174) #[] #[.pointer (some ⟨gb,0,none⟩)]] w fun e w'=>e= .returned (.tuple #[])∧(∃X,Sorted cs 0 n o X∧w'.ownsRow B 3 1 (.slice (some ⟨gs,0,none⟩) n cap) n (X.map (Value.int .i64)))∧w.grownBy w' (some gs):=
 Xf5 n cap B gb gs gc oc capc cs o w hcts (by unfold Qox at hn;omega) hl hown hcap ho hinc
theorem Qwz(n cap B gb gs gc oc capc:Nat)(cs o:List Int)(w:World)(hcts:Cts w gb gs gc oc capc cs)(hn:n<=Qox)(hl:o.length=n)
 (hown:w.ownsRow B 3 1 (.slice (some ⟨gs,0,none⟩) n cap) n (o.map (Value.int .i64))) (hcap:n<=cap) (ho:∀u∈o,0<=u∧u<(cs.length:Int)) (hinc:∀p q,p<q->q<n->o.getD p 0<o.getD q 0) :
 Calls Tryz.prog 173 #[.slice (some ⟨gs,0,none⟩) n cap,.func (.func 174) #[] #[.pointer (some ⟨gb,0,none⟩)]] w fun e w'=>e= .returned (.tuple #[])∧(∃X,Sorted cs 0 n o X∧w'.ownsRow B 3 1 (.slice (some ⟨gs,0,none⟩) n cap) n (X.map (Value.int .i64)))∧w.grownBy w' (some gs):=by
 have HS:=hid (Qtf n cap B gb gs gc oc capc cs o w hcts hn hl hown hcap ho hinc)
 clear hown hcts ho hinc hl hn
 go_enter Tryz.func173,Tryz.ntmps173
 go_wp2_with fail
 refine HS.out.mono ?_
 rintro _ w1 ⟨rfl,hX,hg⟩
 have HX:=hid hX
 have HG:=hid hg
 clear hX hg
 go_wp2
 go_end0
 exact⟨rfl,HX.out,HG.out⟩
theorem Xjq(a:Option Addr)(cp:Nat)(fv:Value)(w:World):Calls Tryz.prog 182 #[.slice a 0 cp,.int .i64 0,.int .i64 0,fv] w fun e w'=>e= .returned (.tuple #[])∧w'=w:=by
 go_enter Tryz.func182,Tryz.ntmps182
 go_wp2
 refine wp_loop_rounds 1 ?_
 rw[rounds_succ]
 go_wp2
 go_end0
 exact⟨rfl,rfl⟩
theorem Qx1(a:Option Addr)(cp:Nat)(fv:Value)(w:World):Calls Tryz.prog 178 #[.slice a 0 cp,.int .i64 0,fv] w fun e w'=>e= .returned (.tuple #[])∧w'=w:=by
 have HI:=hid (Xjq a cp fv w)
 go_enter Tryz.func178,Tryz.ntmps178
 go_wp2
 refine wp_loop_rounds 1 ?_
 rw[rounds_succ]
 go_wp2_with fail
 refine HI.out.mono ?_
 rintro _ w1 ⟨rfl,hw⟩
 obtain rfl:=hw.symm
 clear hw
 go_wp2
 refine wp_loop_rounds 1 ?_
 rw[rounds_succ]
 go_wp2
 go_end0
 exact⟨rfl,rfl⟩
theorem Qy8(a:Option Addr)(cp:Nat)(fv:Value)(w:World):Calls Tryz.prog 173 #[.slice a 0 cp,fv] w fun e w'=>e= .returned (.tuple #[])∧w'=w:=by
 have HI:=hid (Qx1 a cp fv w)
 go_enter Tryz.func173,Tryz.ntmps173
 go_wp2_with fail
 refine HI.out.mono ?_
 rintro _ w1 ⟨rfl,hw⟩
 obtain rfl:=hw.symm
 clear hw
 go_wp2
 go_end0
 exact⟨rfl,rfl⟩
theorem Tryz.info3':(Tryz.prog.info? 3).map (fun i=>(i.zero,i.size,i.bytes))=some (some (.int .i64 0),1,8):=by kernel_rfl
theorem Qqz(a:Option Addr)(cap:Nat)(cs:List Int)(w:World)(hr:Ri w .i64 a cap cs)(hn:cs.length<=100000)(hm:(nz cs cs.length).length<=Qox):
 Calls Tryz.prog 164 #[.slice a cs.length cap] w fun e w'=>∃v,e= .returned v∧w'.ownsRow w.heap.size 3 1 v (srt cs).length ((srt cs).map (Value.int .i64))∧Below w.heap.size w w':=by
 obtain⟨i0,hi,hz0,hz1,hz2⟩:=info_parts Tryz.info3'
 have HR:=hid hr
 obtain⟨len,hl⟩:∃n,n=cs.length:=⟨_,rfl⟩
 have HL:=hid hl
 rw[<-hl] at hn hm|-
 have HM:=hid hm
 have hbA:=Qab w (.cells #[.slice a len cap] 112)
 have eA:=World.cell?_alloc_mark w #[.slice a len cap] 112 (0,0) 0
 have sA:(w.alloc (.cells #[.slice a len cap] 112)).heap.size=w.heap.size+1:=by simp
 have HBA:=hid hbA
 have HSA:=hid sA
 have cA:(w.alloc (.cells #[.slice a len cap] 112)).cell? ⟨w.heap.size,0,none⟩=some (.slice a len cap):=by simp
 have HCA:=hid cA
 clear hr hl hm hbA sA eA cA
 go_enter Tryz.func164,Tryz.ntmps164
 go_wp2_with fail
 generalize w.alloc (.cells #[.slice a len cap] 112)=wA at *
 go_loopw [3,8] (fun v y wr=>∃k:Nat,k<=len∧y= .int .i64 k∧wr.ownsRow (w.heap.size+1) 3 1 v (nz cs k).length ((nz cs k).map (Value.int .i64))∧Below (w.heap.size+1) wA wr) (fun _ y _=>len-(intOf y).toNat)
 case atStart=>exact⟨0,by omega,rfl,World.ownsRow_nil _ _ _ _,Below.refl _ _⟩
 case round=>
  obtain⟨k,hk,rfl,hown,hbel⟩:=hrel
  have hsz:w.heap.size+1<=wr.heap.size:=by rw[<-HSA.out];exact hbel.size
  by_cases hlt:k<len
  ·have hkl:(k:Int)<(len:Int):=by omega
   have K1:Hid (k<cs.length):=by show _<_;rw[<-HL.out];exact hlt
   obtain⟨b,off,rfl,hbw,hc⟩:=(HR.out).cells (by rw[<-HL.out];omega)
   have ck:wr.cell? ⟨b,off+k,none⟩=some (.int .i64 (cs.getD k 0)):=((hbel.cell (p:=⟨b,off+k,none⟩) (by show b<_;omega)).trans (HBA.out.cell (p:=⟨b,off+k,none⟩) hbw)).trans (hc k K1.out)
   clear hc
   have HNZ:=hid (show nz cs (k+1)=if 0<cs.getD k 0 then nz cs k++ [(k:Int)] else nz cs k from rfl)
   have hnl:=Qk8 cs k
   generalize cs.getD k 0=c at *
   by_cases hc0:0<c
   ·have HN2:Hid (nz cs (k+1)=nz cs k++ [(k:Int)]):=by show _=_;rw[HNZ.out,if_pos hc0]
    go_wp2_with (at_builtin;refine wpList_append_own _ rfl _ _ 112 rfl (w.heap.size+1) 3 i0 (.int .i64 0) 1 8 Tryz.underlying112 hi hz0 hz1 hz2 rfl (by decide) _ _ _ rfl (hown.alloc _) ⟨wr.heap.size,0,none⟩ 1 1 [.int .i64 (k:Int)] rfl rfl ?c1 ?c2 ?c3 ?c4 ?c5 ?_)
    case c1=>
     intro j u hj
     match j,hj with
     | 0,hj=>simp at hj;subst hj;simp[Addr.add]
    case c2=>intro u hu;simp at hu;subst hu;rfl
    case c3=>unfold maxLen;omega
    case c4=>omega
    case c5=>simp;omega
    intro v1 w1 hown0 hgrow _
    have HB1:=hid ((hbel.alloc hsz _).grown hgrow (by simp;omega) (fun j hj=>(hown.lt j hj).1))
    have HO1:Hid (w1.ownsRow (w.heap.size+1) 3 1 v1 (nz cs (k+1)).length ((nz cs (k+1)).map (Value.int .i64))):=by
     show World.ownsRow _ _ _ _ _ _ _
     rw[HN2.out];simpa using hown0
    clear hown hown0 hgrow hbel ck
    go_wp2
    exact⟨⟨k+1,by omega,by go_num,HO1.out,HB1.out⟩,by simp[intOf];omega⟩
   ·have HN2:Hid (nz cs (k+1)=nz cs k):=by show _=_;rw[HNZ.out,if_neg hc0]
    go_wp2
    exact⟨⟨k+1,by omega,by go_num,by rw[HN2.out];exact hown,hbel⟩,by simp[intOf];omega⟩
  ·obtain rfl:k=len:=by omega
   have hboxr:wr.cell? ⟨w.heap.size,0,none⟩=some (.slice a k cap):=(hbel.cell (p:=⟨w.heap.size,0,none⟩) (by show w.heap.size<_;omega)).trans HCA.out
   have HBW:=hid (HBA.out.trans (hbel.mono (by omega)))
   by_cases h0:0<(nz cs k).length
   ·obtain⟨gs,cp,rfl,hgs,hcp⟩:=Qg3 hown h0
    have hlen0:0<k:=by have:=Qk8 cs k;omega
    obtain⟨b,off,rfl,hbw,hc⟩:=(HR.out).cells (by rw[<-HL.out];omega)
    have hcts:Cts wr w.heap.size gs b off cap cs:=by
     refine⟨by rw[<-HL.out];exact hboxr,fun j hj=>(HBW.out.cell (p:=⟨b,off+j,none⟩) hbw).trans (hc j hj),by rw[<-HL.out];omega,by omega,by omega⟩
    have HS:=hid (Qwz (nz cs k).length cp (w.heap.size+1) w.heap.size gs b off cap cs (nz cs k) wr hcts HM.out rfl hown hcp (fun u hu=>by have:=Qjt cs k u hu;rw[<-HL.out];omega) (Qov (Qvh cs k)))
    have hlt2:=(hown.lt gs rfl).2
    rw[HL.out] at HS
    have HKL:=hid HL.out
    clear hown hbel hc hcts
    rw[show nz cs k=nz cs cs.length from by rw[<-HL.out]]
    go_wp2_with fail
    refine HS.out.mono ?_
    rintro _ w1 ⟨rfl,⟨X,hX,hwX⟩,hg⟩
    have hXe:=Xkz hX
    subst hXe
    rw[<-Qca] at hwX
    have HO:=hid (Qkv hwX (show w.heap.size<=w.heap.size+1 from by omega))
    have HB:Hid (Below w.heap.size w w1):=HBW.out.grown hg HBW.out.size (fun j hj=>by injection hj with hj;omega)
    rw[<-Qca]
    clear hX hwX hg
    go_wp2
    go_ret
    exact⟨_,rfl,HO.out,HB.out⟩
   ·have hnil:nz cs k= []:=List.length_eq_zero_iff.1 (by omega)
    obtain⟨a3,cp3,rfl⟩:∃a3 cp3,u3= .slice a3 0 cp3:=by
     rcases hown.2 with ⟨h1,_⟩ | ⟨g,cp,_,h1,_⟩
     ·exact⟨none,0,h1⟩
     ·exact⟨_,cp,by rw[h1,hnil];rfl⟩
    have hs0:srt cs= []:=by
     have:=Qca cs
     rw[<-HL.out,hnil] at this
     exact List.length_eq_zero_iff.1 this
    rw[hnil] at hown
    have HO:=hid (Qkv hown (show w.heap.size<=w.heap.size+1 from by omega))
    have HSN:=hid (fun W=>Qy8 a3 cp3 (.func (.func 174) #[] #[.pointer (some ⟨w.heap.size,0,none⟩)]) W)
    have HE:=hid hs0
    clear hown hbel hnil hs0 h0
    go_wp2_with fail
    refine(HSN.out _).mono ?_
    rintro _ w1 ⟨rfl,hw⟩
    obtain rfl:=hw.symm
    clear hw
    go_wp2
    go_ret
    exact⟨_,rfl,by rw[HE.out];exact HO.out,HBW.out⟩
end
end Go.Proofs.YtibjlbcnapoblaaGreatDoor
