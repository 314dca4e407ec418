/-
 The document's runs.
-/
import Derived.Test.YtibjlbcnapoblaaGreatDoorPart30
import Derived.Test.YtibjlbcnapoblaaGreatDoorPart04
import Derived.Test.YtibjlbcnapoblaaGreatDoorPart19
import Derived.Test.YtibjlbcnapoblaaGreatDoorPart18
import Derived.Test.YtibjlbcnapoblaaGreatDoorPart13
namespace Go.Proofs.YtibjlbcnapoblaaGreatDoor
set_option maxRecDepth 100000
set_option maxHeartbeats 6400000
section
open Go.RowKit Lz
theorem Qy3(a:Option Addr)(cap:Nat)(zs:List Int)(w:World)(hr:Ri w .i64 a cap zs)(hn:zs.length<=1000)(hz:∀j,0<=zs.getD j 0∧zs.getD j 0<=255):
 Calls Tryz.prog 73 #[.slice a zs.length cap] w fun e w'=>∃v,e= .returned v∧w'.ownsRow w.heap.size 5 1 v (Qcw zs).length ((Qcw zs).map (Value.int .u8))∧Below w.heap.size w w':=by
 obtain⟨i0,hi,hz0,hz1,hz2⟩:=info_parts Tryz.info5Z
 have HR:=hid hr
 have HZ:=hid hz
 have hroom:=hr.room
 obtain⟨len,hle⟩:∃n,n=zs.length:=⟨_,rfl⟩
 have HL:=hid hle
 rw[<-hle] at hn hroom|-
 clear hr hle hz
 go_enter Tryz.func73,Tryz.ntmps73
 go_wp2_with fail
 go_loopw [3,4,5] (fun v i _ wr=>∃(k f:Nat) (acc:List Int),k<=len∧i= .int .i64 (k:Int)∧Hid (len-k<=f)∧Hid (acc++Qdg f (zs.drop k)=Qcw zs)∧Hid (acc.length<=3*k)∧Hid (wr.ownsRow w.heap.size 5 1 v acc.length (acc.map (Value.int .u8)))∧Hid (Below w.heap.size w wr)) (fun _ i _ _=>len-(intOf i).toNat)
 case atStart=>exact⟨0,len,[],by omega,rfl,by show len-0<=len;omega,by rw[HL.out];rfl,by show 0<=3*0;omega,World.ownsRow_nil _ _ _ _,Below.refl _ _⟩
 case round=>
  obtain⟨k,f,acc,hk,rfl,HF,HACC,HAL,HO,HB⟩:=hrel
  by_cases hlt:k<len
  ·have hkl:(k:Int)<(len:Int):=by omega
   go_wp2_with fail
   go_loopw [5] (fun j wr2=>∃p:Nat,j= .int .i64 (p:Int)∧0<p∧k+p<=len∧Hid (∀q,k<q->q<k+p->zs.getD q 0=zs.getD k 0)∧Hid (wr2.ownsRow w.heap.size 5 1 u3 acc.length (acc.map (Value.int .u8)))∧Hid (Below w.heap.size w wr2)) (fun j _=>len-(intOf j).toNat)
   case atStart=>exact⟨1,rfl,by omega,by omega,fun q h1 h2=>by omega,HO.out,HB.out⟩
   case round=>
    obtain⟨p,rfl,hp1,hp2,HS,HO2,HB2⟩:=hrel
    by_cases hpl:k+p<len
    ·obtain⟨q,hq0⟩:∃q:Nat,q=k+p:=⟨_,rfl⟩
     have HQ:=hid hq0
     have HWR:Hid (IntKind.i64.wrap ((k:Int)+(p:Int))=(q:Int)):=by show _=_;rw[IntWalk.i64_in _ ⟨by omega,by omega⟩];omega
     have hpi:(q:Int)<(len:Int):=by omega
     rw[<-hq0] at hpl
     clear hq0
     obtain⟨b,off,rfl,hbw,hc⟩:=HR.out.cells (by rw[<-HL.out];omega)
     have cp:=(HB2.out.drew.cell (p:=⟨b,off+q,none⟩) hbw).trans (hc q (by rw[<-HL.out];exact hpl))
     have ck:=(HB2.out.drew.cell (p:=⟨b,off+k,none⟩) hbw).trans (hc k (by rw[<-HL.out];exact hlt))
     clear hc
     have HB3:=hid HB2.out.drew
     have HO3:=hid HO2.out.drew
     by_cases hq:zs.getD q 0=zs.getD k 0
     ·have HS2:Hid (∀q',k<q'->q'<k+(p+1)->zs.getD q' 0=zs.getD k 0):=fun q' h1 h2=>by
       by_cases e:q'=q
       ·rw[e];exact hq
       ·exact HS.out q' h1 (by have:=HQ.out;omega)
      rw[hq] at cp
      clear HS hq HB2 HO2
      generalize zs.getD k 0=z at *
      go_wp2_with fail
      refine wp_region_held_drew (S:=fun V=>V=wr.drew) (by kernel_rfl) rfl (fun hS0=>?_)
      generalize wr.drew=v0 at *
      refine Ord.tk (i:=0) (d:=10) (v:=?vA0) rfl rfl ?hA0 (by assumption) ?_
      case hA0=>intro w hSw;have hq:w=v0:=hSw;subst hq;go_simp;try with_reducible rfl
      simp only[Ord.s1,Ord.s2,Ord.s3]
      refine Ord.tk (i:=1) (d:=11) (v:=?vA1) rfl rfl ?hA1 (by assumption) ?_
      case hA1=>intro w hSw;have hq:w=v0:=hSw;subst hq;go_simp;try with_reducible rfl
      simp only[Ord.s1,Ord.s2,Ord.s3]
      refine Ord.tk (i:=2) (d:=12) (v:= .int .i64 (q:Int)) rfl rfl ?hA2 (by assumption) ?_
      case hA2=>intro w hSw;have hq:w=v0:=hSw;subst hq;go_simp;all_goals exact HWR.out
      simp only[Ord.s1,Ord.s2,Ord.s3]
      refine Ord.tk (i:=3) (d:=13) (v:=?vA3) rfl rfl ?hA3 (by assumption) ?_
      case hA3=>intro w hSw;have hq:w=v0:=hSw;subst hq;go_simp;try with_reducible rfl
      simp only[Ord.s1,Ord.s2,Ord.s3]
      refine Ord.tk (i:=4) (d:=14) (v:=?vA4) rfl rfl ?hA4 (by assumption) ?_
      case hA4=>intro w hSw;have hq:w=v0:=hSw;subst hq;go_simp;try with_reducible rfl
      simp only[Ord.s1,Ord.s2,Ord.s3]
      refine Ord.tk (i:=5) (d:=15) (v:= .bool true) rfl rfl ?hA5 (by assumption) ?_
      case hA5=>intro w hSw;have hq:w=v0:=hSw;subst hq;go_simp;try with_reducible rfl
      simp only[Ord.s1,Ord.s2,Ord.s3]
      refine Ord.tk (i:=6) (d:=16) (v:=?vA6) rfl rfl ?hA6 (by assumption) ?_
      case hA6=>intro w hSw;have hq:w=v0:=hSw;subst hq;go_simp;try with_reducible rfl
      simp only[Ord.s1,Ord.s2,Ord.s3]
      refine Ord.tk (i:=7) (d:=17) (v:=?vA7) rfl rfl ?hA7 (by assumption) ?_
      case hA7=>intro w hSw;have hq:w=v0:=hSw;subst hq;go_simp;try with_reducible rfl
      simp only[Ord.s1,Ord.s2,Ord.s3]
      refine Ord.tk (i:=8) (d:=18) (v:=?vA8) rfl rfl ?hA8 (by assumption) ?_
      case hA8=>intro w hSw;have hq:w=v0:=hSw;subst hq;go_simp;try with_reducible rfl
      simp only[Ord.s1,Ord.s2,Ord.s3]
      refine Ord.tk (i:=9) (d:=19) (v:=?vA9) rfl rfl ?hA9 (by assumption) ?_
      case hA9=>intro w hSw;have hq:w=v0:=hSw;subst hq;go_simp;try with_reducible rfl
      simp only[Ord.s1,Ord.s2,Ord.s3]
      refine Ord.tk (i:=10) (d:=20) (v:= .int .i64 (q:Int)) rfl rfl ?hA10 (by assumption) ?_
      case hA10=>intro w hSw;have hq:w=v0:=hSw;subst hq;go_simp;all_goals exact HWR.out
      simp only[Ord.s1,Ord.s2,Ord.s3]
      refine Ord.tk (i:=11) (d:=21) (v:= .pointer (some ⟨b,off+q,none⟩)) rfl rfl ?hA11 (by assumption) ?_
      case hA11=>intro w hSw;have hq:w=v0:=hSw;subst hq;go_simp;try with_reducible rfl
      simp only[Ord.s1,Ord.s2,Ord.s3]
      refine Ord.tk (i:=12) (d:=22) (v:= .int .i64 z) rfl rfl ?hA12 (by assumption) ?_
      case hA12=>intro w hSw;have hq:w=v0:=hSw;subst hq;go_simp;try with_reducible rfl
      simp only[Ord.s1,Ord.s2,Ord.s3]
      refine Ord.tk (i:=13) (d:=23) (v:=?vA13) rfl rfl ?hA13 (by assumption) ?_
      case hA13=>intro w hSw;have hq:w=v0:=hSw;subst hq;go_simp;try with_reducible rfl
      simp only[Ord.s1,Ord.s2,Ord.s3]
      refine Ord.tk (i:=14) (d:=24) (v:=?vA14) rfl rfl ?hA14 (by assumption) ?_
      case hA14=>intro w hSw;have hq:w=v0:=hSw;subst hq;go_simp;try with_reducible rfl
      simp only[Ord.s1,Ord.s2,Ord.s3]
      refine Ord.tk (i:=15) (d:=25) (v:= .pointer (some ⟨b,off+k,none⟩)) rfl rfl ?hA15 (by assumption) ?_
      case hA15=>intro w hSw;have hq:w=v0:=hSw;subst hq;go_simp;try with_reducible rfl
      simp only[Ord.s1,Ord.s2,Ord.s3]
      refine Ord.tk (i:=16) (d:=26) (v:= .int .i64 z) rfl rfl ?hA16 (by assumption) ?_
      case hA16=>intro w hSw;have hq:w=v0:=hSw;subst hq;go_simp;try with_reducible rfl
      simp only[Ord.s1,Ord.s2,Ord.s3]
      refine Ord.tk (i:=17) (d:=27) (v:= .bool true) rfl rfl ?hA17 (by assumption) ?_
      case hA17=>intro w hSw;have hq:w=v0:=hSw;subst hq;go_simp;try with_reducible rfl
      simp only[Ord.s1,Ord.s2,Ord.s3]
      refine Ord.tk (i:=18) (d:=28) (v:= .bool true) rfl rfl ?hA18 (by assumption) ?_
      case hA18=>intro w hSw;have hq:w=v0:=hSw;subst hq;go_simp;try with_reducible rfl
      simp only[Ord.s1,Ord.s2,Ord.s3]
      refine wpAnyH_done (by as_aux_lemma=>kernel_rfl) ?_ _
      clear cp ck
      generalize v0=W at *
      go_wp2
      have hq0:=HQ.out
      exact⟨⟨p+1,by go_num,by omega,by omega,HS2.out,HO3.out,HB3.out⟩,by simp[intOf];omega⟩
     ·have HEND:q=zs.length∨zs.getD q 0≠zs.getD k 0:=Or.inr hq
      have hqb:(zs.getD q 0==zs.getD k 0)=false:=by rw[beq_eq_false_iff_ne];exact hq
      clear hq
      clear HO2 HB2 HO HB
      have hzr:=HZ.out k
      have HST:=hid (Qh9 zs k q (f-1) (by have:=HQ.out;omega) (by rw[<-HL.out];have:=HQ.out;omega) (by rw[HQ.out];exact HS.out) HEND)
      have HF1:Hid (f-1+1=f):=by show f-1+1=f;have:=HF.out;omega
      rw[HF1.out] at HST
      have HVI:=hid (fun W=>Qnu (p:Int) W (by omega) (by omega))
      have HVL:=hid (Qdp (p:Int) (by omega) (by omega))
      have hpk:q-k=p:=by have:=HQ.out;omega
      rw[hpk] at HST
      have HF2:Hid (len-q<=f-1):=by show len-q<=f-1;have:=HF.out;have:=HQ.out;omega
      have hz256:zs.getD k 0%256=zs.getD k 0:=by omega
      have hal:=HAL.out
      clear hpk HF HF1 HEND HS
      generalize zs.getD q 0=y at *
      generalize zs.getD k 0=z at *
      have hz9:=hzr.1
      have hz8:=hzr.2
      clear hzr
      obtain⟨W,hW⟩:∃x,x=wr.drew:=⟨_,rfl⟩
      have HC0:Hid (W.cell? ⟨b,off+k,none⟩=some (.int .i64 z)):=by rw[hW];exact ck
      go_wp2_with fail
      refine wp_region_held_drew (S:=fun V=>V=wr.drew) (by kernel_rfl) rfl (fun hS0=>?_)
      generalize wr.drew=v0 at *
      refine Ord.tk (i:=0) (d:=10) (v:=?vB0) rfl rfl ?hB0 (by assumption) ?_
      case hB0=>intro w hSw;have hq:w=v0:=hSw;subst hq;go_simp;try with_reducible rfl
      simp only[Ord.s1,Ord.s2,Ord.s3]
      refine Ord.tk (i:=1) (d:=11) (v:=?vB1) rfl rfl ?hB1 (by assumption) ?_
      case hB1=>intro w hSw;have hq:w=v0:=hSw;subst hq;go_simp;try with_reducible rfl
      simp only[Ord.s1,Ord.s2,Ord.s3]
      refine Ord.tk (i:=2) (d:=12) (v:= .int .i64 (q:Int)) rfl rfl ?hB2 (by assumption) ?_
      case hB2=>intro w hSw;have hq:w=v0:=hSw;subst hq;go_simp;all_goals exact HWR.out
      simp only[Ord.s1,Ord.s2,Ord.s3]
      refine Ord.tk (i:=3) (d:=13) (v:=?vB3) rfl rfl ?hB3 (by assumption) ?_
      case hB3=>intro w hSw;have hq:w=v0:=hSw;subst hq;go_simp;try with_reducible rfl
      simp only[Ord.s1,Ord.s2,Ord.s3]
      refine Ord.tk (i:=4) (d:=14) (v:=?vB4) rfl rfl ?hB4 (by assumption) ?_
      case hB4=>intro w hSw;have hq:w=v0:=hSw;subst hq;go_simp;try with_reducible rfl
      simp only[Ord.s1,Ord.s2,Ord.s3]
      refine Ord.tk (i:=5) (d:=15) (v:= .bool true) rfl rfl ?hB5 (by assumption) ?_
      case hB5=>intro w hSw;have hq:w=v0:=hSw;subst hq;go_simp;try with_reducible rfl
      simp only[Ord.s1,Ord.s2,Ord.s3]
      refine Ord.tk (i:=6) (d:=16) (v:=?vB6) rfl rfl ?hB6 (by assumption) ?_
      case hB6=>intro w hSw;have hq:w=v0:=hSw;subst hq;go_simp;try with_reducible rfl
      simp only[Ord.s1,Ord.s2,Ord.s3]
      refine Ord.tk (i:=7) (d:=17) (v:=?vB7) rfl rfl ?hB7 (by assumption) ?_
      case hB7=>intro w hSw;have hq:w=v0:=hSw;subst hq;go_simp;try with_reducible rfl
      simp only[Ord.s1,Ord.s2,Ord.s3]
      refine Ord.tk (i:=8) (d:=18) (v:=?vB8) rfl rfl ?hB8 (by assumption) ?_
      case hB8=>intro w hSw;have hq:w=v0:=hSw;subst hq;go_simp;try with_reducible rfl
      simp only[Ord.s1,Ord.s2,Ord.s3]
      refine Ord.tk (i:=9) (d:=19) (v:=?vB9) rfl rfl ?hB9 (by assumption) ?_
      case hB9=>intro w hSw;have hq:w=v0:=hSw;subst hq;go_simp;try with_reducible rfl
      simp only[Ord.s1,Ord.s2,Ord.s3]
      refine Ord.tk (i:=10) (d:=20) (v:= .int .i64 (q:Int)) rfl rfl ?hB10 (by assumption) ?_
      case hB10=>intro w hSw;have hq:w=v0:=hSw;subst hq;go_simp;all_goals exact HWR.out
      simp only[Ord.s1,Ord.s2,Ord.s3]
      refine Ord.tk (i:=11) (d:=21) (v:= .pointer (some ⟨b,off+q,none⟩)) rfl rfl ?hB11 (by assumption) ?_
      case hB11=>intro w hSw;have hq:w=v0:=hSw;subst hq;go_simp;try with_reducible rfl
      simp only[Ord.s1,Ord.s2,Ord.s3]
      refine Ord.tk (i:=12) (d:=22) (v:= .int .i64 y) rfl rfl ?hB12 (by assumption) ?_
      case hB12=>intro w hSw;have hq:w=v0:=hSw;subst hq;go_simp;try with_reducible rfl
      simp only[Ord.s1,Ord.s2,Ord.s3]
      refine Ord.tk (i:=13) (d:=23) (v:=?vB13) rfl rfl ?hB13 (by assumption) ?_
      case hB13=>intro w hSw;have hq:w=v0:=hSw;subst hq;go_simp;try with_reducible rfl
      simp only[Ord.s1,Ord.s2,Ord.s3]
      refine Ord.tk (i:=14) (d:=24) (v:=?vB14) rfl rfl ?hB14 (by assumption) ?_
      case hB14=>intro w hSw;have hq:w=v0:=hSw;subst hq;go_simp;try with_reducible rfl
      simp only[Ord.s1,Ord.s2,Ord.s3]
      refine Ord.tk (i:=15) (d:=25) (v:= .pointer (some ⟨b,off+k,none⟩)) rfl rfl ?hB15 (by assumption) ?_
      case hB15=>intro w hSw;have hq:w=v0:=hSw;subst hq;go_simp;try with_reducible rfl
      simp only[Ord.s1,Ord.s2,Ord.s3]
      refine Ord.tk (i:=16) (d:=26) (v:= .int .i64 z) rfl rfl ?hB16 (by assumption) ?_
      case hB16=>intro w hSw;have hq:w=v0:=hSw;subst hq;go_simp;try with_reducible rfl
      simp only[Ord.s1,Ord.s2,Ord.s3]
      refine Ord.tk (i:=17) (d:=27) (v:= .bool false) rfl rfl ?hB17 (by assumption) ?_
      case hB17=>intro w hSw;have hq:w=v0:=hSw;subst hq;go_simp;try with_reducible rfl
      simp only[Ord.s1,Ord.s2,Ord.s3]
      refine Ord.tk (i:=18) (d:=28) (v:= .bool false) rfl rfl ?hB18 (by assumption) ?_
      case hB18=>intro w hSw;have hq:w=v0:=hSw;subst hq;go_simp;try with_reducible rfl
      simp only[Ord.s1,Ord.s2,Ord.s3]
      refine wpAnyH_done (by as_aux_lemma=>kernel_rfl) ?_ _
      subst hW
      have ck2:=HC0.out
      clear cp ck HC0
      go_wp2_with (at_builtin;refine wpList_append_own _ rfl _ _ 22 rfl w.heap.size 5 i0 (.int .u8 0) 1 1 Tryz.underlying22 hi hz0 hz1 hz2 rfl (by decide) _ _ _ rfl (HO3.out.alloc _) ⟨W.heap.size,0,none⟩ 1 1 [.int .u8 z] rfl rfl ?c1 ?c2 ?c3 ?c4 ?c5 ?_)
      try case c1=>
       intro j u hj
       match j,hj with
       | 0,hj=>simp at hj;subst hj;simp[Addr.add]
      try case c2=>first | rfl | (intro u hu;simp at hu;subst hu;rfl)
      case c3=>unfold maxLen;omega
      case c4=>omega
      case c5=>have:=HB3.out.size;simp;omega
      intro v' w1 hown' hgrow _
      have R:=Qd0 HB3.out.size HO3.out HB3.out hown' hgrow
      have HO4:=hid R.1
      have HB4:=hid R.2
      clear hown' hgrow R HO3 HB3 ck2
      go_wp2_with fail
      go_at_call 46
      refine(HVI.out w1).mono ?_
      rintro _ w2 ⟨va,vc,rfl,hvr,hvb⟩
      have HO5:=hid (Qaz HO4.out hvb)
      have HB5:=hid (Bn HB4.out hvb)
      have HVR:=hid hvr
      have hsz:=HB5.out.size
      clear hvb hvr HVI HO4 HB4
      generalize vint (p:Int)=vi at *
      have hbd:(acc++ [z]).length+vi.length<=10000000:=by have:=HVL.out;simp;omega
      go_wp2_with (at_builtin;refine Qc1 _ rfl _ _ rfl w.heap.size _ (acc++ [z]) rfl HO5.out va vc vi rfl HVR.out hbd hsz ?_)
      intro v' w3 hown' hgrow
      have HB6:=hid (HB5.out.grown hgrow (by omega) (fun j hj=>(HO5.out.lt j hj).1))
      have HO6:Hid (w3.ownsRow w.heap.size 5 1 v' (acc++ [z]++vi).length ((acc++ [z]++vi).map (Value.int .u8))):=by
       show World.ownsRow _ _ _ _ _ _ _
       have e1:(acc++ [z]++vi).length=acc.length+(vi.length+1):=by simp
       have e2:(acc++ [z]++vi).map (Value.int .u8)=acc.map (Value.int .u8)++Value.int .u8 z::vi.map (Value.int .u8):=by simp
       rw[e1,e2];exact hown'
      have HAC:Hid ((acc++ [z]++vi)++Qdg (f-1) (zs.drop q)=Qcw zs):=by show _=_;rw[<-HACC.out,HST.out];simp
      have HLE:Hid ((acc++ [z]++vi).length<=3*q):=by show _<=_;have:=HVL.out;have:=HQ.out;simp;omega
      clear hgrow hown' HO5 HB5 HVR hbd HST HACC HVL HAL
      go_wp2
      have hq0:=HQ.out
      exact⟨⟨q,f-1,acc++ [z]++vi,by omega,by subst hq0;go_num,HF2.out,HAC.out,HLE.out,HO6.out,HB6.out⟩,by simp[intOf];omega⟩
    ·obtain⟨q,hq0⟩:∃q:Nat,q=k+p:=⟨_,rfl⟩
     have HQ:=hid hq0
     have HWR:Hid (IntKind.i64.wrap ((k:Int)+(p:Int))=(q:Int)):=by show _=_;rw[IntWalk.i64_in _ ⟨by omega,by omega⟩];omega
     have HEND:q=zs.length∨zs.getD q 0≠zs.getD k 0:=Or.inl (by rw[<-HL.out];have:=HQ.out;omega)
     have hpi:¬(q:Int)<(len:Int):=by omega
     rw[<-hq0] at hpl
     clear hq0
     obtain⟨b,off,rfl,hbw,hc⟩:=HR.out.cells (by rw[<-HL.out];omega)
     have ck:=(HB2.out.drew.cell (p:=⟨b,off+k,none⟩) hbw).trans (hc k (by rw[<-HL.out];exact hlt))
     clear hc
     have HB3:=hid HB2.out.drew
     have HO3:=hid HO2.out.drew
     clear HO2 HB2 HO HB
     have hzr:=HZ.out k
     have HST:=hid (Qh9 zs k q (f-1) (by have:=HQ.out;omega) (by rw[<-HL.out];have:=HQ.out;omega) (by rw[HQ.out];exact HS.out) HEND)
     have HF1:Hid (f-1+1=f):=by show f-1+1=f;have:=HF.out;omega
     rw[HF1.out] at HST
     have HVI:=hid (fun W=>Qnu (p:Int) W (by omega) (by omega))
     have HVL:=hid (Qdp (p:Int) (by omega) (by omega))
     have hpk:q-k=p:=by have:=HQ.out;omega
     rw[hpk] at HST
     have HF2:Hid (len-q<=f-1):=by show len-q<=f-1;have:=HF.out;have:=HQ.out;omega
     have hz256:zs.getD k 0%256=zs.getD k 0:=by omega
     have hal:=HAL.out
     clear hpk HF HF1 HEND HS
     generalize zs.getD k 0=z at *
     have hz9:=hzr.1
     have hz8:=hzr.2
     clear hzr
     obtain⟨W,hW⟩:∃x,x=wr.drew:=⟨_,rfl⟩
     have HC0:Hid (W.cell? ⟨b,off+k,none⟩=some (.int .i64 z)):=by rw[hW];exact ck
     go_wp2_with fail
     refine wp_region_held_drew (S:=fun V=>V=wr.drew) (by kernel_rfl) rfl (fun hS0=>?_)
     generalize wr.drew=v0 at *
     refine Ord.tk (i:=0) (d:=10) (v:=?vC0) rfl rfl ?hC0 (by assumption) ?_
     case hC0=>intro w hSw;have hq:w=v0:=hSw;subst hq;go_simp;try with_reducible rfl
     simp only[Ord.s1,Ord.s2,Ord.s3]
     refine Ord.tk (i:=1) (d:=11) (v:=?vC1) rfl rfl ?hC1 (by assumption) ?_
     case hC1=>intro w hSw;have hq:w=v0:=hSw;subst hq;go_simp;try with_reducible rfl
     simp only[Ord.s1,Ord.s2,Ord.s3]
     refine Ord.tk (i:=2) (d:=12) (v:= .int .i64 (q:Int)) rfl rfl ?hC2 (by assumption) ?_
     case hC2=>intro w hSw;have hq:w=v0:=hSw;subst hq;go_simp;all_goals exact HWR.out
     simp only[Ord.s1,Ord.s2,Ord.s3]
     refine Ord.tk (i:=3) (d:=13) (v:=?vC3) rfl rfl ?hC3 (by assumption) ?_
     case hC3=>intro w hSw;have hq:w=v0:=hSw;subst hq;go_simp;try with_reducible rfl
     simp only[Ord.s1,Ord.s2,Ord.s3]
     refine Ord.tk (i:=4) (d:=14) (v:=?vC4) rfl rfl ?hC4 (by assumption) ?_
     case hC4=>intro w hSw;have hq:w=v0:=hSw;subst hq;go_simp;try with_reducible rfl
     simp only[Ord.s1,Ord.s2,Ord.s3]
     refine Ord.tk (i:=5) (d:=15) (v:= .bool false) rfl rfl ?hC5 (by assumption) ?_
     case hC5=>intro w hSw;have hq:w=v0:=hSw;subst hq;go_simp;try with_reducible rfl
     simp only[Ord.s1,Ord.s2,Ord.s3]
     refine Ord.tk (i:=6) (d:=16) (v:=?vC6) rfl rfl ?hC6 (by assumption) ?_
     case hC6=>intro w hSw;have hq:w=v0:=hSw;subst hq;go_simp;try with_reducible rfl
     simp only[Ord.s1,Ord.s2,Ord.s3]
     refine Ord.skip (i:=7) (d:=17) rfl rfl (by as_aux_lemma=>kernel_rfl) (by as_aux_lemma=>kernel_rfl) (by as_aux_lemma=>kernel_rfl) (fun _ _ _ h=>h) (by rfl) (by assumption) ?_
     simp only[Ord.s1,Ord.s2,Ord.s3]
     refine Ord.skip (i:=8) (d:=18) rfl rfl (by as_aux_lemma=>kernel_rfl) (by as_aux_lemma=>kernel_rfl) (by as_aux_lemma=>kernel_rfl) (fun _ _ _ h=>h) (by rfl) (by assumption) ?_
     simp only[Ord.s1,Ord.s2,Ord.s3]
     refine Ord.skip (i:=9) (d:=19) rfl rfl (by as_aux_lemma=>kernel_rfl) (by as_aux_lemma=>kernel_rfl) (by as_aux_lemma=>kernel_rfl) (fun _ _ _ h=>h) (by rfl) (by assumption) ?_
     simp only[Ord.s1,Ord.s2,Ord.s3]
     refine Ord.skip (i:=10) (d:=20) rfl rfl (by as_aux_lemma=>kernel_rfl) (by as_aux_lemma=>kernel_rfl) (by as_aux_lemma=>kernel_rfl) (fun _ _ _ h=>h) (by rfl) (by assumption) ?_
     simp only[Ord.s1,Ord.s2,Ord.s3]
     refine Ord.skip (i:=11) (d:=21) rfl rfl (by as_aux_lemma=>kernel_rfl) (by as_aux_lemma=>kernel_rfl) (by as_aux_lemma=>kernel_rfl) (fun _ _ _ h=>h) (by rfl) (by assumption) ?_
     simp only[Ord.s1,Ord.s2,Ord.s3]
     refine Ord.skip (i:=12) (d:=22) rfl rfl (by as_aux_lemma=>kernel_rfl) (by as_aux_lemma=>kernel_rfl) (by as_aux_lemma=>kernel_rfl) (fun _ _ _ h=>h) (by rfl) (by assumption) ?_
     simp only[Ord.s1,Ord.s2,Ord.s3]
     refine Ord.skip (i:=13) (d:=23) rfl rfl (by as_aux_lemma=>kernel_rfl) (by as_aux_lemma=>kernel_rfl) (by as_aux_lemma=>kernel_rfl) (fun _ _ _ h=>h) (by rfl) (by assumption) ?_
     simp only[Ord.s1,Ord.s2,Ord.s3]
     refine Ord.skip (i:=14) (d:=24) rfl rfl (by as_aux_lemma=>kernel_rfl) (by as_aux_lemma=>kernel_rfl) (by as_aux_lemma=>kernel_rfl) (fun _ _ _ h=>h) (by rfl) (by assumption) ?_
     simp only[Ord.s1,Ord.s2,Ord.s3]
     refine Ord.skip (i:=15) (d:=25) rfl rfl (by as_aux_lemma=>kernel_rfl) (by as_aux_lemma=>kernel_rfl) (by as_aux_lemma=>kernel_rfl) (fun _ _ _ h=>h) (by rfl) (by assumption) ?_
     simp only[Ord.s1,Ord.s2,Ord.s3]
     refine Ord.skip (i:=16) (d:=26) rfl rfl (by as_aux_lemma=>kernel_rfl) (by as_aux_lemma=>kernel_rfl) (by as_aux_lemma=>kernel_rfl) (fun _ _ _ h=>h) (by rfl) (by assumption) ?_
     simp only[Ord.s1,Ord.s2,Ord.s3]
     refine Ord.skip (i:=17) (d:=27) rfl rfl (by as_aux_lemma=>kernel_rfl) (by as_aux_lemma=>kernel_rfl) (by as_aux_lemma=>kernel_rfl) (fun _ _ _ h=>h) (by rfl) (by assumption) ?_
     simp only[Ord.s1,Ord.s2,Ord.s3]
     refine Ord.tk (i:=18) (d:=28) (v:= .bool false) rfl rfl ?hC18 (by assumption) ?_
     case hC18=>intro w hSw;have hq:w=v0:=hSw;subst hq;go_simp;try with_reducible rfl
     simp only[Ord.s1,Ord.s2,Ord.s3]
     refine wpAnyH_done (by as_aux_lemma=>kernel_rfl) ?_ _
     subst hW
     have ck2:=HC0.out
     clear ck HC0
     go_wp2_with (at_builtin;refine wpList_append_own _ rfl _ _ 22 rfl w.heap.size 5 i0 (.int .u8 0) 1 1 Tryz.underlying22 hi hz0 hz1 hz2 rfl (by decide) _ _ _ rfl (HO3.out.alloc _) ⟨W.heap.size,0,none⟩ 1 1 [.int .u8 z] rfl rfl ?d1 ?d2 ?d3 ?d4 ?d5 ?_)
     try case d1=>
      intro j u hj
      match j,hj with
      | 0,hj=>simp at hj;subst hj;simp[Addr.add]
     try case d2=>first | rfl | (intro u hu;simp at hu;subst hu;rfl)
     case d3=>unfold maxLen;omega
     case d4=>omega
     case d5=>have:=HB3.out.size;simp;omega
     intro v' w1 hown' hgrow _
     have R:=Qd0 HB3.out.size HO3.out HB3.out hown' hgrow
     have HO4:=hid R.1
     have HB4:=hid R.2
     clear hown' hgrow R HO3 HB3 ck2
     go_wp2_with fail
     go_at_call 46
     refine(HVI.out w1).mono ?_
     rintro _ w2 ⟨va,vc,rfl,hvr,hvb⟩
     have HO5:=hid (Qaz HO4.out hvb)
     have HB5:=hid (Bn HB4.out hvb)
     have HVR:=hid hvr
     have hsz:=HB5.out.size
     clear hvb hvr HVI HO4 HB4
     generalize vint (p:Int)=vi at *
     have hbd:(acc++ [z]).length+vi.length<=10000000:=by have:=HVL.out;simp;omega
     go_wp2_with (at_builtin;refine Qc1 _ rfl _ _ rfl w.heap.size _ (acc++ [z]) rfl HO5.out va vc vi rfl HVR.out hbd hsz ?_)
     intro v' w3 hown' hgrow
     have HB6:=hid (HB5.out.grown hgrow (by omega) (fun j hj=>(HO5.out.lt j hj).1))
     have HO6:Hid (w3.ownsRow w.heap.size 5 1 v' (acc++ [z]++vi).length ((acc++ [z]++vi).map (Value.int .u8))):=by
      show World.ownsRow _ _ _ _ _ _ _
      have e1:(acc++ [z]++vi).length=acc.length+(vi.length+1):=by simp
      have e2:(acc++ [z]++vi).map (Value.int .u8)=acc.map (Value.int .u8)++Value.int .u8 z::vi.map (Value.int .u8):=by simp
      rw[e1,e2];exact hown'
     have HAC:Hid ((acc++ [z]++vi)++Qdg (f-1) (zs.drop q)=Qcw zs):=by show _=_;rw[<-HACC.out,HST.out];simp
     have HLE:Hid ((acc++ [z]++vi).length<=3*q):=by show _<=_;have:=HVL.out;have:=HQ.out;simp;omega
     clear hgrow hown' HO5 HB5 HVR hbd HST HACC HVL HAL
     go_wp2
     have hq0:=HQ.out
     exact⟨⟨q,f-1,acc++ [z]++vi,by omega,by subst hq0;go_num,HF2.out,HAC.out,HLE.out,HO6.out,HB6.out⟩,by simp[intOf];omega⟩
  ·obtain rfl:k=len:=by omega
   have HE:Hid (acc=Qcw zs):=by show _=_;rw[<-HACC.out,Qpi f zs k (by rw[<-HL.out];omega)];simp
   go_wp2
   go_ret
   exact⟨_,rfl,by rw[<-HE.out];exact HO.out,HB.out⟩
end
/-
 The document's counts.
-/
section
open Go.RowKit Lz
theorem Tryz.info3D:(Tryz.prog.info? 3).map (fun i=>(i.zero,i.size,i.bytes))=some (some (.int .i64 0),1,8):=by kernel_rfl
theorem Qul(w:World){o:Oper}{ac:Act}{K:Act->World->Prop}{Q:Exit->Act->World->Prop}(l c:Operand)(n:Nat)(ho:o.op= .makeSlice 112 l c)(hl:ac.eval l= .int .i64 (n:Int))(hc:ac.eval c= .int .i64 (n:Int))(hn:n<=1000)
 (h:∀w',w'.heap[w.heap.size]?=some (.cells (arr .i64 (List.replicate n 0)) 3 (0,0))->Below w.heap.size w w'->K (ac.put o.dst (.slice (some ⟨w.heap.size,0,none⟩) n n)) w'):o.wp Tryz.prog ac w K Q:=by
 obtain⟨i0,hi,hz0,hz1,hz2⟩:=info_parts Tryz.info3D
 obtain⟨w',hrun,r1,r2⟩:=run_make_full (P:=Tryz.prog) w w.heap.size 112 3 i0 (.int .i64 0) 1 Tryz.underlying112 hi hz0 hz1 .i64 .i64 n (by rw[hz2];omega) (by unfold maxLen;omega) (Nat.le_refl _)
 unfold Oper.wp
 simp[execOp,ho,hl,hc,hrun,Result.andThen]
 refine h w' ?_ ((Below.refl _ _).grown r2 (Nat.le_refl _) (fun k hk=>by cases hk))
 obtain⟨_,h1 | ⟨g,cap,cur,hv,_,hg,_,_,hsz,htk⟩⟩:=r1
 ·exact absurd h1.1 (by simp)
 ·injection hv with e1 e2 e3
  subst e3
  injection e1 with e1
  injection e1 with e1
  subst e1
  rw[hg]
  have htk:cur.toList.take (n*1)=(madeCells #[Value.int .i64 0] (n*1)).toList:=htk
  rw[toList_madeCells_one,List.take_of_length_le (by rw[Array.length_toList,hsz];exact Nat.le_refl _)] at htk
  have:cur=arr .i64 (List.replicate n 0):=by
   apply Array.toList_inj.1
   rw[htk]
   simp[arr]
  rw[this]
structure MemD (w:World) (ga gd:Nat) (wr:World) (K D:List Nat):Prop where
 ks:wr.heap[ga]?=some (.cells (arr .i64 K) 3 (0,0))
 ds:wr.heap[gd]?=some (.cells (arr .i64 D) 3 (0,0))
 ne:ga≠gd
 ba:w.heap.size<=ga
 bd:w.heap.size<=gd
 bel:Below w.heap.size w wr
theorem MemD.later{w wr w':World}{ga gd:Nat}{K D:List Nat}(h:MemD w ga gd wr K D)(hb:Below wr.heap.size wr w'):MemD w ga gd w' K D:=by
 have hlt:∀ {g:Nat} {o:Obj},wr.heap[g]?=some o->g<wr.heap.size:=fun {g o} e=>by
  by_cases c:g<wr.heap.size
  ·exact c
  ·rw[Array.getElem?_eq_none (by omega)] at e;cases e
 exact⟨(hb.block _ (hlt h.ks)).trans h.ks,(hb.block _ (hlt h.ds)).trans h.ds,h.ne,h.ba,h.bd,Bn h.bel hb⟩
theorem MemD.putK{w wr:World}{ga gd:Nat}{K D:List Nat}(h:MemD w ga gd wr K D)(i v:Nat):MemD w ga gd (wr.setCell ⟨ga,i,none⟩ (.int .i64 (v:Int))) (K.set i v) D:=by
 refine⟨?_,?_,h.ne,h.ba,h.bd,h.bel.setCell h.ba _⟩
 ·rw[Joins.block_setCell h.ks,Qdb]
 ·rw[Qab h.ks (Ne.symm h.ne)];exact h.ds
theorem MemD.putD{w wr:World}{ga gd:Nat}{K D:List Nat}(h:MemD w ga gd wr K D)(i v:Nat):MemD w ga gd (wr.setCell ⟨gd,i,none⟩ (.int .i64 (v:Int))) K (D.set i v):=by
 refine⟨?_,?_,h.ne,h.ba,h.bd,h.bel.setCell h.bd _⟩
 ·rw[Qab h.ds h.ne];exact h.ks
 ·rw[Joins.block_setCell h.ds,Qdb]
def Mz(B:Nat)(W:World)(u:Value)(n:Nat):Prop:=∃g,u= .slice (some ⟨g,0,none⟩) n n∧B<=g∧W.heap[g]?=some (.cells (arr .i64 (List.replicate n 0)) 3 (0,0))
theorem Mz.lt{B:Nat}{W:World}{u:Value}{n:Nat}(h:Mz B W u n):∃g,u= .slice (some ⟨g,0,none⟩) n n∧g<W.heap.size:=by
 obtain⟨g,h1,_,h3⟩:=h
 refine⟨g,h1,?_⟩
 by_cases c:g<W.heap.size
 ·exact c
 ·rw[Array.getElem?_eq_none (by omega)] at h3;cases h3
theorem Mz.later{B:Nat}{W W':World}{u:Value}{n:Nat}(h:Mz B W u n)(hb:Below W.heap.size W W'):Mz B W' u n:=by
 obtain⟨g,h1,h2,h3⟩:=h
 have hg:g<W.heap.size:=by
  by_cases c:g<W.heap.size
  ·exact c
  ·rw[Array.getElem?_eq_none (by omega)] at h3;cases h3
 exact⟨g,h1,h2,(hb.block _ hg).trans h3⟩
def T1(s u4 u5 u9 u10:Value):Array Value:= #[s,undef,.slice none 0 0,.slice none 0 0,u4,u5,undef,undef,undef,u9,u10,undef,undef,undef,undef,undef,undef,undef,undef,undef,undef,undef,undef,undef,undef,undef,undef,undef,undef,undef,undef,undef,undef,undef,undef,undef,undef,undef,undef,undef,undef,undef,undef,undef,undef,undef,undef,undef,undef,undef,undef,undef]
structure I1 (s:Value) (w:World) (l:Array Bool) (a:Act) (W:World):Prop where
 size:l.size=4
 bel:Below w.heap.size w W
 fr:∃u4 u5 u9 u10,a=⟨T1 s u4 u5 u9 u10,[]⟩∧(l.getD 0 false=true->Mz w.heap.size W u9 511)∧(l.getD 1 false=true->Mz w.heap.size W u10 13)∧(l.getD 0 false=true->l.getD 1 false=true->u9.ownBlock≠u10.ownBlock) ∧
  (l.getD 2 false=true->l.getD 0 false=true∧u4=u9)∧(l.getD 3 false=true->l.getD 1 false=true∧u5=u10)
theorem Qrr(a:Option Addr)(cap:Nat)(l:List Tkz)(w:World)(hr:Rt w a cap l)(hn:l.length<=100000)(hall:∀j,j<l.length->chkZ (l.getD j tk0)=0):
 Calls Tryz.prog 71 #[.slice a l.length cap] w fun e w'=>∃ga gd,e= .returned (.tuple #[.slice (some ⟨ga,0,none⟩) 511 511,.slice (some ⟨gd,0,none⟩) 13 13])∧Ri w' .i64 (some ⟨ga,0,none⟩) 511 (intL (Qav l l.length))∧Ri w' .i64 (some ⟨gd,0,none⟩) 13 (intL (Qar l l.length))∧Below w.heap.size w w':=by
 have hroom:=hr.room
 have hmost:=hr.most
 unfold maxLen at hmost
 have HR:=hid hr
 have HALL:=hid hall
 obtain⟨len,hle⟩:∃n,n=l.length:=⟨_,rfl⟩
 have HL:=hid hle
 rw[<-hle] at hn hroom|-
 clear hr hle hall
 go_enter Tryz.func71,Tryz.ntmps71
 go_wp2_with fail
 refine Inv.region (I1 (.slice a len cap) w) (by kernel_rfl) ?start ?step ?fin
 case start=>
  refine⟨rfl,(Below.refl _ _).drew,undef,undef,undef,undef,rfl,?_,?_,?_,?_,?_⟩<;>intro h<;>cases h
 case step=>
  intro l1 a1 W hI i o ho hl hdep
  obtain⟨hsz,hbl,u4,u5,u9,u10,rfl,f0,f1,f01,f2,f3⟩:=hI
  have hlt:=Inv.Xct hl
  have hi4:i=0∨i=1∨i=2∨i=3:=by omega
  have hb:=fun j=>Inv.Qrw (l:=l1) (i:=i) j hlt
  have hs2:(l1.setIfInBounds i true).size=4:=by rw[Inv.Qr8];exact hsz
  rcases hi4 with rfl | rfl | rfl | rfl
  ·injection ho with ho
   subst ho
   have hno:=Qce hl
   refine wpOp_step rfl (fun K' hK=>?_)
   rw[if_pos (by rfl)]
   refine Qul W _ _ 511 rfl rfl rfl (by omega) (fun W' h1 h2=>hK _ _ ⟨hs2,Bn hbl h2,u4,u5,_,u10,rfl,fun _=>⟨W.heap.size,rfl,hbl.size,h1⟩,(fun h=>(f1 (Inv.gg hb h)).later h2),(fun _ h=>?_),(fun h=>?_),(fun h=>?_)⟩)
   ·obtain⟨g,hg,hg2⟩:=(f1 (Inv.gg hb h)).lt
    subst hg
    intro e
    injection e with e
    simp at e
    omega
   ·have:=(f2 (Inv.gg hb h)).1
    rw[hno] at this;cases this
   ·have:=f3 (Inv.gg hb h)
    exact⟨by rw[hb,if_neg (by decide)];exact this.1,this.2⟩
  ·injection ho with ho
   subst ho
   have hno:=Qce hl
   refine wpOp_step rfl (fun K' hK=>?_)
   rw[if_pos (by rfl)]
   refine Qul W _ _ 13 rfl rfl rfl (by omega) (fun W' h1 h2=>hK _ _ ⟨hs2,Bn hbl h2,u4,u5,u9,_,rfl,(fun h=>(f0 (Inv.gg hb h)).later h2),fun _=>⟨W.heap.size,rfl,hbl.size,h1⟩,(fun h _=>?_),(fun h=>?_),(fun h=>?_)⟩)
   ·obtain⟨g,hg,hg2⟩:=(f0 (Inv.gg hb h)).lt
    subst hg
    intro e
    injection e with e
    simp at e
    omega
   ·have:=f2 (Inv.gg hb h)
    exact⟨by rw[hb,if_neg (by decide)];exact this.1,this.2⟩
   ·have:=(f3 (Inv.gg hb h)).1
    rw[hno] at this;cases this
  ·injection ho with ho
   subst ho
   refine wpOp_step rfl (fun K' hK=>?_)
   rw[if_pos (by rfl)]
   have d0:=hdep {on:=0,ground:= .data} (by simp) (by rfl)
   go_simp
   exact hK _ _ ⟨hs2,hbl,_,u5,u9,u10,rfl,(fun h=>f0 d0),(fun h=>f1 (Inv.gg hb h)),(fun _ h=>f01 d0 (Inv.gg hb h)),(fun _=>⟨by rw[hb,if_neg (by decide)];exact d0,rfl⟩),(fun h=>by have:=f3 (Inv.gg hb h);exact⟨by rw[hb,if_neg (by decide)];exact this.1,this.2⟩)⟩
  ·injection ho with ho
   subst ho
   refine wpOp_step rfl (fun K' hK=>?_)
   rw[if_pos (by rfl)]
   have d1:=hdep {on:=1,ground:= .data} (by simp) (by rfl)
   go_simp
   exact hK _ _ ⟨hs2,hbl,u4,_,u9,u10,rfl,(fun h=>f0 (Inv.gg hb h)),(fun h=>f1 d1),(fun h _=>f01 (Inv.gg hb h) d1),(fun h=>by have:=f2 (Inv.gg hb h);exact⟨by rw[hb,if_neg (by decide)];exact this.1,this.2⟩),(fun _=>⟨by rw[hb,if_neg (by decide)];exact d1,rfl⟩)⟩
 case fin=>
  intro l1 a1 W hI hready
  obtain⟨hsz,hbl,u4,u5,u9,u10,rfl,f0,f1,f01,f2,f3⟩:=hI
  have d0:=Inv.done (j:=0) hready rfl (by omega) (by simp)
  have d1:=Inv.done (j:=1) hready rfl (by omega) (by simp)
  have d2:=Inv.done (j:=2) hready rfl (by omega) (fun e he _=>by simp at he;(repeat (rcases he with rfl | he;· assumption));all_goals (subst he;assumption))
  have d3:=Inv.done (j:=3) hready rfl (by omega) (fun e he _=>by simp at he;(repeat (rcases he with rfl | he;· assumption));all_goals (subst he;assumption))
  obtain⟨ga,rfl,hga,hka⟩:=f0 d0
  obtain⟨gd,rfl,hgd,hkd⟩:=f1 d1
  obtain⟨_,rfl⟩:=f2 d2
  obtain⟨_,rfl⟩:=f3 d3
  have hne:ga≠gd:=fun e=>f01 d0 d1 (by subst e;rfl)
  have HM:Hid (MemD w ga gd W (Qav l 0) (Qar l 0)):=⟨hka,hkd,hne,hga,hgd,hbl⟩
  clear f0 f1 f01 f2 f3 d0 d1 d2 d3 hka hkd hready hsz hbl
  show Exit.then _ _ Exit.normal ⟨#[.slice a len cap,undef,.slice none 0 0,.slice none 0 0,.slice (some ⟨ga,0,none⟩) 511 511,.slice (some ⟨gd,0,none⟩) 13 13,undef,undef,undef,.slice (some ⟨ga,0,none⟩) 511 511,.slice (some ⟨gd,0,none⟩) 13 13,undef,undef,undef,undef,undef,undef,undef,undef,undef,undef,undef,undef,undef,undef,undef,undef,undef,undef,undef,undef,undef,undef,undef,undef,undef,undef,undef,undef,undef,undef,undef,undef,undef,undef,undef,undef,undef,undef,undef,undef,undef],[]⟩ W
  go_wp2_with fail
  go_loopw [6] (fun x wr=>∃k:Nat,k<=len∧x= .int .i64 (k:Int)∧Hid (MemD w ga gd wr (Qav l k) (Qar l k))) (fun x _=>len-(intOf x).toNat)
  case atStart=>exact⟨0,by omega,rfl,HM.out⟩
  case round=>
   obtain⟨k,hk,rfl,HMK⟩:=hrel
   clear HM
   by_cases hlt:k<len
   ·have hkz:(k:Int)<(len:Int):=by omega
    have hbel:=HMK.out.bel
    obtain⟨b,off,rfl,hbw,hc⟩:=HR.out.cells (by rw[<-HL.out];omega)
    obtain⟨c0,c1,c2⟩:=hc k (by rw[<-HL.out];exact hlt)
    have d0:=(hbel.cell (p:=⟨b,off+k*3,none⟩) hbw).trans c0
    have d1:=(hbel.cell (p:=⟨b,off+k*3+1,none⟩) hbw).trans c1
    have d2:=(hbel.cell (p:=⟨b,off+k*3+2,none⟩) hbw).trans c2
    have h8:=wf_u8 (HR.out.fits k (by rw[<-HL.out];exact hlt)).2.2
    have htwo:=Qfo (HALL.out k (by rw[<-HL.out];exact hlt)) h8
    have HKN:Hid (Qav l (k+1)=upL (Qav l k) (symZ (l.getD k tk0)).toNat):=rfl
    have HDN:Hid (Qar l (k+1)=if 0<(l.getD k tk0).1 then upL (Qar l k) (dstZ (l.getD k tk0).1).toNat else Qar l k):=rfl
    have HKL:=hid (Qbh l k)
    have HDL:=hid (Qa7 l k)
    have HKE:=hid (Qfs l k)
    have HDE:=hid (Qey l k)
    have HCK:=hid (Qln (l.getD k tk0) wr (by rcases htwo with h | h;exact Or.inl h.1;exact Or.inr ⟨h.2.2.1,h.2.2.2.1⟩) h8)
    generalize Qav l k=KK at *
    generalize Qar l k=DD at *
    obtain⟨KK1,hk1⟩:∃x,x=Qav l (k+1):=⟨_,rfl⟩
    obtain⟨DD1,hd1⟩:∃x,x=Qar l (k+1):=⟨_,rfl⟩
    rw[<-hk1] at HKN
    rw[<-hd1] at HDN
    have HK1:=hid hk1
    have HDD1:=hid hd1
    clear hk1 hd1
    clear hc c0 c1 c2 h8
    generalize l.getD k tk0=t at *
    have hsr:0<=symZ t∧symZ t<511:=by rcases htwo with h | h;exact h.2;exact h.2.2.2.2
    obtain⟨s,hs⟩:=Int.eq_ofNat_of_zero_le hsr.1
    rw[hs] at HCK HKN
    rw[Int.toNat_natCast] at HKN
    have hs511:(s:Int)<511:=by omega
    have hd:t.1=0∨(1<=t.1∧t.1<=4096):=by rcases htwo with h | h;exact Or.inl h.1;exact Or.inr ⟨h.1,h.2.1⟩
    clear htwo hs hsr
    obtain⟨d,n,x⟩:=t
    unfold zC at HCK
    dsimp only at *
    have HCB:Hid (∀V,Below wr.heap.size wr V->V.cell? ⟨b,off+k*3,none⟩=some (.int .i64 d)):=fun V hV=>(hV.cell (p:=⟨b,off+k*3,none⟩) (Nat.lt_of_lt_of_le hbw hbel.size)).trans d0
    have HM0:=HMK
    clear hbel HMK
    go_wp2_with fail
    refine HCK.out.mono ?_
    rintro _ w2 ⟨rfl,hb2⟩
    have HM2:=hid (HM0.out.later hb2)
    have HBA:=hid HM2.out.ba
    have e2:=HCB.out w2 hb2
    have HE2:=hid e2
    clear hb2 HCK HM0 d0 d1 d2 e2
    have ck:=(Joins.cell_of_block HM2.out.ks s).trans (Qao .i64 _ s (by rw[HKL.out];omega))
    have fk:=Joins.unfrozen_of_block HM2.out.ks s
    have hv:=HKE.out s
    have HM3:=hid (HM2.out.putK s (KK.getD s 0+1))
    have HE3:Hid ((w2.setCell ⟨ga,s,none⟩ (.int .i64 ((KK.getD s 0+1:Nat):Int))).cell? ⟨b,off+k*3,none⟩=some (.int .i64 d)):=by
     show _=_
     rw[Qir (Qab HM2.out.ks (by have:=HBA.out;omega) _)];exact HE2.out
    have hup:KK.set s (KK.getD s 0+1)=KK1:=by rw[HKN.out];rfl
    rw[hup] at HM3
    clear hup
    generalize KK.getD s 0=v at *
    have hv1:((v+1:Nat):Int)=(v:Int)+1:=by omega
    rw[hv1] at HM3 HE3
    clear hv1 HM2 HE2 HCB
    have m0:=HE3.out
    rcases hd with hd | hd
    ·subst hd
     have HD1:Hid (DD1=DD):=by show _=_;rw[HDN.out,if_neg (by omega)]
     rw[<-HD1.out] at HM3
     clear HD1 HDN HDE HDL HE3
     go_wp2
     exact⟨⟨k+1,by omega,by go_num,by rw[<-HK1.out,<-HDD1.out];exact HM3.out⟩,by simp[intOf];omega⟩
    ·obtain⟨hd1,hd2⟩:=hd
     have hdr:=Qe2 hd1 hd2
     obtain⟨q,hq⟩:=Int.eq_ofNat_of_zero_le hdr.1
     have hq13:(q:Int)<13:=by omega
     have hpos:0<d:=by omega
     have HDW:=hid (Qpp d (w2.setCell ⟨ga,s,none⟩ (.int .i64 ((v:Int)+1))) hd1 hd2)
     rw[hq] at HDW
     have HDN2:Hid (DD1=upL DD q):=by show _=_;rw[HDN.out,if_pos hpos,hq];rfl
     clear HDN hdr hq HE3
     go_wp2_with fail
     go_at_call 77
     refine HDW.out.mono ?_
     rintro _ w4 ⟨rfl,hw⟩
     obtain rfl:=hw.symm
     clear hw HDW m0 ck fk
     generalize w2.setCell ⟨ga,s,none⟩ (.int .i64 ((v:Int)+1))=W3 at *
     have cd:=(Joins.cell_of_block HM3.out.ds q).trans (Qao .i64 _ q (by rw[HDL.out];omega))
     have fd:=Joins.unfrozen_of_block HM3.out.ds q
     have hu:=HDE.out q
     have HM4:=hid (HM3.out.putD q (DD.getD q 0+1))
     have hup:DD.set q (DD.getD q 0+1)=DD1:=by rw[HDN2.out];rfl
     rw[hup] at HM4
     clear hup HDN2 HM3
     generalize DD.getD q 0=u at *
     have hu1:((u+1:Nat):Int)=(u:Int)+1:=by omega
     rw[hu1] at HM4
     clear hu1
     go_wp2
     exact⟨⟨k+1,by omega,by go_num,by rw[<-HK1.out,<-HDD1.out];exact HM4.out⟩,by simp[intOf];omega⟩
   ·obtain rfl:k=len:=by omega
    have HK2:=hid (Qbh l k)
    have HD2:=hid (Qa7 l k)
    have HKE:=hid (Qfs l k)
    have HDE:=hid (Qey l k)
    have HRA:=hid (Qtg HMK.out.ks (by rw[HK2.out];omega) (fun j=>by have:=HKE.out j;omega))
    have HRD:=hid (Qtg HMK.out.ds (by rw[HD2.out];omega) (fun j=>by have:=HDE.out j;omega))
    rw[HK2.out] at HRA
    rw[HD2.out] at HRD
    go_wp2
    go_ret2
    exact⟨ga,gd,rfl,HRA.out,HRD.out,HMK.out.bel⟩
end
/-
 The contract of the document's least.
-/
section
open Go.RowKit Hf
namespace Hf
def lstK(wt inn:Nat->Int)(no:Int):Nat->Int
 | 0=> -1
 | k+1=>if (k:Int)≠no∧inn k<0∧(lstK wt inn no k<0∨wt k<wt (lstK wt inn no k).toNat) then (k:Int) else lstK wt inn no k
theorem Qur(wt inn:Nat->Int)(no:Int):∀k, -1<=lstK wt inn no k∧lstK wt inn no k<(k:Int)∨(k=0∧lstK wt inn no k= -1)
 | 0=>Or.inr ⟨rfl,rfl⟩
 | k+1=>by
   left
   rw[lstK]
   have:=Qur wt inn no k
   split<;>omega
end Hf
theorem Qw1(g n cap:Nat)(no:Int)(wt inn:Nat->Int)(w:World)(hn:n<=100000)(hg:g<w.heap.size)
 (hc:∀i,i<n->w.cell? ⟨g,i*3,none⟩=some (.int .i64 (wt i))∧w.cell? ⟨g,i*3+1,none⟩=some (.int .i64 (inn i))) :
 Calls Tryz.prog 136 #[.slice (some ⟨g,0,none⟩) n cap,.int .i64 no] w fun e w'=>e= .returned (.int .i64 (lstK wt inn no n))∧Below w.heap.size w w':=by
 have HC:=hid hc
 clear hc
 go_enter Tryz.func136,Tryz.ntmps136
 go_wp2
 go_loopw [5,6] (fun x y wr=>∃k:Nat,k<=n∧x= .int .i64 (lstK wt inn no k)∧y= .int .i64 k∧Hid (Below w.heap.size w wr)) (fun _ y _=>n-(intOf y).toNat)
 case atStart=>exact⟨0,by omega,rfl,rfl,Below.refl _ _⟩
 case round=>
  obtain⟨k,hk,rfl,rfl,HB⟩:=hrel
  by_cases hlt:k<n
  ·have hkz:(k:Int)<(n:Int):=by omega
   have HL:=hid (show lstK wt inn no (k+1)=if (k:Int)≠no∧inn k<0∧(lstK wt inn no k<0∨wt k<wt (lstK wt inn no k).toNat) then (k:Int) else lstK wt inn no k from rfl)
   have hr:=Qur wt inn no k
   have c1:wr.cell? ⟨g,k*3,none⟩=some (.int .i64 (wt k)):=(HB.out.cell (p:=⟨g,k*3,none⟩) hg).trans (HC.out k hlt).1
   have c2:wr.cell? ⟨g,k*3+1,none⟩=some (.int .i64 (inn k)):=(HB.out.cell (p:=⟨g,k*3+1,none⟩) hg).trans (HC.out k hlt).2
   by_cases h1:(k:Int)=no
   ·have e1:((k:Int) != no)=false:=by simp[h1]
    rw[if_neg (fun h=>h.1 h1)] at HL
    clear h1
    generalize lstK wt inn no k=best at *
    go_wp2_with fail
    go_big_quiet (fail)
    have HB2:=hid (Qcl HB.out nq)
    clear c1 c2 HB
    generalize wr.drewN nq=W at *
    go_wp2
    exact⟨⟨k+1,by omega,by rw[HL.out],by go_num,HB2⟩,by simp[intOf];omega⟩
   ·have e1:((k:Int) != no)=true:=by simp[h1]
    by_cases h2:inn k<0
    ·by_cases h3:lstK wt inn no k<0
     ·rw[if_pos ⟨h1,h2,Or.inl h3⟩] at HL
      clear h1
      generalize lstK wt inn no k=best at *
      generalize inn k=y at *
      generalize wt k=x at *
      go_wp2_with fail
      go_big_quiet (fail)
      have HB2:=hid (Qcl HB.out nq)
      clear c1 c2 HB
      generalize wr.drewN nq=W at *
      go_wp2
      exact⟨⟨k+1,by omega,by rw[HL.out],by go_num,HB2⟩,by simp[intOf];omega⟩
     ·obtain⟨q,hq⟩:∃q:Nat,lstK wt inn no k=(q:Int):=⟨(lstK wt inn no k).toNat,by omega⟩
      rw[hq,Int.toNat_natCast] at HL
      have hqk:q<k:=by omega
      have hqn:(q:Int)<(n:Int):=by omega
      have c3:wr.cell? ⟨g,q*3,none⟩=some (.int .i64 (wt q)):=(HB.out.cell (p:=⟨g,q*3,none⟩) hg).trans (HC.out q (by omega)).1
      have h3':¬(q:Int)<0:=by omega
      have h3d:decide ((q:Int)<0)=false:=decide_eq_false h3'
      by_cases h4:wt k<wt q
      ·rw[if_pos ⟨h1,h2,Or.inr h4⟩] at HL
       rw[hq]
       clear h1 h3 hr hq
       generalize inn k=y at *
       generalize wt k=x at *
       generalize wt q=z at *
       go_wp2_with fail
       go_big_quiet (fail)
       have HB2:=hid (Qcl HB.out nq)
       clear c1 c2 c3 HB
       generalize wr.drewN nq=W at *
       go_wp2
       exact⟨⟨k+1,by omega,by rw[HL.out],by go_num,HB2⟩,by simp[intOf];omega⟩
      ·rw[if_neg (fun h=>by rcases h.2.2 with h | h;exact h3' h;exact h4 h)] at HL
       have h4d:decide (wt k<wt q)=false:=decide_eq_false h4
       rw[hq]
       clear h1 h3 hr hq
       generalize inn k=y at *
       generalize wt k=x at *
       generalize wt q=z at *
       go_wp2_with fail
       go_big_quiet (fail)
       have HB2:=hid (Qcl HB.out nq)
       clear c1 c2 c3 HB
       generalize wr.drewN nq=W at *
       go_wp2
       exact⟨⟨k+1,by omega,by rw[HL.out],by go_num,HB2⟩,by simp[intOf];omega⟩
    ·rw[if_neg (fun h=>h2 h.2.1)] at HL
     have h2d:decide (inn k<0)=false:=decide_eq_false h2
     clear h1
     generalize lstK wt inn no k=best at *
     generalize inn k=y at *
     generalize wt k=x at *
     go_wp2_with fail
     go_big_quiet (fail)
     have HB2:=hid (Qcl HB.out nq)
     clear c1 c2 HB
     generalize wr.drewN nq=W at *
     go_wp2
     exact⟨⟨k+1,by omega,by rw[HL.out],by go_num,HB2⟩,by simp[intOf];omega⟩
  ·have hkz:¬(k:Int)<(n:Int):=by omega
   obtain rfl:k=n:=by omega
   go_wp2
   go_ret
   exact⟨rfl,HB.out⟩
end
end Go.Proofs.YtibjlbcnapoblaaGreatDoor
