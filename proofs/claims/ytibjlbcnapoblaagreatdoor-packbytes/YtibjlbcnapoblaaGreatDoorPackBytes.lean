/-
 PackBytes is proved for every input, as a tied card: a chunk's blocks and how many they are, of the code and of the document; no condition but that the tables of package sha start as the text lays them.
-/
import Derived.Test.YtibjlbcnapoblaaGreatDoorPart37
namespace Go.Proofs.YtibjlbcnapoblaaGreatDoor.packBytes
open Go.ChangeShapes Go.WideShapes Go.ChangeAt Go.RowKit Hf Lz
set_option maxHeartbeats 3200000 in
set_option maxRecDepth 100000 in
theorem walk(a:Option Addr)(c0:Nat)(l0:List Int)(y:Int)(_:(Lit.int .i64 y).wf=true)(w:World)(hL:Sh.Laid w)(hr:Ri w .u8 a c0 l0):
 Calls Tryz.prog 3 #[.slice a l0.length c0,.int .i64 y] w fun e w'=>e= .returned (.bool true)∧Below w.heap.size w w':=by
 have C1:=hid (Xao a c0 900 l0 w hr (by decide))
 have hn1:(l0.take 900).length<=900:=List.length_take_le _ _
 have r1:=hr.take 900
 generalize l0.take 900=bs at *
 have h8:isC bs.length=true->∀j,(Lit.int .u8 ((Qhn bs).getD j 0)).wf=true:=fun _=>Xk6 bs r1.fits (by omega)
 have HAL:Hid (∀V,Below w.heap.size w V->Calls Tryz.prog 15 #[] V fun e w'=>e= .returned (.bool true)∧Below V.heap.size V w'):=fun V hV=>Xe1 V (hL.later hV)
 have HBY:Hid (Calls Tryz.prog 10 #[.slice a bs.length c0] w (Xk8 (Xks bs) w)):=(Qvk a c0 bs w r1 (by omega) hL).mono (fun _ _ h=>h.uni h8)
 have HBD:Hid (∀V,Below w.heap.size w V->Calls Tryz.prog 11 #[.slice a bs.length c0] V (Xk8 (Xks bs) V)):=fun V hV=>(Qrc a c0 bs V (r1.later hV) (by omega)).mono (fun _ _ h=>h.uni h8)
 have HK1:Hid (∀V,Below w.heap.size w V->Calls Tryz.prog 12 #[.slice a bs.length c0] V fun e w'=>e= .returned (.tuple #[.int .i64 (Xdk bs).1,.int .i64 (Xdk bs).2])∧Below V.heap.size V w'):=fun V hV=>Qys a c0 bs V (r1.later hV) (by omega)
 have HK2:Hid (∀V,Below w.heap.size w V->Calls Tryz.prog 13 #[.slice a bs.length c0] V fun e w'=>e= .returned (.tuple #[.int .i64 (Xdk bs).1,.int .i64 (Xdk bs).2])∧Below V.heap.size V w'):=fun V hV=>Qwy a c0 bs V (r1.later hV) (by omega)
 have HBG:Hid (∀(V:World) (n:Nat),4097<=n->n<=4099->Below w.heap.size w V->Calls Tryz.prog 10 #[.slice (some ⟨V.heap.size,0,none⟩) n n] (V.alloc (.cells (madeCells #[.int .u8 0] n) 5)) fun e w'=>e= .returned (.tuple #[.slice none 0 0,.int .i64 113])∧Below V.heap.size V w'):=fun V n h1 h2 hV=>by
  have hb:=Qbr V (.cells (madeCells #[.int .u8 0] n) 5)
  have h:=Qvk _ n (List.replicate n 0) _ (Xcy V n (by omega)) (by rw[List.length_replicate];omega) (hL.later (Bn hV hb))
  unfold Qmw at h
  rw[List.length_replicate,show isC n=false from decide_eq_false (by omega)] at h
  refine h.mono ?_
  rintro e w' ⟨hb',⟨_,rfl⟩ | ⟨h,_⟩⟩
  ·exact⟨rfl,Bn hb hb'⟩
  ·cases h
 have HMK:Hid (∀V,(Instr.makeSlice 22 (.int .i64 512) (.int .i64 512)).run Tryz.prog V= .ok (.slice (some ⟨V.heap.size,0,none⟩) 512 512) (V.alloc (.cells (madeCells #[.int .u8 0] 512) 5))):=fun V=>Qwh 512 (by omega) V
 have HER:Hid (∀V,Calls Tryz.prog 14 #[] V fun e w'=>e= .returned (.slice (some ⟨V.heap.size,0,none⟩) 512 512)∧w'=V.alloc (.cells (madeCells #[.int .u8 0] 512) 5)):=fun V=>Xdl V
 have HZ:Hid (∀(v V:World),Below (v.alloc (.cells (madeCells #[.int .u8 0] 512) 5)).heap.size (v.alloc (.cells (madeCells #[.int .u8 0] 512) 5)) V->(convert 22 9 (.slice (some ⟨v.heap.size,0,none⟩) 512 512)).run Tryz.prog V= .ok (.string (strOfNums (List.replicate 512 0))) V):=fun v V hV=>by
  have:=(Xcy v 512 (by omega)).text V hV
  rwa[List.length_replicate] at this
 generalize madeCells #[.int .u8 0] 512=M at *
 generalize strOfNums (List.replicate 512 0)=z at *
 have HZS:Hid ((z.toList==z.toList)=true):=by show _=_;simp
 have HZN:Hid ((z.toList != z.toList)=false):=by show _=_;simp
 unfold Xk8 at HBY HBD
 generalize Xks bs=R at *
 generalize Xdk bs=B at *
 obtain⟨P,er⟩:=R
 obtain⟨n,eb⟩:=B
 dsimp only at HBY HBD HK1 HK2
 generalize l0.length=L0 at *
 generalize bs.length=L at *
 clear hr hL r1 h8
 have HEE:Hid ((er != er)=false):=by show _=_;simp
 have HNN:Hid ((n != n)=false):=by show _=_;simp
 have HEB:Hid ((eb != eb)=false):=by show _=_;simp
 go_enter Tryz.func3,Tryz.ntmps3
 go_wp2_with fail
 refine C1.out.mono ?_
 rintro _ w9 ⟨rfl,hw⟩
 obtain rfl:=hw.symm
 clear hw C1
 go_wp2_with fail
 refine HBY.out.mono ?_
 rintro _ W1 ⟨hb1,a1,c1,rfl,hr1⟩
 have HB1:=hid hb1
 have HI1:=hid hr1
 obtain⟨PL,hPL⟩:∃PL,PL=P.length:=⟨_,rfl⟩
 have HPL:=hid hPL
 rw[<-hPL]
 clear hb1 hr1 HBY hPL
 go_wp2_with fail
 refine(HBD.out W1 HB1.out).mono ?_
 rintro _ W2 ⟨hb2,a2,c2,rfl,hr2⟩
 have HB2:=hid (Bn HB1.out hb2)
 have HI2:=hid (HI1.out.later hb2)
 have HJ2:=hid hr2
 rw[<-HPL.out]
 clear hb2 hr2 HBD HB1 HI1
 go_wp2_with fail
 refine(HK1.out W2 HB2.out).mono ?_
 rintro _ W3 ⟨rfl,hb3⟩
 have HB3:=hid (Bn HB2.out hb3)
 have HI3:=hid (HI2.out.later hb3)
 have HJ3:=hid (HJ2.out.later hb3)
 clear hb3 HK1 HB2 HI2 HJ2
 go_wp2_with fail
 refine(HK2.out W3 HB3.out).mono ?_
 rintro _ W4 ⟨rfl,hb4⟩
 have HB4:=hid (Bn HB3.out hb4)
 have HT1:Hid (∀V,Below W4.heap.size W4 V->(convert 22 9 (.slice a1 PL c1)).run Tryz.prog V= .ok (.string (strOfNums P)) V):=fun V hV=>by rw[HPL.out];exact HI3.out.text V (Bn hb4 hV)
 have HT2:Hid (∀V,Below W4.heap.size W4 V->(convert 22 9 (.slice a2 PL c2)).run Tryz.prog V= .ok (.string (strOfNums P)) V):=fun V hV=>by rw[HPL.out];exact HJ3.out.text V (Bn hb4 hV)
 generalize strOfNums P=st at *
 have HSS:Hid ((st.toList==st.toList)=true):=by show _=_;simp
 have HSN:Hid ((st.toList != st.toList)=false):=by show _=_;simp
 clear hb4 HK2 HB3 HI3 HJ3 HPL
 go_wp2_with fail
 refine wp_region_held_drew (S:=fun V=>Below W4.heap.size W4 V) (by kernel_rfl) (Below.refl _ _).drew (fun hS0=>?_)
 generalize W4.drew=v0 at *
 simp only[List.size_toArray,List.length_cons,List.length_nil,Nat.reduceAdd]
 refine Ord.tk (i:=0) (d:=35) (v:=?vA0) rfl rfl ?hA0 (by assumption) ?_
 case hA0=>intro w hSw;go_simp;try with_reducible rfl
 simp only[Ord.s1,Ord.s2,Ord.s3]
 refine Ord.tk (i:=1) (d:=36) (v:= .string st) rfl rfl ?hA1 (by assumption) ?_
 case hA1=>intro w hSw;have q:=HT1.out w hSw;go_simp;try with_reducible rfl
 simp only[Ord.s1,Ord.s2,Ord.s3]
 refine Ord.tk (i:=2) (d:=37) (v:=?vA2) rfl rfl ?hA2 (by assumption) ?_
 case hA2=>intro w hSw;go_simp;try with_reducible rfl
 simp only[Ord.s1,Ord.s2,Ord.s3]
 refine Ord.tk (i:=3) (d:=38) (v:= .string st) rfl rfl ?hA3 (by assumption) ?_
 case hA3=>intro w hSw;have q:=HT2.out w hSw;go_simp;try with_reducible rfl
 simp only[Ord.s1,Ord.s2,Ord.s3]
 refine Ord.tk (i:=4) (d:=39) (v:= .bool false) rfl rfl ?hA4 (by assumption) ?_
 case hA4=>intro w hSw;have q:=HSS.out;have q2:=HSN.out;go_simp;try with_reducible rfl
 simp only[Ord.s1,Ord.s2,Ord.s3]
 refine Ord.tk (i:=5) (d:=40) (v:=?vA5) rfl rfl ?hA5 (by assumption) ?_
 case hA5=>intro w hSw;go_simp;try with_reducible rfl
 simp only[Ord.s1,Ord.s2,Ord.s3]
 refine Ord.tk (i:=6) (d:=41) (v:=?vA6) rfl rfl ?hA6 (by assumption) ?_
 case hA6=>intro w hSw;go_simp;try with_reducible rfl
 simp only[Ord.s1,Ord.s2,Ord.s3]
 refine Ord.tk (i:=7) (d:=42) (v:=?vA7) rfl rfl ?hA7 (by assumption) ?_
 case hA7=>intro w hSw;go_simp;try with_reducible rfl
 simp only[Ord.s1,Ord.s2,Ord.s3]
 refine Ord.tk (i:=8) (d:=43) (v:= .bool false) rfl rfl ?hA8 (by assumption) ?_
 case hA8=>intro w hSw;have q:=HEE.out;go_simp;try with_reducible rfl
 simp only[Ord.s1,Ord.s2,Ord.s3]
 refine Ord.tk (i:=9) (d:=44) (v:=?vA9) rfl rfl ?hA9 (by assumption) ?_
 case hA9=>intro w hSw;go_simp;try with_reducible rfl
 simp only[Ord.s1,Ord.s2,Ord.s3]
 refine Ord.tk (i:=10) (d:=45) (v:=?vA10) rfl rfl ?hA10 (by assumption) ?_
 case hA10=>intro w hSw;go_simp;try with_reducible rfl
 simp only[Ord.s1,Ord.s2,Ord.s3]
 refine Ord.tk (i:=11) (d:=46) (v:=?vA11) rfl rfl ?hA11 (by assumption) ?_
 case hA11=>intro w hSw;go_simp;try with_reducible rfl
 simp only[Ord.s1,Ord.s2,Ord.s3]
 refine Ord.tk (i:=12) (d:=47) (v:=?vA12) rfl rfl ?hA12 (by assumption) ?_
 case hA12=>intro w hSw;go_simp;try with_reducible rfl
 simp only[Ord.s1,Ord.s2,Ord.s3]
 refine Ord.tk (i:=13) (d:=48) (v:= .bool false) rfl rfl ?hA13 (by assumption) ?_
 case hA13=>intro w hSw;have q:=HNN.out;go_simp;try with_reducible rfl
 simp only[Ord.s1,Ord.s2,Ord.s3]
 refine Ord.tk (i:=14) (d:=49) (v:=?vA14) rfl rfl ?hA14 (by assumption) ?_
 case hA14=>intro w hSw;go_simp;try with_reducible rfl
 simp only[Ord.s1,Ord.s2,Ord.s3]
 refine Ord.tk (i:=15) (d:=50) (v:=?vA15) rfl rfl ?hA15 (by assumption) ?_
 case hA15=>intro w hSw;go_simp;try with_reducible rfl
 simp only[Ord.s1,Ord.s2,Ord.s3]
 refine Ord.tk (i:=16) (d:=51) (v:=?vA16) rfl rfl ?hA16 (by assumption) ?_
 case hA16=>intro w hSw;go_simp;try with_reducible rfl
 simp only[Ord.s1,Ord.s2,Ord.s3]
 refine Ord.tk (i:=17) (d:=52) (v:=?vA17) rfl rfl ?hA17 (by assumption) ?_
 case hA17=>intro w hSw;go_simp;try with_reducible rfl
 simp only[Ord.s1,Ord.s2,Ord.s3]
 refine Ord.tk (i:=18) (d:=53) (v:= .bool false) rfl rfl ?hA18 (by assumption) ?_
 case hA18=>intro w hSw;have q:=HEB.out;go_simp;try with_reducible rfl
 simp only[Ord.s1,Ord.s2,Ord.s3]
 refine Ord.tk (i:=19) (d:=54) (v:=?vA19) rfl rfl ?hA19 (by assumption) ?_
 case hA19=>intro w hSw;go_simp;try with_reducible rfl
 simp only[Ord.s1,Ord.s2,Ord.s3]
 refine Ord.tk (i:=20) (d:=55) (v:=?vA20) rfl rfl ?hA20 (by assumption) ?_
 case hA20=>intro w hSw;go_simp;try with_reducible rfl
 simp only[Ord.s1,Ord.s2,Ord.s3]
 refine wpAnyH_ready (rs:= [21,23]) (by as_aux_lemma=>kernel_rfl) (by simp) (AllReadyH.cons rfl (fun K hK=>?_) (AllReadyH.cons rfl (fun K hK=>?_) AllReadyH.nil))
 ·skip
  go_simp
  refine(HER.out v0).mono ?_
  rintro _ v1 ⟨rfl,hw1⟩
  have hS1:Below W4.heap.size W4 v1:=by rw[hw1];exact hS0.alloc hS0.size _
  have Z1:Hid (∀V,Below v1.heap.size v1 V->(convert 22 9 (.slice (some ⟨v0.heap.size,0,none⟩) 512 512)).run Tryz.prog V= .ok (.string z) V):=fun V hV=>HZ.out v0 V (by rw[<-hw1];exact hV)
  refine hK.out _ _ hS1 (fun _=>?_)
  clear hK K hw1
  refine Qfl (S':=fun V=>Below v1.heap.size v1 V) (fun V h=>Bn hS1 h) _ _ _ _ ?_
  have hT1:Below v1.heap.size v1 v1:=Below.refl _ _
  try simp only[Ord.s1,Ord.s2,Ord.s3]
  refine Ord.tk (i:=22) (d:=57) (v:= .string z) rfl rfl ?hB22 (by assumption) ?_
  case hB22=>intro w hSw;have q:=Z1.out w hSw;go_simp;try with_reducible rfl
  simp only[Ord.s1,Ord.s2,Ord.s3]
  refine wpAnyH_ready (rs:= [23]) (by as_aux_lemma=>kernel_rfl) (by simp) (AllReadyH.cons rfl (fun K hK=>?_) AllReadyH.nil)
  have q:=HMK.out v1
  go_simp
  clear q
  obtain⟨v2,hw2⟩:∃V,V=v1.alloc (.cells M 5):=⟨_,rfl⟩
  rw[<-hw2]
  have hS2:Below v1.heap.size v1 v2:=by rw[hw2];exact Qbr _ _
  have Z2:Hid (∀V,Below v2.heap.size v2 V->(convert 22 9 (.slice (some ⟨v1.heap.size,0,none⟩) 512 512)).run Tryz.prog V= .ok (.string z) V):=fun V hV=>HZ.out v1 V (by rw[<-hw2];exact hV)
  refine hK.out _ _ hS2 (fun _=>?_)
  clear hK K hw2
  refine Qfl (S':=fun V=>Below v2.heap.size v2 V) (fun V h=>Bn hS2 h) _ _ _ _ ?_
  have hT2:Below v2.heap.size v2 v2:=Below.refl _ _
  try simp only[Ord.s1,Ord.s2,Ord.s3]
  refine Ord.tk (i:=24) (d:=59) (v:= .string z) rfl rfl ?hB24 (by assumption) ?_
  case hB24=>intro w hSw;have q:=Z2.out w hSw;go_simp;try with_reducible rfl
  simp only[Ord.s1,Ord.s2,Ord.s3]
  refine Ord.tk (i:=25) (d:=60) (v:= .bool false) rfl rfl ?hB25 (by assumption) ?_
  case hB25=>intro w hSw;have q:=HZS.out;have q2:=HZN.out;go_simp;try with_reducible rfl
  simp only[Ord.s1,Ord.s2,Ord.s3]
  refine Ord.tk (i:=26) (d:=61) (v:=?vB26) rfl rfl ?hB26 (by assumption) ?_
  case hB26=>intro w hSw;go_simp;try with_reducible rfl
  simp only[Ord.s1,Ord.s2,Ord.s3]
  refine wpAnyH_done (by as_aux_lemma=>kernel_rfl) ?_ _
  have HB2:=hid (Bn (Bn HB4.out hS1) hS2)
  clear hS0 hS1 hS2 hT1 hT2 Z1 Z2 HT1 HT2 HSS HSN HZS HZN HZ HMK HER
  by_cases hy:y<1∨3<y
  ·rcases hy with hy | hy
   all_goals
    go_wp2_with fail
    refine(HAL.out v2 HB2.out).mono ?_
    rintro _ W9 ⟨rfl,hb9⟩
    have HB9:=hid (Bn HB2.out hb9)
    clear hb9 HAL HBG
    go_wp2_with fail
    go_ret
    exact⟨rfl,HB9.out⟩
  ·have hy0:¬y<1:=fun h=>hy (.inl h)
   have hy1:¬3<y:=fun h=>hy (.inr h)
   obtain⟨n9,hN⟩:∃n9:Nat,(n9:Int)=4096+y:=⟨(4096+y).toNat,by omega⟩
   have hm9:=Qwh n9 (by omega) v2
   have HG:=hid (HBG.out v2 n9 (by omega) (by omega) HB2.out)
   rw[hN] at hm9
   generalize madeCells #[.int .u8 0] n9=M9 at *
   go_wp2_with fail
   refine HG.out.mono ?_
   rintro _ W8 ⟨rfl,hb8⟩
   have HB8:=hid (Bn HB2.out hb8)
   have HA8:=hid (HAL.out W8 HB8.out)
   clear hb8 HG HBG HAL hm9
   go_wp2_with fail
   refine HA8.out.mono ?_
   rintro _ W9 ⟨rfl,hb9⟩
   have HB9:=hid (Bn HB8.out hb9)
   clear hb9 HA8
   go_wp2_with fail
   go_ret
   exact⟨rfl,HB9.out⟩
 ·skip
  have q:=HMK.out v0
  go_simp
  clear q
  obtain⟨v1,hw1⟩:∃V,V=v0.alloc (.cells M 5):=⟨_,rfl⟩
  rw[<-hw1]
  have hS1:Below W4.heap.size W4 v1:=by rw[hw1];exact hS0.alloc hS0.size _
  have Z1:Hid (∀V,Below v1.heap.size v1 V->(convert 22 9 (.slice (some ⟨v0.heap.size,0,none⟩) 512 512)).run Tryz.prog V= .ok (.string z) V):=fun V hV=>HZ.out v0 V (by rw[<-hw1];exact hV)
  refine hK.out _ _ hS1 (fun _=>?_)
  clear hK K hw1
  refine Qfl (S':=fun V=>Below v1.heap.size v1 V) (fun V h=>Bn hS1 h) _ _ _ _ ?_
  have hT1:Below v1.heap.size v1 v1:=Below.refl _ _
  try simp only[Ord.s1,Ord.s2,Ord.s3]
  refine Ord.tk (i:=24) (d:=59) (v:= .string z) rfl rfl ?hC24 (by assumption) ?_
  case hC24=>intro w hSw;have q:=Z1.out w hSw;go_simp;try with_reducible rfl
  simp only[Ord.s1,Ord.s2,Ord.s3]
  refine wpAnyH_ready (rs:= [21]) (by as_aux_lemma=>kernel_rfl) (by simp) (AllReadyH.cons rfl (fun K hK=>?_) AllReadyH.nil)
  go_simp
  refine(HER.out v1).mono ?_
  rintro _ v2 ⟨rfl,hw2⟩
  have hS2:Below v1.heap.size v1 v2:=by rw[hw2];exact Qbr _ _
  have Z2:Hid (∀V,Below v2.heap.size v2 V->(convert 22 9 (.slice (some ⟨v1.heap.size,0,none⟩) 512 512)).run Tryz.prog V= .ok (.string z) V):=fun V hV=>HZ.out v1 V (by rw[<-hw2];exact hV)
  refine hK.out _ _ hS2 (fun _=>?_)
  clear hK K hw2
  refine Qfl (S':=fun V=>Below v2.heap.size v2 V) (fun V h=>Bn hS2 h) _ _ _ _ ?_
  have hT2:Below v2.heap.size v2 v2:=Below.refl _ _
  try simp only[Ord.s1,Ord.s2,Ord.s3]
  refine Ord.tk (i:=22) (d:=57) (v:= .string z) rfl rfl ?hC22 (by assumption) ?_
  case hC22=>intro w hSw;have q:=Z2.out w hSw;go_simp;try with_reducible rfl
  simp only[Ord.s1,Ord.s2,Ord.s3]
  refine Ord.tk (i:=25) (d:=60) (v:= .bool false) rfl rfl ?hC25 (by assumption) ?_
  case hC25=>intro w hSw;have q:=HZS.out;have q2:=HZN.out;go_simp;try with_reducible rfl
  simp only[Ord.s1,Ord.s2,Ord.s3]
  refine Ord.tk (i:=26) (d:=61) (v:=?vC26) rfl rfl ?hC26 (by assumption) ?_
  case hC26=>intro w hSw;go_simp;try with_reducible rfl
  simp only[Ord.s1,Ord.s2,Ord.s3]
  refine wpAnyH_done (by as_aux_lemma=>kernel_rfl) ?_ _
  have HB2:=hid (Bn (Bn HB4.out hS1) hS2)
  clear hS0 hS1 hS2 hT1 hT2 Z1 Z2 HT1 HT2 HSS HSN HZS HZN HZ HMK HER
  by_cases hy:y<1∨3<y
  ·rcases hy with hy | hy
   all_goals
    go_wp2_with fail
    refine(HAL.out v2 HB2.out).mono ?_
    rintro _ W9 ⟨rfl,hb9⟩
    have HB9:=hid (Bn HB2.out hb9)
    clear hb9 HAL HBG
    go_wp2_with fail
    go_ret
    exact⟨rfl,HB9.out⟩
  ·have hy0:¬y<1:=fun h=>hy (.inl h)
   have hy1:¬3<y:=fun h=>hy (.inr h)
   obtain⟨n9,hN⟩:∃n9:Nat,(n9:Int)=4096+y:=⟨(4096+y).toNat,by omega⟩
   have hm9:=Qwh n9 (by omega) v2
   have HG:=hid (HBG.out v2 n9 (by omega) (by omega) HB2.out)
   rw[hN] at hm9
   generalize madeCells #[.int .u8 0] n9=M9 at *
   go_wp2_with fail
   refine HG.out.mono ?_
   rintro _ W8 ⟨rfl,hb8⟩
   have HB8:=hid (Bn HB2.out hb8)
   have HA8:=hid (HAL.out W8 HB8.out)
   clear hb8 HG HBG HAL hm9
   go_wp2_with fail
   refine HA8.out.mono ?_
   rintro _ W9 ⟨rfl,hb9⟩
   have HB9:=hid (Bn HB8.out hb9)
   clear hb9 HA8
   go_wp2_with fail
   go_ret
   exact⟨rfl,HB9.out⟩
set_option maxRecDepth 100000 in
theorem lifted(os:Os)(started:os.Started)(H:Type)(enc:TypeId×Value->H):
 ReturnsInHanded {} Tryz.checked os 3 .any (fun w args=>(Rows.packBytesSpec.pre enc Tryz.prog Tryz.f3 [] false w args∧laidMetH Tryz.prog Xc1 w)∧sizedMet enc Tryz.prog Tryz.f3 (OpenSpec.ofChange Rows.packBytesSpec) false w args)
  (Rows.packBytesSpec.post enc Tryz.prog Tryz.f3 false true false false):=by
 refine returnsInHanded_of_change_and (C:=Tryz.checked) (X:=fun w _=>laidMetH Tryz.prog Xc1 w) (fun _ _ _ hh h=>h.of_heap hh) own started (by kernel_rfl) Tryz.func3
  (ChangeSpec.witness_shaped (enc:=enc) (C:=Tryz.checked) (os:=os) (X:=fun w _=>laidMetH Tryz.prog Xc1 w) false (World.doorLaid Tryz.prog 400 os) #[.slice none 0 0,.int .i64 0] 8 rfl (World.shaped_of_RefB (by kernel_rfl) (by kernel_rfl)) (by kernel_rfl) (by kernel_rfl) (by kernel_rfl) (Xeb os _)) ?_
 intro W base args ds gs before hval0 hW _ _ hL _
 have hval:∀(j:Nat) t v,Tryz.f3.params[j]?=some t->args[j]?=some v->Value.okWide Tryz.prog W .any base t v:=hval0
 have hW':=hW
 obtain⟨p,q,hA0,hV,rfl,_,_⟩:=hW
 have hA:DataW.TrodAll enc Tryz.prog W 0 (fun _=>true) true Tryz.f3.params.toList args.toList ds p:=hA0
 rw[Tryz.params3] at hA hval
 obtain⟨v0,vs0,d0,ds0,p0,q0,hargs,rfl,rfl,h0,r0⟩:=trodAll_cons hA
 obtain⟨v1,vs1,d1,ds1,p1,q1,rfl,rfl,rfl,h1,r1⟩:=trodAll_cons r0
 obtain⟨rfl,rfl,rfl⟩:=trodAll_nil r1
 obtain rfl:args= #[v0,v1]:=by cases args;simp_all
 obtain⟨rfl,rfl⟩:=trodVars_none hV
 have hlaid:=Xh6 hL
 obtain⟨a1,rfl,rfl,rfl,w1⟩:=open_int Tryz.underlying3 (hval 1 3 v1 rfl rfl) h1
 clear hA0
 simp only[List.append_nil] at hW'
 have hlt0:∀x∈p0,x.block<W.heap.size:=fun x hx=>hW'.lt x (by simp[hx])
 have hk0:=h0
 obtain⟨a0,cap0,l0,rfl,hr0⟩:=Xh3 Tryz.underlying22 Tryz.underlying5 Tryz.cells5 (hval 0 22 v0 rfl rfl) h0 hlt0
 clear hval0
 refine(walk a0 cap0 l0 a1 w1 W hlaid hr0).mono fun e W' ⟨he,hb⟩=>?_
 subst he
 exact⟨_,rfl,_,_,_,[]++ [],_,[],hW',trodAll_cons_mk (shut_bool Tryz.underlying4 _) trodAll_mk0,(trodAll_cons_mk (Below.trod Tryz.laidOut (by kernel_rfl) (of_decide_eq_true (by kernel_rfl)) hk0 hb hlt0) (trodAll_cons_mk (shut_int Tryz.underlying3 w1) trodAll_mk0)),rfl,hb.frame _,fun h=>by cases h⟩
theorem over:Rows.packBytesRow.holds Tryz.pinned (OpenSpec.ofChange Rows.packBytesSpec):=
 OpenClaim.holds_of_wide 3 Tryz.f3 rfl rfl rfl rfl rfl rfl rfl ⟨rfl,rfl,rfl,rfl,rfl⟩ rfl rfl rfl rfl rfl (by kernel_rfl) Tryz.func3 (by kernel_rfl)
  (of_decide_eq_true (by kernel_rfl)) (by unfold Func.isWrapper;first | (rw[if_pos (by decide +kernel)];kernel_rfl) | (rw[if_neg (by decide +kernel)];exact⟨rfl,rfl⟩))
  (fun os started H enc _=>lifted os started H enc)
theorem card:Rows.PackBytesCardSaid:=
 Claim7.holds_tied_plain_at .later [] [.data,.data] true (true, "633fa4ac238961f8ea75229e9571942cafb5f99988f42aab7627898757faa6c6") true
  over (fun _ h=>by cases h) (by kernel_rfl) (fun _ h=>by cases h) packBytes_row_tie rfl ⟨rfl,rfl⟩ (by kernel_rfl) rfl
  (fun f fn hf hfn=>by
   obtain rfl:f=3:=Option.some.inj ((show Tryz.prog.funcNamed "saltern/salternlaw11.PackBytes" = some 3 by kernel_rfl).symm.trans hf) |>.symm
   obtain rfl:fn=Tryz.f3:=(Option.some.inj (Tryz.func3.symm.trans hfn)).symm
   exact⟨by kernel_rfl,fun j t ht=>by
    rw[Tryz.params3] at ht
    have hm:t ∈ [22,3]:=by simpa using Array.mem_of_getElem? ht
    have hall:([22,3].all fun u=> !Tryz.prog.wantsStandIn u)=true:=by kernel_rfl
    exact(show Tryz.prog.wantsStandIn t=false by simpa using List.all_eq_true.1 hall t hm)⟩)
  (by kernel_rfl)
end Go.Proofs.YtibjlbcnapoblaaGreatDoor.packBytes
namespace Go.Proofs.YtibjlbcnapoblaaGreatDoor
theorem packBytes_holds:Rows.PackBytesCardSaid:=packBytes.card
#print axioms packBytes_holds
end Go.Proofs.YtibjlbcnapoblaaGreatDoor
