/- Contracts and facts. -/
import Derived.Test.YtibjlbcnapoblaaGreatDoorPart34
namespace Go.Proofs.YtibjlbcnapoblaaGreatDoor
set_option maxRecDepth 100000
set_option maxHeartbeats 6400000
section
open Go.RowKit Hf Lz
theorem Qud(w:World){ops:Array Oper}{rest:List Oper}{o:Oper}{ac:Act}{Q:Exit->Act->World->Prop}(hgd:o.guard=none)(s x:Operand)
 (ho:o.op= .call {callee:= .builtin .append,args:= #[s,x],argTypes:= #[121,121]}) (B:Nat) (v:Value) (l:List Bool) (hs:ac.eval s=v) (hown:w.ownsRow B 4 1 v l.length (l.map Value.bool))
 (B2:Nat) (vx:Value) (bs:List Bool) (hx:ac.eval x=vx) (hox:w.ownsRow B2 4 1 vx bs.length (bs.map Value.bool)) (hbd:l.length+bs.length<=1000000) (hB:B<=w.heap.size)
 (h:∀v' w',w'.ownsRow B 4 1 v' (l++bs).length ((l++bs).map Value.bool)->w.grownBy w' v.ownBlock->wpList Tryz.prog ops Q rest (ac.put o.dst v') w'):wpList Tryz.prog ops Q (o::rest) ac w:=
 wpList_plain hgd fun _ hK=>Qtn w s x ho B v l hs hown B2 vx bs hx hox hbd hB (fun v' w' h1 h2=>hK _ _ (h v' w' h1 h2))
theorem Xdg(a:Option Addr)(cap:Nat)(l:List Tkz)(w:World)(hr:Rt w a cap l)(hn:l.length<=20000)(hz:(Qbs l).2=0):
 Calls Tryz.prog 47 #[.slice a l.length cap] w fun e w'=>∃v,e= .returned (.tuple #[v,.int .i64 0])∧w'.ownsRow w.heap.size 5 1 v (Qfy l).length ((Qfy l).map (Value.int .u8))∧Below w.heap.size w w':=by
 have hall:=Qgn hz
 have HS:=hid (Qvd a cap l w hr (by omega))
 rw[hz] at HS
 have HR:=hid hr
 have hroom:=hr.room
 have HALL:=hid hall
 have HCN:Hid (∀W,Below w.heap.size w W->Calls Tryz.prog 71 #[.slice a l.length cap] W fun e w'=>∃ga gd,e= .returned (.tuple #[.slice (some ⟨ga,0,none⟩) 511 511,.slice (some ⟨gd,0,none⟩) 13 13])∧Ri w' .i64 (some ⟨ga,0,none⟩) 511 (Qfz (Qaw l l.length))∧Ri w' .i64 (some ⟨gd,0,none⟩) 13 (Qfz (Qar l l.length))∧Below W.heap.size W w'):=fun W hW=>Que a cap l W (HR.out.later hW) (by omega) hall
 have hKL:(Qfz (Qaw l l.length)).length=511:=by rw[Qa9,Qbk]
 have hDL:(Qfz (Qar l l.length)).length=13:=by rw[Qa9,Qa5]
 have hKA:=Qhe (Qaw l l.length) (by rw[Qbk];omega) (fun j=>by have:=Qgb l l.length j;omega)
 have hDA:=Qhe (Qar l l.length) (by rw[Qa5];omega) (fun j=>by have:=Qe2 l l.length j;omega)
 have hKS:=Qin (Qfz (Qaw l l.length)) (by omega) (Qdt hKA).2
 have hDS:=Qin (Qfz (Qar l l.length)) (by omega) (Qdt hDA).2
 have HLS:Hid (lsF l=Qgu (Qfz (Qaw l l.length))):=rfl
 have HDS:Hid (dsF l=Qgu (Qfz (Qar l l.length))):=rfl
 have HDOC:Hid (Qfy l=Qcu (Qgu (Qfz (Qaw l l.length)))++Qcu (Qgu (Qfz (Qar l l.length)))++Qeb (l.length:Int)++Qbw (nB (Qhn (Qgu (Qfz (Qaw l l.length))) (Qgu (Qfz (Qar l l.length))) l l.length) (Qhn (Qgu (Qfz (Qaw l l.length))) (Qgu (Qfz (Qar l l.length))) l l.length).length) (Qhn (Qgu (Qfz (Qaw l l.length))) (Qgu (Qfz (Qar l l.length))) l l.length).length):=rfl
 clear HLS HDS hz hall hr
 generalize Qfy l=DOC at *
 generalize Qfz (Qaw l l.length)=KC at *
 generalize Qfz (Qar l l.length)=DC at *
 have HKF:=hid (fun(W:World) (g:Nat) (h:Ri W .i64 (some ⟨g,0,none⟩) 511 KC)=>Xg1 _ _ KC 511 W h hKA hKL (by omega))
 have HDF:=hid (fun(W:World) (g:Nat) (h:Ri W .i64 (some ⟨g,0,none⟩) 13 DC)=>Xg1 _ _ DC 13 W h hDA hDL (by omega))
 rw[hKL] at hKS
 rw[hDL] at hDS
 have HKS:=hid hKS
 have HDS:=hid hDS
 clear hKA hDA hKL hDL hKS hDS
 generalize Qgu KC=LS at *
 generalize Qgu DC=DS at *
 have HLR:=hid (Qdr HKS.out.2).2
 have HDR:=hid (Qdr HDS.out.2).2
 have HB42:Hid (∀k,k<=l.length->(Qhn LS DS l k).length<=42*k):=Qvk LS DS (fun j=>(HLR.out j).2) (fun j=>(HDR.out j).2) l (fun j hj=>by
  have h8:=wf_u8 (HR.out.fits j hj).2.2
  rcases Qf8 (HALL.out j hj) h8 with h | h
  ·omega
  ·exact h.2.1)
 obtain⟨len,hle⟩:∃n,n=l.length:=⟨_,rfl⟩
 have HL:=hid hle
 rw[<-hle] at hn hroom HS HCN HDOC HB42|-
 clear hle
 go_enter Tryz.func47,Tryz.ntmps47
 go_wp2_with fail
 refine HS.out.mono ?_
 rintro _ w1 ⟨rfl,hb1⟩
 have HB1:=hid hb1
 clear hb1 HS
 go_wp2_with fail
 refine(HCN.out w1 HB1.out).mono ?_
 rintro _ w2 ⟨ga,gd,rfl,hka,hkd,hb2⟩
 have HB2:=hid (Bn HB1.out hb2)
 have HKA:=hid hka
 have HKD:=hid hkd
 clear hb2 hka hkd HB1 HCN
 go_wp2_with fail
 refine(HKF.out w2 ga HKA.out).mono ?_
 rintro _ w3 ⟨x1,y1,rfl,hl1,hb3⟩
 have HB3:=hid (Bn HB2.out hb3)
 have HL1:=hid hl1
 have HKD3:=hid (HKD.out.later hb3)
 clear hl1 hb3 HB2 HKA HKD HKF
 go_wp2_with fail
 refine(HDF.out w3 gd HKD3.out).mono ?_
 rintro _ w4 ⟨x2,y2,rfl,hl2,hb4⟩
 have HB4:=hid (Bn HB3.out hb4)
 have HL14:=hid (HL1.out.later hb4)
 have HL24:=hid hl2
 clear hl2 hb4 HB3 HL1 HKD3 HDF
 go_wp2_with fail
 refine(Xhi x1 y1 LS 511 w4 HL14.out HKS.out.1 (by omega) HLR.out).mono ?_
 rintro _ w5 ⟨v5,rfl,ho5,hb5⟩
 have HO5:=hid ho5
 have HB5:=hid hb5
 clear ho5 hb5
 go_wp2_with fail
 refine(Xhi x2 y2 DS 13 w5 (HL24.out.later HB5.out) HDS.out.1 (by omega) HDR.out).mono ?_
 rintro _ w6 ⟨v6,rfl,ho6,hb6⟩
 obtain⟨x6,y6,rfl,hr6⟩:=Ri.own ho6 (fun j=>Qbb (Qjo DS (by rw[HDS.out.1];omega) HDR.out j).1 (Qjo DS (by rw[HDS.out.1];omega) HDR.out j).2)
 have HO6:=hid (Qaz HO5.out hb6)
 have HB6:=hid (Bn HB5.out hb6)
 have HR6:=hid hr6
 have HRL1:=hid (Qk1 LS (by rw[HKS.out.1];omega))
 have HRL2:=hid (Qk1 DS (by rw[HDS.out.1];omega))
 rw[HKS.out.1] at HRL1
 rw[HDS.out.1] at HRL2
 have h6:=HB6.out.size
 clear ho6 hb6 hr6 HO5 HB5
 generalize Qcu LS=R1 at *
 generalize Qcu DS=R2 at *
 go_wp2_with (at_builtin;refine Qc2 _ rfl _ _ rfl w4.heap.size _ R1 rfl HO6.out x6 y6 R2 rfl HR6.out (by have:=HRL1.out;have:=HRL2.out;omega) h6 ?_)
 intro v7 w7 ho7 hg7
 have HB7:=hid (HB6.out.grown hg7 h6 (fun j hj=>(HO6.out.lt j hj).1))
 have HO7:Hid (w7.ownsRow w4.heap.size 5 1 v7 (R1++R2).length ((R1++R2).map (Value.int .u8))):=by
  show World.ownsRow _ _ _ _ _ _ _
  first | exact ho7 | (rw[List.length_append,List.map_append];exact ho7) | (simp only[List.length_append,List.map_append] at ho7|-;simpa [Nat.add_assoc] using ho7)
 clear ho7 hg7 HO6 HB6 HR6 h6
 go_wp2_with fail
 refine(Qot (len:Int) w7 (by omega) (by omega)).mono ?_
 rintro _ w8 ⟨x8,y8,rfl,hr8,hb8⟩
 have HB8:=hid (Bn HB7.out hb8)
 have HO8:=hid (Qaz HO7.out hb8)
 have HR8:=hid hr8
 have HVL:=hid (Qvh (len:Int) (by omega) (by omega))
 have h8:=HB8.out.size
 clear hb8 hr8 HB7 HO7
 generalize Qeb (len:Int)=VI at *
 go_wp2_with (at_builtin;refine Qc2 _ rfl _ _ rfl w4.heap.size _ (R1++R2) rfl HO8.out x8 y8 VI rfl HR8.out (by have:=HRL1.out;have:=HRL2.out;have:=HVL.out;rw[List.length_append];omega) h8 ?_)
 intro v9 w9 ho9 hg9
 have HB9:=hid (HB8.out.grown hg9 h8 (fun j hj=>(HO8.out.lt j hj).1))
 have HO9:Hid (w9.ownsRow w4.heap.size 5 1 v9 (R1++R2++VI).length ((R1++R2++VI).map (Value.int .u8))):=by
  show World.ownsRow _ _ _ _ _ _ _
  first | exact ho9 | (simp only[List.length_append,List.map_append] at ho9|-;first | exact ho9 | simpa [Nat.add_assoc] using ho9)
 have HL19:=hid (HL14.out.later HB9.out)
 have HL29:=hid (HL24.out.later HB9.out)
 clear ho9 hg9 HO8 HB8 HR8 h8 HL14 HL24
 go_wp2_with fail
 refine(Qux x1 y1 LS 511 w9 HL19.out HKS.out.2 HKS.out.1).mono ?_
 rintro _ w10 ⟨x3,y3,rfl,hc3,hb10⟩
 have HB10:=hid (Bn HB9.out hb10)
 have HO10:=hid (Qaz HO9.out hb10)
 have HC10:=hid hc3
 have HL110:=hid (HL19.out.later hb10)
 have HL210:=hid (HL29.out.later hb10)
 clear hb10 hc3 HB9 HO9 HL19 HL29
 go_wp2_with fail
 refine(Qux x2 y2 DS 13 w10 HL210.out HDS.out.2 HDS.out.1).mono ?_
 rintro _ w11 ⟨x4,y4,rfl,hc4,hb11⟩
 have HB11:=hid (Bn HB10.out hb11)
 have HO11:=hid (Qaz HO10.out hb11)
 have HCK:=hid (HC10.out.later hb11)
 have HCD:=hid hc4
 have HLK:=hid (HL110.out.later hb11)
 have HLD:=hid (HL210.out.later hb11)
 clear hb11 hc4 HB10 HO10 HC10 HL110 HL210
 have HBW:=hid (HB4.out.trans (HB11.out.mono HB4.out.size))
 go_wp2_with fail
 obtain⟨b1,o1,rfl,hb1,hc1⟩:=HLK.out.cells (by rw[HKS.out.1];omega)
 obtain⟨b2,o2,rfl,hb2,hc2⟩:=HLD.out.cells (by rw[HDS.out.1];omega)
 obtain⟨b3,o3,rfl,hb3,hc3⟩:=HCK.out.cells (by rw[Qaq,HKS.out.1];omega)
 obtain⟨b4,o4,rfl,hb4,hc4⟩:=HCD.out.cells (by rw[Qaq,HDS.out.1];omega)
 rw[HKS.out.1] at hc1
 rw[HDS.out.1] at hc2
 rw[Qaq,HKS.out.1] at hc3
 rw[Qaq,HDS.out.1] at hc4
 have HCC:Hid (∀V,Below w11.heap.size w11 V->∀s,s<511->V.cell? ⟨b3,o3+s,none⟩=some (.int .u16 ((Qaj LS).getD s 0))∧V.cell? ⟨b1,o1+s,none⟩=some (.int .i64 (LS.getD s 0))):=fun V hV s hs=>
  ⟨(hV.cell (p:=⟨b3,o3+s,none⟩) hb3).trans (hc3 s hs),(hV.cell (p:=⟨b1,o1+s,none⟩) hb1).trans (hc1 s hs)⟩
 have HDD:Hid (∀V,Below w11.heap.size w11 V->∀s,s<13->V.cell? ⟨b4,o4+s,none⟩=some (.int .u16 ((Qaj DS).getD s 0))∧V.cell? ⟨b2,o2+s,none⟩=some (.int .i64 (DS.getD s 0))):=fun V hV s hs=>
  ⟨(hV.cell (p:=⟨b4,o4+s,none⟩) hb4).trans (hc4 s hs),(hV.cell (p:=⟨b2,o2+s,none⟩) hb2).trans (hc2 s hs)⟩
 have hy1:=HLK.out.room
 have hy2:=HLD.out.room
 have hy3:=HCK.out.room
 have hy4:=HCD.out.room
 rw[HKS.out.1] at hy1
 rw[HDS.out.1] at hy2
 rw[Qaq,HKS.out.1] at hy3
 rw[Qaq,HDS.out.1] at hy4
 clear hc1 hc2 hc3 hc4 hb1 hb2 hb3 hb4 HLK HLD HCK HCD
 have HDOC2:=HDOC
 clear HDOC
 go_loopw [17,18] (fun v i wr=>∃k:Nat,k<=len∧i= .int .i64 (k:Int)∧Hid (wr.ownsRow w11.heap.size 4 1 v (Qhn LS DS l k).length ((Qhn LS DS l k).map Value.bool))∧Hid (Below w11.heap.size w11 wr)) (fun _ i _=>len-(intOf i).toNat)
 case atStart=>exact⟨0,by omega,rfl,World.ownsRow_nil _ _ _ _,Below.refl _ _⟩
 case round=>
  obtain⟨k,hk,rfl,HO,HB⟩:=hrel
  by_cases hlt:k<len
  ·have hkz:(k:Int)<(len:Int):=by omega
   obtain⟨b,off,rfl,hbw,hc⟩:=HR.out.cells (by rw[<-HL.out];omega)
   obtain⟨c0,c1,c2⟩:=hc k (by rw[<-HL.out];exact hlt)
   have HD0:Hid (∀V,Below w11.heap.size w11 V->V.cell? ⟨b,off+k*3,none⟩=some (.int .i64 (l.getD k tk0).1)∧V.cell? ⟨b,off+k*3+1,none⟩=some (.int .i64 (l.getD k tk0).2.1)∧V.cell? ⟨b,off+k*3+2,none⟩=some (.int .u8 (l.getD k tk0).2.2)):=fun V hV=>by
    have h:=HBW.out.trans (hV.mono HBW.out.size)
    exact⟨(h.cell (p:=⟨b,off+k*3,none⟩) hbw).trans c0,(h.cell (p:=⟨b,off+k*3+1,none⟩) hbw).trans c1,(h.cell (p:=⟨b,off+k*3+2,none⟩) hbw).trans c2⟩
   have h8:=wf_u8 (HR.out.fits k (by rw[<-HL.out];exact hlt)).2.2
   have htwo:=Qf8 (HALL.out k (by rw[<-HL.out];exact hlt)) h8
   have HCS:=hid (Qlo (l.getD k tk0) wr (by rcases htwo with h | h;exact Or.inl h.1;exact Or.inr ⟨h.2.2.1,h.2.2.2.1⟩) h8)
   have HBT:Hid (Qhn LS DS l (k+1)=Qhn LS DS l k++Qsq LS DS (l.getD k tk0)):=rfl
   have HBL:Hid ((Qhn LS DS l k).length<=840000):=by show _<=_;have:=HB42.out k (by omega);omega
   obtain⟨A1,hA1⟩:∃x,x=Qhn LS DS l (k+1):=⟨_,rfl⟩
   rw[<-hA1] at HBT
   have HA1:=hid hA1
   clear hc c0 c1 c2 h8 hA1
   generalize l.getD k tk0=t at *
   have hsr:0<=Qfa t∧Qfa t<511:=by rcases htwo with h | h;exact h.2;exact h.2.2.2.2
   obtain⟨s,hs⟩:=Int.eq_ofNat_of_zero_le hsr.1
   have hs5:s<511:=by omega
   have hs511:(s:Int)<511:=by omega
   have hd:t.1=0∨(1<=t.1∧t.1<=4096):=by rcases htwo with h | h;exact Or.inl h.1;exact Or.inr ⟨h.1,h.2.1⟩
   unfold Qsq at HBT
   rw[hs] at HCS HBT
   rw[Int.toNat_natCast] at HBT
   obtain⟨c,hcv⟩:=Int.eq_ofNat_of_zero_le (Qc5 LS s).1
   have hc16:c<65536:=by have:=(Qc5 LS s).2;omega
   obtain⟨n,hnv⟩:=Int.eq_ofNat_of_zero_le (HLR.out s).1
   have hn15:n<=15:=by have:=(HLR.out s).2;omega
   have HCA:Hid (∀V,Below w11.heap.size w11 V->V.cell? ⟨b3,o3+s,none⟩=some (.int .u16 (c:Int))∧V.cell? ⟨b1,o1+s,none⟩=some (.int .i64 (n:Int))):=fun V hV=>by
    have:=HCC.out V hV s hs5
    rwa[hcv,hnv] at this
   rw[hcv,hnv,Int.toNat_natCast,Int.toNat_natCast] at HBT
   have HBA:Hid (∀V:World,Calls Tryz.prog 76 #[.int .u16 (c:Int),.int .i64 (n:Int)] V fun e w'=>∃v,e= .returned v∧w'.ownsRow V.heap.size 4 1 v (Qct c n).length ((Qct c n).map Value.bool)∧Below V.heap.size V w'):=fun V=>Qoz c n V hc16 (by omega)
   clear htwo hs hsr hcv hnv hc16 hs5
   generalize Qhn LS DS l k=A0 at *
   obtain⟨d,m,x⟩:=t
   unfold zC at HCS
   dsimp only at *
   obtain⟨d0,d1,d2⟩:=HD0.out wr HB.out
   go_wp2_with fail
   refine HCS.out.mono ?_
   rintro _ wS ⟨rfl,hbS⟩
   have HBS:=hid (Bn HB.out hbS)
   have HOS:=hid (Qaz HO.out hbS)
   clear hbS HCS d0 d1 d2 HO HB
   go_wp2_with fail
   refine wp_region_held_drew (S:=fun V=>Below w11.heap.size w11 V) (by kernel_rfl) HBS.out.drew (fun hS0=>?_)
   have HOA:=hid HOS.out.drew
   clear HOS HBS
   generalize wS.drew=wD at *
   refine Ord.tk (i:=0) (d:=76) (v:=?vA0) rfl rfl ?hA0 (by assumption) ?_
   case hA0=>intro w hSw;go_simp;try with_reducible rfl
   simp only[Ord.s1,Ord.s2,Ord.s3]
   refine Ord.tk (i:=1) (d:=77) (v:=?vA1) rfl rfl ?hA1 (by assumption) ?_
   case hA1=>intro w hSw;go_simp;try with_reducible rfl
   simp only[Ord.s1,Ord.s2,Ord.s3]
   refine Ord.tk (i:=2) (d:=78) (v:=?vA2) rfl rfl ?hA2 (by assumption) ?_
   case hA2=>intro w hSw;go_simp;try with_reducible rfl
   simp only[Ord.s1,Ord.s2,Ord.s3]
   refine Ord.tk (i:=3) (d:=79) (v:=?vA3) rfl rfl ?hA3 (by assumption) ?_
   case hA3=>intro w hSw;go_simp;try with_reducible rfl
   simp only[Ord.s1,Ord.s2,Ord.s3]
   refine Ord.tk (i:=4) (d:=80) (v:= .int .u16 (c:Int)) rfl rfl ?hA4 (by assumption) ?_
   case hA4=>intro w hSw;obtain⟨e,e'⟩:=HCA.out w hSw;go_simp;try with_reducible rfl
   simp only[Ord.s1,Ord.s2,Ord.s3]
   refine Ord.tk (i:=5) (d:=81) (v:=?vA5) rfl rfl ?hA5 (by assumption) ?_
   case hA5=>intro w hSw;go_simp;try with_reducible rfl
   simp only[Ord.s1,Ord.s2,Ord.s3]
   refine Ord.tk (i:=6) (d:=82) (v:=?vA6) rfl rfl ?hA6 (by assumption) ?_
   case hA6=>intro w hSw;go_simp;try with_reducible rfl
   simp only[Ord.s1,Ord.s2,Ord.s3]
   refine Ord.tk (i:=7) (d:=83) (v:=?vA7) rfl rfl ?hA7 (by assumption) ?_
   case hA7=>intro w hSw;go_simp;try with_reducible rfl
   simp only[Ord.s1,Ord.s2,Ord.s3]
   refine Ord.tk (i:=8) (d:=84) (v:= .int .i64 (n:Int)) rfl rfl ?hA8 (by assumption) ?_
   case hA8=>intro w hSw;obtain⟨e,e'⟩:=HCA.out w hSw;go_simp;try with_reducible rfl
   simp only[Ord.s1,Ord.s2,Ord.s3]
   refine wpAnyH_ready (rs:= [9]) (by as_aux_lemma=>kernel_rfl) (by simp) (AllReadyH.cons rfl (fun K hK=>?_) AllReadyH.nil)
   go_simp
   refine(HBA.out _).mono ?_
   rintro _ zA ⟨qA,rfl,hoA,hbA⟩
   have hSA:Below w11.heap.size w11 zA:=Bn (by assumption) hbA
   refine hK.out _ _ hSA (fun _=>?_)
   have hOA:=Qaz HOA.out hbA
   clear hK K
   try simp only[Ord.s1,Ord.s2,Ord.s3]
   refine wpAnyH_ready (rs:= [10]) (by as_aux_lemma=>kernel_rfl) (by simp) (AllReadyH.cons rfl (fun K hK=>?_) AllReadyH.nil)
   refine Qtn _ (.tmp 76) (.tmp 85) rfl w11.heap.size _ A0 rfl hOA _ _ (Qct c n) rfl hoA (by have:=HBL.out;rw[Qbi];omega) hSA.size ?_
   intro pA yA hnA hgA
   have hTA:Below w11.heap.size w11 yA:=hSA.grown hgA hSA.size (fun j hj=>(hOA.lt j hj).1)
   refine hK.out _ _ hTA (fun _=>?_)
   have HO1:=hid hnA
   have HBAo:=hid hTA
   clear hK K hnA hgA hOA hoA hbA HOA
   refine Ord.put (d:=86) rfl ?_
   try simp only[Ord.s1,Ord.s2,Ord.s3]
   refine Ord.tk (i:=11) (d:=17) (v:=pA) rfl rfl ?hA11 (by assumption) ?_
   case hA11=>intro w hSw;go_simp;try with_reducible rfl
   simp only[Ord.s1,Ord.s2,Ord.s3]
   refine wpAnyH_done (by as_aux_lemma=>kernel_rfl) ?_ _
   clear hSA hTA hS0
   obtain⟨d0,d1,d2⟩:=HD0.out yA HBAo.out
   rcases hd with hd | hd
   ·subst hd
    have HE:Hid (A1=A0++Qct c n):=by show _=_;rw[HBT.out,if_neg (by omega),List.append_nil]
    rw[<-HE.out] at HO1
    clear HE HBT HCA HBA HBL
    go_wp2
    exact⟨⟨k+1,by omega,by go_num,by rw[<-HA1.out];exact HO1.out,HBAo.out⟩,by simp[intOf];omega⟩
   ·obtain⟨hd1,hd2⟩:=hd
    have hdr:=Qe7 hd1 hd2
    obtain⟨q,hq⟩:=Int.eq_ofNat_of_zero_le hdr.1
    have hq13:(q:Int)<13:=by omega
    have hq3:q<13:=by omega
    obtain⟨dn,hdn⟩:=Int.eq_ofNat_of_zero_le (show 0<=d by omega)
    subst hdn
    have HDW:Hid (∀V,Calls Tryz.prog 77 #[.int .i64 (dn:Int)] V fun e w'=>e= .returned (.int .i64 (q:Int))∧w'=V):=fun V=>by
     have:=Qqw (dn:Int) V hd1 hd2
     rwa[hq] at this
    obtain⟨c2,hcv2⟩:=Int.eq_ofNat_of_zero_le (Qc5 DS q).1
    have hc26:c2<65536:=by have:=(Qc5 DS q).2;omega
    obtain⟨n2,hnv2⟩:=Int.eq_ofNat_of_zero_le (HDR.out q).1
    have hn25:n2<=15:=by have:=(HDR.out q).2;omega
    have HCB:Hid (∀V,Below w11.heap.size w11 V->V.cell? ⟨b4,o4+q,none⟩=some (.int .u16 (c2:Int))∧V.cell? ⟨b2,o2+q,none⟩=some (.int .i64 (n2:Int))):=fun V hV=>by
     have:=HDD.out V hV q hq3
     rwa[hcv2,hnv2] at this
    have HE:Hid (A1=A0++Qct c n++Qct c2 n2++Qct dn q):=by
     show _=_
     rw[HBT.out,if_pos (by omega),hq,Int.toNat_natCast,hcv2,hnv2,Int.toNat_natCast,Int.toNat_natCast,Int.toNat_natCast]
     simp
    have HBB:Hid (∀V:World,Calls Tryz.prog 76 #[.int .u16 (c2:Int),.int .i64 (n2:Int)] V fun e w'=>∃v,e= .returned v∧w'.ownsRow V.heap.size 4 1 v (Qct c2 n2).length ((Qct c2 n2).map Value.bool)∧Below V.heap.size V w'):=fun V=>Qoz c2 n2 V hc26 (by omega)
    have HBD:Hid (∀V:World,Calls Tryz.prog 76 #[.int .u16 (dn:Int),.int .i64 (q:Int)] V fun e w'=>∃v,e= .returned v∧w'.ownsRow V.heap.size 4 1 v (Qct dn q).length ((Qct dn q).map Value.bool)∧Below V.heap.size V w'):=fun V=>Qoz dn q V (by omega) (by omega)
    have HBL2:Hid ((A0++Qct c n).length<=840015):=by show _<=_;have:=HBL.out;rw[List.length_append,Qbi];omega
    have hdpos:(dn:Int)>0:=by omega
    clear hdr hq hcv2 hnv2 hc26 hq3 HBT HCA HBA HBL
    generalize A0++Qct c n=B0 at *
    go_wp2_with fail
    go_at_call 77
    refine(HDW.out _).mono ?_
    rintro _ w5b ⟨rfl,hw⟩
    obtain rfl:=hw.symm
    clear hw HDW d0 d1 d2
    go_wp2_with fail
    refine wp_region_held_drew (S:=fun V=>Below w11.heap.size w11 V) (by kernel_rfl) HBAo.out.drew (fun hS0=>?_)
    have HOB:=hid HO1.out.drew
    clear HO1 HBAo
    generalize yA.drew=wE at *
    refine Ord.tk (i:=0) (d:=99) (v:=?vB0) rfl rfl ?hB0 (by assumption) ?_
    case hB0=>intro w hSw;go_simp;try with_reducible rfl
    simp only[Ord.s1,Ord.s2,Ord.s3]
    refine Ord.tk (i:=1) (d:=100) (v:=?vB1) rfl rfl ?hB1 (by assumption) ?_
    case hB1=>intro w hSw;go_simp;try with_reducible rfl
    simp only[Ord.s1,Ord.s2,Ord.s3]
    refine Ord.tk (i:=2) (d:=101) (v:=?vB2) rfl rfl ?hB2 (by assumption) ?_
    case hB2=>intro w hSw;go_simp;try with_reducible rfl
    simp only[Ord.s1,Ord.s2,Ord.s3]
    refine Ord.tk (i:=3) (d:=102) (v:=?vB3) rfl rfl ?hB3 (by assumption) ?_
    case hB3=>intro w hSw;go_simp;try with_reducible rfl
    simp only[Ord.s1,Ord.s2,Ord.s3]
    refine Ord.tk (i:=4) (d:=103) (v:= .int .u16 (c2:Int)) rfl rfl ?hB4 (by assumption) ?_
    case hB4=>intro w hSw;obtain⟨e,e'⟩:=HCB.out w hSw;go_simp;try with_reducible rfl
    simp only[Ord.s1,Ord.s2,Ord.s3]
    refine Ord.tk (i:=5) (d:=104) (v:=?vB5) rfl rfl ?hB5 (by assumption) ?_
    case hB5=>intro w hSw;go_simp;try with_reducible rfl
    simp only[Ord.s1,Ord.s2,Ord.s3]
    refine Ord.tk (i:=6) (d:=105) (v:=?vB6) rfl rfl ?hB6 (by assumption) ?_
    case hB6=>intro w hSw;go_simp;try with_reducible rfl
    simp only[Ord.s1,Ord.s2,Ord.s3]
    refine Ord.tk (i:=7) (d:=106) (v:=?vB7) rfl rfl ?hB7 (by assumption) ?_
    case hB7=>intro w hSw;go_simp;try with_reducible rfl
    simp only[Ord.s1,Ord.s2,Ord.s3]
    refine Ord.tk (i:=8) (d:=107) (v:= .int .i64 (n2:Int)) rfl rfl ?hB8 (by assumption) ?_
    case hB8=>intro w hSw;obtain⟨e,e'⟩:=HCB.out w hSw;go_simp;try with_reducible rfl
    simp only[Ord.s1,Ord.s2,Ord.s3]
    refine wpAnyH_ready (rs:= [9]) (by as_aux_lemma=>kernel_rfl) (by simp) (AllReadyH.cons rfl (fun K hK=>?_) AllReadyH.nil)
    go_simp
    refine(HBB.out _).mono ?_
    rintro _ zB ⟨qB,rfl,hoB,hbB⟩
    have hSB:Below w11.heap.size w11 zB:=Bn (by assumption) hbB
    refine hK.out _ _ hSB (fun _=>?_)
    have hOB:=Qaz HOB.out hbB
    clear hK K
    try simp only[Ord.s1,Ord.s2,Ord.s3]
    refine wpAnyH_ready (rs:= [10]) (by as_aux_lemma=>kernel_rfl) (by simp) (AllReadyH.cons rfl (fun K hK=>?_) AllReadyH.nil)
    refine Qtn _ (.tmp 99) (.tmp 108) rfl w11.heap.size _ B0 rfl hOB _ _ (Qct c2 n2) rfl hoB (by have:=HBL2.out;rw[Qbi];omega) hSB.size ?_
    intro pB yB hnB hgB
    have hTB:Below w11.heap.size w11 yB:=hSB.grown hgB hSB.size (fun j hj=>(hOB.lt j hj).1)
    refine hK.out _ _ hTB (fun _=>?_)
    have HO2:=hid hnB
    have HBBo:=hid hTB
    clear hK K hnB hgB hOB hoB hbB HOB
    refine Ord.put (d:=109) rfl ?_
    try simp only[Ord.s1,Ord.s2,Ord.s3]
    refine Ord.tk (i:=11) (d:=17) (v:=pB) rfl rfl ?hB11 (by assumption) ?_
    case hB11=>intro w hSw;go_simp;try with_reducible rfl
    simp only[Ord.s1,Ord.s2,Ord.s3]
    refine wpAnyH_done (by as_aux_lemma=>kernel_rfl) ?_ _
    clear hSB hTB hS0
    obtain⟨d0,d1,d2⟩:=HD0.out yB HBBo.out
    have HBL3:Hid ((B0++Qct c2 n2).length<=840030):=by show _<=_;have:=HBL2.out;rw[List.length_append,Qbi];omega
    clear HBL2 HCB HBB
    generalize B0++Qct c2 n2=C0 at *
    go_wp2_with fail
    refine(HBD.out _).mono ?_
    rintro _ w6b ⟨v6b,rfl,ho6,hb6⟩
    have HB6:=hid (Bn HBBo.out hb6)
    have HO6:=hid (Qaz HO2.out hb6)
    have HX6:=hid ho6
    have h6:=HB6.out.size
    have HE2:Hid (C0.length+(Qct dn q).length<=1000000):=by show _<=_;have:=HBL3.out;rw[Qbi];omega
    clear ho6 hb6 HBBo HO2 HBD HBL3 d0 d1 d2
    generalize Qct dn q=BQ at *
    go_wp2_with (at_builtin;refine Qud _ rfl _ _ rfl w11.heap.size _ C0 rfl HO6.out _ _ BQ rfl HX6.out HE2.out h6 ?_)
    intro v7b w7b ho7 hg7
    have HB7:=hid (HB6.out.grown hg7 h6 (fun j hj=>(HO6.out.lt j hj).1))
    have HO7:Hid (w7b.ownsRow w11.heap.size 4 1 v7b A1.length (A1.map Value.bool)):=by
     show World.ownsRow _ _ _ _ _ _ _
     rw[HE.out]
     first | exact ho7 | (simp only[List.length_append,List.map_append] at ho7|-;exact ho7)
    clear ho7 hg7 HO6 HB6 HX6 h6 HE2 HE
    go_wp2
    exact⟨⟨k+1,by omega,by go_num,by rw[<-HA1.out];exact HO7.out,HB7.out⟩,by simp[intOf];omega⟩
  ·obtain rfl:k=len:=by omega
   obtain⟨ab,cb,rfl,hrb⟩:=Rb.own HO.out
   have hbl:(Qhn LS DS l k).length<=840000:=by have:=HB42.out k (by omega);omega
   have HP:=hid (Xfp ab cb (Qhn LS DS l k) wr hrb (by omega))
   have HO9:=hid (Qaz HO11.out HB.out)
   have HB9:=hid (HB11.out.trans (HB.out.mono HB11.out.size))
   have HPL:Hid ((Qbw (nB (Qhn LS DS l k) (Qhn LS DS l k).length) (Qhn LS DS l k).length).length<=110000):=by show _<=_;rw[Qbr];omega
   have HPR:=hid (Qgz (nB (Qhn LS DS l k) (Qhn LS DS l k).length) (Qhn LS DS l k).length)
   have HRL:Hid ((R1++R2++VI).length<=10000):=by show _<=_;have:=HRL1.out;have:=HRL2.out;have:=HVL.out;rw[List.length_append,List.length_append];omega
   clear hrb hbl HO HB HB42
   generalize Qbw (nB (Qhn LS DS l k) (Qhn LS DS l k).length) (Qhn LS DS l k).length=PK at *
   generalize (Qhn LS DS l k).length=BN at *
   generalize R1++R2++VI=RV at *
   go_wp2_with fail
   refine HP.out.mono ?_
   rintro _ wP ⟨vP,rfl,hoP,hbP⟩
   obtain⟨xP,yP,rfl,hrP⟩:=Ri.own hoP (fun j=>Qbb (HPR.out j).1 (HPR.out j).2)
   have HOP:=hid (Qaz HO9.out hbP)
   have HBP:=hid (Bn HB9.out hbP)
   have HRP:=hid hrP
   have hP:=HBP.out.size
   clear hoP hbP hrP HO9 HB9 HP HPR
   go_wp2_with (at_builtin;refine Qc2 _ rfl _ _ rfl w4.heap.size _ RV rfl HOP.out xP yP PK rfl HRP.out (by have:=HRL.out;have:=HPL.out;omega) hP ?_)
   intro vQ wQ hoQ hgQ
   have HBQ:=hid (HBP.out.grown hgQ hP (fun j hj=>(HOP.out.lt j hj).1))
   have HOQ:Hid (wQ.ownsRow w.heap.size 5 1 vQ DOC.length (DOC.map (Value.int .u8))):=by
    show World.ownsRow _ _ _ _ _ _ _
    rw[HDOC2.out]
    refine Qk6 ?_ HB4.out.size
    first | exact hoQ | (simp only[List.length_append,List.map_append] at hoQ|-;exact hoQ)
   have HBQ2:=hid (HB4.out.trans (HBQ.out.mono HB4.out.size))
   clear hoQ hgQ HOP HBP HRP hP HBQ
   go_wp2
   go_ret2
   exact⟨_,rfl,HOQ.out,HBQ2.out⟩
end
/-
 The document's Pack at any tokens: the same bytes as the code's.
-/
section
open Go.RowKit Hf Lz
theorem Qzi(ls ds:List Int)(t:Tkz)(ht:t.1=0∨1<=t.1):(Qsq ls ds t).map Xhc=Qyh ls (Qaj ls) ds (Qaj ds) t:=by
 unfold Qsq Qyh Xke
 rw[List.map_append,Qkl]
 rcases ht with h | h
 ·rw[if_neg (by omega),if_pos h,List.map_nil,List.append_nil]
 ·rw[if_pos (by omega),if_neg (by omega),List.map_append,Qkl,Qkl]
theorem Qvc(ls ds:List Int)(l:List Tkz)(ht:∀j,j<l.length->(l.getD j tk0).1=0∨1<=(l.getD j tk0).1):∀k,k<=l.length->(Qhn ls ds l k).map Xhc=(l.take k).flatMap (Qyh ls (Qaj ls) ds (Qaj ds))
 | 0,_=>rfl
 | k+1,hk=>by
   rw[Qhn,List.map_append,Qvc ls ds l ht k (by omega),Qzi _ _ _ (ht k (by omega)),List.take_add_one,List.getElem?_eq_getElem (show k<l.length by omega),Option.toList_some,List.flatMap_append]
   have e:l.getD k tk0=l[k]:=by simp[List.getD,List.getElem?_eq_getElem (show k<l.length by omega)]
   rw[e]
   simp
theorem Xia(l:List Tkz)(ht:∀j,j<l.length->(l.getD j tk0).1=0∨1<=(l.getD j tk0).1)(hu:∀j,0<=(Qbu l).getD j 0∧(Qbu l).getD j 0<=255):Qfy l=Qbu l:=by
 obtain⟨M,e1,e2,e3⟩:=Wv.toks (H:=Ql7 l) (lsF l) (Qaj (lsF l)) (dsF l) (Qaj (dsF l)) l l.length (Nat.le_refl _)
 have hp:Qbu l=Ql7 l++M:=e1
 rw[<-Qvc (lsF l) (dsF l) l ht l.length (Nat.le_refl _)] at e2
 have hM:∀z∈M,0<=z∧z<=255:=fun z hz=>by
  have hm:z∈Qbu l:=by rw[hp];exact List.mem_append_right _ hz
  obtain⟨i,hi,rfl⟩:=List.getElem_of_mem hm
  have:=hu i
  simpa [List.getD,List.getElem?_eq_getElem hi] using this
 have:=Qyn M hM _ _ e2 e3
 rw[hp]
 unfold Qfy
 rw[<-this]
theorem Xfl(a:Option Addr)(cap:Nat)(l:List Tkz)(w:World)(hr:Rt w a cap l)(hn:l.length<=65536)(hz:(Qbs l).2≠0):
 Calls Tryz.prog 47 #[.slice a l.length cap] w fun e w'=>e= .returned (.tuple #[.slice none 0 0,.int .i64 (Qbs l).2])∧Below w.heap.size w w':=by
 have HSZ:=hid (Qvd a cap l w hr (by omega))
 generalize (Qbs l).1=z1 at *
 generalize (Qbs l).2=z2 at *
 generalize l.length=len at *
 have hbne:(z2 != 0)=true:=bne_iff_ne.2 hz
 have hbeq:(z2==0)=false:=beq_eq_false_iff_ne.2 hz
 clear hr hn
 go_enter Tryz.func47,Tryz.ntmps47
 go_wp2_with fail
 refine HSZ.out.mono ?_
 rintro _ w1 ⟨rfl,hb⟩
 have HB:=hid hb
 clear hb HSZ
 go_wp2_with fail
 go_ret2
 exact⟨rfl,HB.out⟩
theorem Qz5(a:Option Addr)(cap:Nat)(l:List Tkz)(w:World)(hr:Rt w a cap l)(hn:l.length<=20000)(hu:(Qbs l).2=0->∀j,0<=(Qbu l).getD j 0∧(Qbu l).getD j 0<=255):Calls Tryz.prog 47 #[.slice a l.length cap] w (Qnw l w):=by
 unfold Qnw
 by_cases hz:(Qbs l).2=0
 ·have hd:=Xia l (fun j hj=>by
   have h8:=wf_u8 (hr.fits j hj).2.2
   rcases Qf8 (Qgn hz j hj) h8 with h | h
   ·exact Or.inl h.1
   ·exact Or.inr h.1) (hu hz)
  refine(Xdg a cap l w hr hn hz).mono ?_
  rintro e w' ⟨v,rfl,ho,hb⟩
  rw[hd] at ho
  obtain⟨a',c',rfl,hri⟩:=Ri.own ho (fun j=>Qbb (hu hz j).1 (hu hz j).2)
  rw[if_pos hz]
  exact⟨hb,a',c',rfl,hri⟩
 ·refine(Xfl a cap l w hr (by omega) hz).mono ?_
  rintro e w' ⟨rfl,hb⟩
  rw[if_neg hz]
  exact⟨hb,rfl⟩
end
/-
 The document's Encode.
-/
section
open Go.RowKit Hf Lz
theorem Xf6{w:World}{a:Option Addr}{cap:Nat}{l:List Tkz}(hr:Rt w a cap l)(hn:l.length<=65536)(hz:(Qbs l).2=0):∀j,0<=(Qbu l).getD j 0∧(Qbu l).getD j 0<=255:=by
 obtain⟨e,w',_,⟨_,h⟩,_⟩:=Qpf a cap l w hr hn []
 rw[if_pos hz] at h
 obtain⟨a',c',_,h2⟩:=h
 exact fun j=>wf_u8 (h2.fits j)
end
/-
 The document's Unpack.
-/
section
open Go.RowKit Hf Lz
theorem Xgc(a:Option Addr)(cap:Nat)(zs:List Int)(w:World)(hr:Ri w .u8 a cap zs)(hz:zs.length<=2100):
 Calls Tryz.prog 56 #[.slice a zs.length cap] w (Qmb zs w):=by
 have HRD:=hid (Xjq a cap zs w hr (by omega))
 unfold Xg0 at HRD
 have HU:Hid (∀o,Xkj zs=o->Qob zs=o):=fun o h=>(Xij zs (by omega)).symm.trans h
 have HD:Hid (Xkj zs=match Qkj zs with
  | none=>none
  | some l=>if (Qbs l).2=0∧Qbu l=zs then some l else none):=rfl
 have HRG:=hid (fun l (h:Qkj zs=some l)=>Qq0 h)
 have HR:=hid hr
 have HP:Hid (∀e w' o,Qob zs=o->Qmb zs w e w'=(Below w.heap.size w w'∧match o with
  | none=>e= .returned (.tuple #[.slice none 0 0,.int .i64 70])
  | some l=>∃a c,e= .returned (.tuple #[.slice a l.length c,.int .i64 0])∧Rt w' a c l)):=fun e w' o h=>by subst h;rfl
 generalize Qkj zs=R at *
 have HT:Hid (∀W,Below w.heap.size w W->(convert 22 9 (.slice a zs.length cap)).run Tryz.prog W= .ok (.string (strOfNums zs)) W):=fun W hW=>hr.text W hW
 clear hr
 obtain⟨len,hl⟩:∃n,n=zs.length:=⟨_,rfl⟩
 have HL:=hid hl
 rw[<-hl] at hz HRD HT|-
 clear hl
 go_enter Tryz.func56,Tryz.ntmps56
 go_wp2_with fail
 refine HRD.out.mono ?_
 rintro _ w1 ⟨hb1,he⟩
 have HB1:=hid hb1
 clear hb1 HRD
 cases R with
 | none=>
   dsimp only at he HD
   subst he
   go_wp2_with fail
   go_ret2
   rw[HP.out _ _ _ (HU.out _ HD.out)]
   exact⟨HB1.out,rfl⟩
 | some l=>
   dsimp only at he HD
   obtain⟨a1,c1,rfl,hrt⟩:=he
   obtain⟨q1,q2,q3⟩:=HRG.out l rfl
   have hln:l.length<=20000:=by have:=HL.out;omega
   have HPK:=hid (Qz5 a1 c1 l w1 hrt hln (fun h=>Xf6 hrt q3 h))
   unfold Qnw at HPK
   have HRT:=hid hrt
   obtain⟨ll,hll⟩:∃n,n=l.length:=⟨_,rfl⟩
   have HLL:=hid hll
   rw[<-hll] at HPK|-
   clear hrt q1 q2 q3 HRG hln hll
   go_wp2_with fail
   refine HPK.out.mono ?_
   rintro _ w2 ⟨hb2,he⟩
   have HB2:=hid (Bn HB1.out hb2)
   have HRT2:=hid (HRT.out.later hb2)
   clear hb2 HPK HRT
   by_cases hs:(Qbs l).2=0
   ·rw[if_pos hs] at he
    obtain⟨a2,c2,rfl,hr2⟩:=he
    have t2:=hr2.text w2 (Below.refl _ _)
    have t1:=HT.out w2 HB2.out
    have HSE:=hid (str_eq hr2.fits HR.out.fits)
    clear hr2
    by_cases hp:Qbu l=zs
    ·rw[if_pos ⟨hs,hp⟩] at HD
     rw[hp,beq_self_eq_true] at HSE
     rw[hp] at t2|-
     rw[<-HL.out] at t2|-
     generalize strOfNums zs=st at *
     have e3:(st.toList==st.toList)=true:=by simp
     clear hp hs HT
     go_wp2_with fail
     go_ret2
     rw[HP.out _ _ _ (HU.out _ HD.out)]
     exact⟨HB2.out,a1,c1,by rw[<-HLL.out];rfl,HRT2.out⟩
    ·rw[if_neg (fun h=>hp h.2)] at HD
     rw[beq_eq_false_iff_ne.2 hp] at HSE
     generalize (Qbu l).length=pl at *
     generalize strOfNums (Qbu l)=s1 at *
     generalize strOfNums zs=s2 at *
     have e3:(s1.toList==s2.toList)=false:=HSE.out
     have e4:(s1.toList != s2.toList)=true:=by rw[bne,e3];rfl
     have e5:¬s1.toList=s2.toList:=beq_eq_false_iff_ne.1 e3
     clear hp hs HT
     go_wp2_with fail
     go_ret2
     rw[HP.out _ _ _ (HU.out _ HD.out)]
     exact⟨HB2.out,rfl⟩
   ·rw[if_neg hs] at he
    rw[if_neg (fun h=>hs h.1)] at HD
    subst he
    have g0:((Qbs l).2 != 0)=true:=by rw[bne_iff_ne];exact hs
    clear hs
    generalize (Qbs l).2=sz at *
    go_wp2_with fail
    go_ret2
    rw[HP.out _ _ _ (HU.out _ HD.out)]
    exact⟨HB2.out,rfl⟩
end
/-
 The document's Head.
-/
section
open Go.RowKit Hf Lz
def Xgy(zs:List Int):Int×Bool×Int:=
 match Qff zs with
 | none=>(0,false,70)
 | some ((n,p),_)=>((n:Int),p,0)
theorem Xgg(a:Option Addr)(cap:Nat)(zs:List Int)(w:World)(hr:Ri w .u8 a cap zs):
 Calls Tryz.prog 55 #[.slice a zs.length cap] w fun e w'=>e= .returned (.tuple #[.int .i64 (Xgy zs).1,.bool (Xgy zs).2.1,.int .i64 (Xgy zs).2.2])∧Below w.heap.size w w':=by
 cases zs with
 | nil=>
   have e:Xgy []=(0,false,70):=rfl
   rw[e]
   simp only[List.length_nil]
   go_enter Tryz.func55,Tryz.ntmps55
   go_wp2_with fail
   go_ret3
   exact⟨rfl,Below.refl _ _⟩
 | cons z z1=>
   obtain⟨b,off,ha,hbw,hc⟩:=hr.cells (by simp)
   have c0:=hc 0 (by simp)
   have hz:=wf_u8 (hr.fits 0)
   simp only[List.getD_cons_zero,Nat.add_zero] at c0 hz
   have HT:Hid (Xgy (z::z1)=if z=0∨z=1 then (match Qgi 65536 z1 with | none=>((0:Int),false,(70:Int)) | some (n,_)=>((n:Int),z==1,(0:Int))) else ((0:Int),false,(70:Int))):=by
    show _=_
    unfold Xgy Qff
    dsimp only
    by_cases h:z=0∨z=1
    ·rw[if_pos h,if_pos h];cases Qgi 65536 z1<;>rfl
    ·rw[if_neg h,if_neg h]
   generalize Xgy (z::z1)=T at *
   by_cases hz1:z=0∨z=1
   ·rw[if_pos hz1] at HT
    obtain⟨a2,c2,hsl,hr2⟩:=hr.high 1 (by simp)
    simp only[List.drop_succ_cons,List.drop_zero] at hsl hr2
    have hsh:∀W,(Instr.slice 22 (.slice a (z::z1).length cap) (some (.int .i64 1)) none none).run Tryz.prog W= .ok (.slice a2 z1.length c2) W:=fun W=>by
     rw[<-hsl];exact Qf9 a (z::z1).length cap 1 (by simp) W
    have HRD:=hid (Qml a2 c2 z1 w hr2)
    have hrg:=Qep z1 0 0 (by omega) (by simp) (by omega)
    unfold Qgi at HT
    generalize Qau 0 0 z1=r at *
    obtain⟨x,u,e⟩:=r
    dsimp only at HT HRD hrg
    have hlen:(0:Int)<(((z::z1).length:Nat):Int):=by rw[List.length_cons];omega
    have hln0:((((z::z1).length:Nat):Int)==0)=false:=by rw[beq_eq_false_iff_ne];omega
    generalize (z::z1).length=len at *
    generalize z1.length=l1 at *
    have hgt:¬(1:Int)<z:=by omega
    have hgt2:decide ((1:Int)<z)=false:=decide_eq_false hgt
    have hx0:=hrg.1
    subst ha
    clear hr hc hr2 hsl hz1 hrg
    go_enter Tryz.func55,Tryz.ntmps55
    go_wp2_with fail
    refine HRD.out.mono ?_
    rintro _ w0 ⟨rfl,hw⟩
    obtain rfl:=hw.symm
    clear hw HRD hsh
    by_cases hgood:e=0∧x<=((65536:Nat):Int)
    ·rw[if_pos hgood] at HT
     obtain⟨rfl,hx⟩:=hgood
     obtain⟨m,hm⟩:=Int.eq_ofNat_of_zero_le hx0
     subst hm
     rw[Int.toNat_natCast] at HT
     have g1:decide ((65536:Int)<(m:Int))=false:=decide_eq_false (by omega)
     have g1n:decide (65536<m)=false:=decide_eq_false (by omega)
     have hm6:m<=65536:=by omega
     clear hx
     go_wp2
     go_big_quiet (fail)
     go_wp2
     go_ret3
     exact⟨by rw[HT.out];rfl,Qcb (Below.refl _ _) _⟩
    ·rw[if_neg hgood] at HT
     dsimp only at HT
     by_cases he:e=0
     ·subst he
      have hx:¬x<=65536:=fun h=>hgood ⟨rfl,h⟩
      have g1:decide ((65536:Int)<x)=true:=decide_eq_true (by omega)
      clear hgood hx
      go_wp2_with fail
      go_ret3
      exact⟨by rw[HT.out];rfl,Below.refl _ _⟩
     ·have g0:(e != 0)=true:=by rw[bne_iff_ne];exact he
      clear he hgood
      go_wp2_with fail
      go_ret3
      exact⟨by rw[HT.out];rfl,Below.refl _ _⟩
   ·rw[if_neg hz1] at HT
    have hln0:((((z::z1).length:Nat):Int)==0)=false:=by rw[beq_eq_false_iff_ne,List.length_cons];omega
    have hlen:(0:Int)<(((z::z1).length:Nat):Int):=by rw[List.length_cons];omega
    have hroom:=hr.room
    generalize (z::z1).length=len at *
    have hgt:(1:Int)<z:=by omega
    have hgt2:decide ((1:Int)<z)=true:=decide_eq_true hgt
    subst ha
    clear hr hc hz1
    go_enter Tryz.func55,Tryz.ntmps55
    go_wp2_with fail
    go_ret3
    exact⟨by rw[HT.out];rfl,Below.refl _ _⟩
end
/-
 What Read tells: the number that it tells has, as its varint, just the bytes that were read; with an error it is 0.
-/
section
theorem Qz7(zs:List Int):∀(k:Nat) (acc:Int),k<=9->0<=acc->acc<128^k->(∀j,0<=zs.getD j 0∧zs.getD j 0<=255) ->
 ((Qau acc k zs).2.2≠0∧(Qau acc k zs).1=0) ∨
 ((Qau acc k zs).2.2=0∧0<=(Qau acc k zs).1∧(Qau acc k zs).1<18446744073709551616∧∃(y:Int) (m:Nat),(Qau acc k zs).1=acc+y*128^k∧(Qau acc k zs).2.1=k+m∧1<=m∧m<=zs.length∧Qev (9-k) y=zs.take m∧0<=y∧(0<k->0<y)):=by
 induction zs with
 | nil=>intro k acc _ _ _ _;left;simp[Qau]
 | cons c cs ih=>
   intro k acc hk h0 h1 hby
   have hc:=hby 0
   simp only[List.getD_cons_zero] at hc
   cases hbad:Qks k c with
   | true=>left;rw[Qiw hbad];simp
   | false=>
     have hnb:=of_decide_eq_false hbad
     by_cases hlt:c<128
     ·right
      rw[Qfi hbad hlt]
      refine⟨rfl,(Qdn acc c k h0 h1).1,Qlq acc c k hk (Qgw hbad) h0 h1,c,1,?_,rfl,by omega,by simp,?_,hc.1,fun h=>?_⟩
      ·rw[Int.emod_eq_of_lt hc.1 hlt]
      ·rw[Qii _ _ hlt];simp
      ·omega
     ·have hk8:k+1<=9:=by
       have:=Qgw hbad
       omega
      have hn:=Qdn acc c k h0 h1
      have:=ih (k+1) (acc+c%128*128^k) hk8 hn.1 hn.2 (fun j=>by have:=hby (j+1);simpa using this)
      rw[Qgq hbad hlt]
      rcases this with h | ⟨he,hx0,hx1,y,m,hx,hm,hm1,hm2,hv,hy0,hy1⟩
      ·exact Or.inl h
      ·right
       have hyp:=hy1 (by omega)
       refine⟨he,hx0,hx1,c%128+128*y,m+1,?_,?_,by omega,by simp;omega,?_,by omega,fun _=>by omega⟩
       ·rw[hx,Int.pow_succ,Int.add_mul,Int.add_assoc]
        congr 1
        congr 1
        rw[Int.mul_comm (128^k) 128,<-Int.mul_assoc,Int.mul_comm y 128]
       ·rw[hm];omega
       ·rw[show 9-k=(9-(k+1))+1 from by omega,Qiu _ _ (by omega)]
        rw[show(c%128+128*y)/128=y from by omega,hv,show(c%128+128*y)%128+128=c from by omega]
        simp
theorem Xee(zs:List Int)(hby:∀j,0<=zs.getD j 0∧zs.getD j 0<=255):
 ((Qau 0 0 zs).2.2≠0∧(Qau 0 0 zs).1=0) ∨
 ((Qau 0 0 zs).2.2=0∧0<=(Qau 0 0 zs).1∧(Qau 0 0 zs).1<18446744073709551616∧∃(m:Nat),(Qau 0 0 zs).2.1=m∧1<=m∧m<=zs.length∧Qeb (Qau 0 0 zs).1=zs.take m):=by
 rcases Qz7 zs 0 0 (by omega) (by omega) (by simp) hby with h | ⟨he,hx0,hx1,y,m,hx,hm,hm1,hm2,hv,_,_⟩
 ·exact Or.inl h
 ·right
  refine⟨he,hx0,hx1,m,by rw[hm];omega,hm1,hm2,?_⟩
  rw[hx,Qeb,show(0:Int)+y*128^0=y from by simp]
  exact hv
theorem head_tail{zs rs:List Int}{n:Nat}{p:Bool}(hby:∀j,0<=zs.getD j 0∧zs.getD j 0<=255)(h:Qff zs=some ((n,p),rs)):1+(Qeb (n:Int)).length<=zs.length∧zs.drop (1+(Qeb (n:Int)).length)=rs∧n<=65536:=by
 cases zs with
 | nil=>simp[Qff] at h
 | cons z z1=>
   simp only[Qff] at h
   split at h
   ·cases hn:Qgi 65536 z1 with
    | none=>rw[hn] at h;cases h
    | some nr=>
      obtain⟨m,r⟩:=nr
      rw[hn] at h
      simp only[Option.some.injEq,Prod.mk.injEq] at h
      obtain⟨⟨rfl,_⟩,rfl⟩:=h
      unfold Qgi at hn
      split at hn
      ·rename_i hc
       simp only[Option.some.injEq,Prod.mk.injEq] at hn
       rcases Xee z1 (fun j=>by have:=hby (j+1);simpa using this) with h1 | ⟨_,h0,_,k,hk,hk1,hk2,hv⟩
       ·exact absurd hc.1 h1.1
       ·obtain⟨e1,e2⟩:=hn
        have e3:((m:Nat):Int)=(Qau 0 0 z1).1:=by omega
        have e4:(Qeb (m:Int)).length=k:=by rw[e3,hv,List.length_take];omega
        rw[hk,Int.toNat_natCast] at e2
        rw[e4,Nat.add_comm,List.drop_succ_cons,List.length_cons]
        exact⟨by omega,e2,by have:=hc.2;omega⟩
      ·cases hn
   ·cases h
end
end Go.Proofs.YtibjlbcnapoblaaGreatDoor
