/- Contracts and facts. -/
import Derived.Test.YtibjlbcnapoblaaGreatDoorPart27
import Derived.Test.YtibjlbcnapoblaaGreatDoorTie
import Derived.Test.YtibjlbcnapoblaaGreatDoorCards
import Derived.LaidMore
import Derived.Lib.LaidTab
import Derived.Stop.Joined
namespace Go.Proofs.YtibjlbcnapoblaaGreatDoor
set_option maxRecDepth 100000
set_option maxHeartbeats 6400000
section
open Go.RowKit Hf Lz
theorem Xd8:Qcn [97]= [0,1,97]:=by decide +kernel
theorem Xly:isC ([97]:List Int).length=true:=by decide
theorem Xlx:(Qkc [97]).length=512:=by rw[Qs1,Xd8];rfl
theorem a_8:Qea [97]:=fun j=>by
 match j with
 | 0=>rfl
 | j+1=>simp;exact Qcc _
theorem Xmd:∀j,(Lit.int .u8 (([0,1,97]:List Int).getD j 0)).wf=true:=fun j=>by
 match j with
 | 0=>rfl
 | 1=>rfl
 | 2=>rfl
 | j+3=>simp;exact Qcc _
theorem Xlg:(Qkc [97]).take 8= [83,67,72,75,1,0,3,0]:=by
 unfold Qkc Qkg
 rw[Xd8]
 rfl
theorem Xl3:strOfNums [83,67,72,75,1,0,3,0]=⟨#[83,67,72,75,1,0,3,0]⟩:=by decide +kernel
theorem Xl0:strOfNums [97]=⟨#[97]⟩:=by decide +kernel
theorem Xk3(bs:List Int)(he:∀j,(Lit.int .u8 ((Qcn bs).getD j 0)).wf=true):∀j,(Lit.int .u8 ((Qkc bs).getD j 0)).wf=true:=by
 unfold Qkc
 have hd8:∀j,(Lit.int .u8 ((Qfb bs).getD j 0)).wf=true:=fun j=>Qbb (Qtu bs j).1 (Qtu bs j).2
 refine Qn8 (Qn8 (Qn8 (Qyz _ _ _ hd8) (Xb6 4 _)) he) (fun j=>?_)
 have:(List.replicate (512*Qcv (Qcn bs).length-44-(Qcn bs).length) (0:Int)).getD j 0=0:=by
  simp only[List.getD,List.getElem?_replicate]
  split<;>rfl
 rw[this];exact Qcc _
theorem Xa3(a:Option Addr)(cap n:Nat)(zs:List Int)(w:World)(hr:Ri w .u8 a cap zs)(hn:n<=10000):
 Calls Tryz.prog 9 #[.slice a zs.length cap,.int .i64 (n:Int)] w fun e w'=>e= .returned (.slice a (zs.take n).length cap)∧w'=w:=by
 have hroom:=hr.room
 by_cases h:n<zs.length
 ·obtain⟨b,off,rfl,_,_⟩:=hr.cells (by omega)
  have hl:(zs.take n).length=n:=by simp;omega
  rw[hl]
  generalize zs.length=L at *
  have h1:(n:Int)<(L:Int):=by omega
  have h2:n<=cap:=by omega
  clear hr hl
  go_enter Tryz.func9,Tryz.ntmps9
  go_wp2
  go_ret
  exact⟨rfl,rfl⟩
 ·have hl:(zs.take n).length=zs.length:=by simp;omega
  rw[hl]
  generalize zs.length=L at *
  have h1:¬(n:Int)<(L:Int):=by omega
  clear hr hl
  go_enter Tryz.func9,Tryz.ntmps9
  go_wp2
  go_ret
  exact⟨rfl,rfl⟩
theorem Xe8(w:World)(hL:Sh.Laid w):Calls Tryz.prog 15 #[] w fun e w'=>e= .returned (.bool true)∧Below w.heap.size w w':=by
 have kc:=Joins.run_convert_bytes_const_at (P:=Tryz.prog) w 22 5 #[.int .u8 97] 1 1 w.heap.size rfl Tryz.underlying22 Tryz.underlying5
 have hb0:=Qbp w (.cells #[.int .u8 97] 5 (1,2))
 have e0:=Qba w (.cells #[.int .u8 97] 5 (1,2))
 have hri:Ri (w.alloc (.cells #[.int .u8 97] 5 (1,2))) .u8 (some ⟨w.heap.size,0,none⟩) 1 [97]:=by
  refine⟨Nat.le_refl _,by unfold maxLen;omega,fun _=>⟨w.heap.size,0,rfl,by simp,fun j hj=>?_⟩,a_8⟩
  have:j=0:=by simp at hj;omega
  subst this
  exact Joins.cell_of_block e0 0
 have HBY:Hid (Calls Tryz.prog 10 #[.slice (some ⟨w.heap.size,0,none⟩) 1 1] (w.alloc (.cells #[.int .u8 97] 5 (1,2))) (Xht [97] (w.alloc (.cells #[.int .u8 97] 5 (1,2))))):=Xd9 _ _ [97] _ hri (by decide) (hL.later hb0) (fun _=>Xjt _ _ [97] _ hri (by decide) (Xj7 _ _ 97 _ hri))
 unfold Xht at HBY
 have HB0:=hid hb0
 have HL:=hid hL
 obtain⟨P,hP⟩:∃P,P=Qkc [97]:=⟨_,rfl⟩
 rw[<-hP] at HBY
 have HPL:Hid (P.length=512):=by show _=_;rw[hP];exact Xlx
 have HP8:Hid (∀j,(Lit.int .u8 (P.getD j 0)).wf=true):=by rw[hP];exact Xk3 [97] (by rw[Xd8];exact Xmd)
 have HRD:Hid (Qzx P=(0,[97],1)):=by
  have:=Xi6 [97] a_8 Xly []
  rw[List.append_nil,Xd8,<-hP] at this
  exact this
 have HTK:Hid (strOfNums (P.take 8)=⟨#[83,67,72,75,1,0,3,0]⟩):=by show _=_;rw[hP,Xlg,Xl3]
 clear hb0 e0 hri hL hP
 go_enter Tryz.func15,Tryz.ntmps15
 go_wp2_with fail
 refine HBY.out.mono ?_
 rintro _ W1 ⟨hb1,⟨h,_⟩ | ⟨_,v,rfl,ho⟩⟩
 ·cases h
 obtain⟨a1,c1,rfl,hr1⟩:=Ri.own ho HP8.out
 have HB1:=hid (Bn HB0.out hb1)
 have HRP:=hid (Xbc a1 c1 P W1 hr1 (by rw[HPL.out];decide) (HL.out.later HB1.out))
 unfold Qjn at HRP
 rw[HRD.out] at HRP
 have HI1:=hid hr1
 have hroom:=hr1.room
 rw[HPL.out] at HRP hroom|-
 clear hb1 ho hr1 HBY kc
 go_wp2_with fail
 refine HRP.out.mono ?_
 rintro _ W2 ⟨hb2,⟨h,_⟩ | ⟨_,a2,c2,rfl,hr2⟩⟩
 ·exact absurd rfl h
 have HB2:=hid (Bn HB1.out hb2)
 have t1:=(HI1.out.take 8).text W2 hb2
 have t2:(convert 22 9 (.slice a2 1 c2)).run Tryz.prog W2= .ok (.string (strOfNums [97])) W2:=hr2.text W2 (Below.refl _ _)
 rw[HTK.out,show(P.take 8).length=8 from by have:=HPL.out;simp;omega] at t1
 dsimp only
 rw[Xl0] at t2
 have h8:8<=c1:=by omega
 clear hb2 hr2 HRP HRD HI1
 go_wp2_with fail
 go_ret
 exact⟨rfl,HB2.out⟩
end
/-
 What the rows' condition on the program's two tables gives.
-/
section
open Go.ChangeShapes Go.WideShapes Go.ChangeAt Go.RowKit Sh.Sha
def Xcq:List (String×DataW Unit):= [("saltern/sha.start",Rows.laid_saltern_sha_start),("saltern/sha.constants",Rows.laid_saltern_sha_constants)]
theorem own:ownKnob Tryz.prog.godebug=none:=by kernel_rfl
theorem Xkt:Tryz.prog.globalNamed "saltern/sha.start" = some 0:=by kernel_rfl
theorem Xks:Tryz.prog.globalNamed "saltern/sha.constants" = some 1:=by kernel_rfl
theorem Xlk:(Tryz.prog.globals[0]?).map (·.type)=some 95:=by kernel_rfl
theorem Xlp:(Tryz.prog.globals[1]?).map (·.type)=some 138:=by kernel_rfl
theorem Tryz.cells56:Tryz.prog.cellsOf 56=1:=by kernel_rfl
theorem Tryz.cells95:Tryz.prog.cellsOf 95=8:=by kernel_rfl
theorem Tryz.cells138:Tryz.prog.cellsOf 138=64:=by kernel_rfl
theorem Xem(os:Os)(args:Array Value):laidMetH Tryz.prog Xcq ((World.doorLaid Tryz.prog 400 os).forCall (fun _ _=>0) ⟨#[],args,[]⟩).memory:=
 laidMetH_of_parts3 (fuel:=8) (laidMet_of_run' 8 (by kernel_rfl) (by kernel_rfl)) (by kernel_rfl) (by kernel_rfl)
theorem Xjd{W:World}(h:laidMetH Tryz.prog Xcq W):Sh.Laid W:=by
 rw[MakeChecks.laidMetH_plain _ _ _ (by kernel_rfl)] at h
 obtain⟨ps,⟨g0,t0,cs0,f0,p0,q0,hg0,ht0,hv0,hd0,⟨g1,t1,cs1,f1,p1,q1,hg1,ht1,hv1,hd1,_,_⟩,_⟩,_,_⟩:=h
 obtain rfl:=Option.some.inj (Xkt.symm.trans hg0)
 obtain rfl:=Option.some.inj (Xks.symm.trans hg1)
 obtain rfl:=Option.some.inj (Xlk.symm.trans ht0)
 obtain rfl:=Option.some.inj (Xlp.symm.trans ht1)
 have e0:=Lib.cells_of_tab (zs:=Sh.ints Sh.Sha.start.list) Tryz.underlying95 Tryz.underlying56 Tryz.cells56 Tryz.cells95 hd0
 have e1:=Lib.cells_of_tab (zs:=Sh.ints Sh.Sha.kL) Tryz.underlying138 Tryz.underlying56 Tryz.cells56 Tryz.cells138 hd1
 have c0:∀i,W.cell? ⟨0,i,none⟩=((Sh.ints Sh.Sha.start.list).map fun z=>Value.int .u32 z)[i]?:=fun i=>by
  have:=World.var?_cell hg0 hv0 i
  rw[this,<-e0];simp
 have c1:∀i,W.cell? ⟨1,i,none⟩=((Sh.ints Sh.Sha.kL).map fun z=>Value.int .u32 z)[i]?:=fun i=>by
  have:=World.var?_cell hg1 hv1 i
  rw[this,<-e1];simp
 refine⟨fun i hi=>?_,fun i hi=>?_,?_⟩
 ·rw[c1 i]
  simp[Sh.ints,List.getD,List.getElem?_eq_getElem (show i<Sh.Sha.kL.length from hi)]
 ·rw[c0 i]
  simp[Sh.ints,List.getD,List.getElem?_eq_getElem (show i<Sh.Sha.start.list.length from hi)]
 ·have:=World.block_lt_of_cell? W ⟨1,0,none⟩ (c1 0)
  exact this
end
/-
 The contract of the document's Sum: the digest of all rows.
-/
namespace Sh
open Go.RowKit Sha
theorem Xh7(a:Option Addr)(cap:Nat)(l:List (List Nat))(w:World)(hr:Ps w a cap l)(hbd:l.flatten.length<=500000):
 Calls Tryz.prog 41 #[.slice a l.length cap] w fun e w'=>e= .returned (.agg (arr .u8 (digest l.flatten)))∧Below w.heap.size w w':=by
 have hroom:=hr.room
 have hmost:=hr.most
 unfold maxLen at hmost
 have HPS:=hid hr
 have HFT:=hid (Qr6 l)
 have HFL:=hid (Xcd l)
 have HTK:Hid (l.take l.length=l):=List.take_length
 clear hr
 generalize hnl:l.length=n at *
 have HNL:=hid hnl
 clear hnl
 have b0:=Qaa w (.cells (arr .u8 z32) 36)
 have hres0:=Qaf w (.cells (arr .u8 z32) 36)
 have hsz0:(w.alloc (.cells (arr .u8 z32) 36)).heap.size=w.heap.size+1:=by simp
 go_enter Tryz.func41,Tryz.ntmps41
 go_wp2_with (refine Qac rfl 36 rfl (some 2) rfl (arr .u8 z32) Tryz.zero36 w.heap.size rfl ?_)
 generalize w.alloc (.cells (arr .u8 z32) 36)=w1 at *
 go_loopw [3,4] (fun v i wr=>∃k:Nat,k<=n∧i= .int .i64 k∧wr.ownsRow (w.heap.size+1) 5 1 v (l.take k).flatten.length (V (l.take k).flatten)∧Below (w.heap.size+1) w1 wr) (fun _ i _=>n-(intOf i).toNat)
 case atStart=>exact⟨0,by omega,rfl,World.ownsRow_nil _ _ _ _,Below.refl _ _⟩
 case round=>
  obtain⟨k,hk,rfl,hown,hbel⟩:=hrel
  have hbw:Below w.heap.size w wr:=b0.trans (hbel.mono (by omega))
  by_cases hlt:k<n
  ·have hkn:(k:Int)<(n:Int):=by omega
   have HF:=hid (HFT.out k hlt)
   have hle:=HFL.out (k+1)
   rw[HF.out,List.length_append] at hle
   obtain⟨bb,off,rfl,hbb,hc⟩:=HPS.out.cells (by have:=HNL.out;omega)
   obtain⟨v,a',cap',hck,hrd⟩:=hc k (by have:=HNL.out;omega)
   have hv:=hrd.val
   subst hv
   have hck':wr.cell? ⟨bb,off+k,none⟩=some (.slice a' (l.getD k []).length cap'):=(hbw.cell (p:=⟨bb,off+k,none⟩) hbb).trans hck
   have hrd':=hrd.later hbw
   clear hc hck hrd
   generalize l.getD k []=y at *
   have hszr:=hbel.size
   generalize (l.take k).flatten=fl at *
   go_wp2_with (at_builtin;refine Qc2 _ rfl _ _ rfl (w.heap.size+1) _ fl rfl hown a' cap' y rfl hrd' (by omega) (by omega) ?_)
   intro v' w2 hown' hgrow
   have hb2:=hbel.grown hgrow (by omega) (fun j hj=>(hown.lt j hj).1)
   have R:w2.ownsRow (w.heap.size+1) 5 1 v' (l.take (k+1)).flatten.length (V (l.take (k+1)).flatten):=by
    rw[HF.out,List.length_append];exact hown'
   clear hown hgrow hown'
   go_wp2
   exact⟨⟨k+1,by omega,by go_num,R,hb2⟩,by simp[intOf];omega⟩
  ·obtain rfl:k=n:=by omega
   rw[HTK.out] at hown
   have hszr:=hbel.size
   have hres:wr.heap[w.heap.size]?=some (.cells (arr .u8 z32) 36 (0,0)):=by rw[hbel.block _ (by omega)];exact hres0
   have hres0':=hres0
   have HFLT:Hid (∀j,l.flatten.getD j 0<256):=HPS.out.lt
   clear HFT HFL HPS hres0
   generalize hfl:l.flatten=fl at *
   have HFLE:=hid hfl
   clear hfl HTK
   obtain⟨aa,ca,rfl⟩:=Qgo hown
   have hN:fl.length<2^64:=by omega
   have HPD:=hid (fun W:World=>Xh4 fl.length W hN)
   have hpl:=Qnq fl.length
   have HPL:=hid (Xg8 fl.length)
   have HAL':=hid (Qkt fl (pad fl.length) HFLT.out HPL.out)
   generalize hpd:pad fl.length=pd at *
   have HPDE:=hid hpd
   clear hpd
   generalize hfn:fl.length=fn at *
   have HFN:=hid hfn
   clear hfn
   have hfi:((fn:Int):Int)%18446744073709551616=(fn:Int):=by omega
   go_wp2_with fail
   go_at_call 61
   refine(HPD.out _).mono ?_
   rintro _ w2 ⟨pv,rfl,hpo,hpb⟩
   obtain⟨pg,pc,rfl,hpg,hprd⟩:=Qsb hpo (by omega) HPL.out
   have hown2:=Qa3 hown hpb
   have hb2:Below (w.heap.size+1) w1 w2:=hbel.trans (hpb.mono (by omega))
   have hsz2:=hpb.size
   clear hpo hown
   have hown2':w2.ownsRow (w.heap.size+1) 5 1 (.slice aa fn ca) fl.length (V fl):=by rw[HFN.out];exact hown2
   clear hown2
   have hpl1:=hpl.2.2
   have hl1:fl.length<=500000:=by have:=HFN.out;omega
   go_wp2_with (at_builtin;refine Qc2 _ rfl _ _ rfl (w.heap.size+1) _ fl rfl hown2' _ pc pd rfl hprd (by omega) (by omega) ?_)
   intro v' w3 hown3 hgrow
   have hb3:Below (w.heap.size+1) w1 w3:=hb2.grown hgrow (by omega) (fun j hj=>(hown2'.lt j hj).1)
   have hsz3:=hb3.size
   have hown4:w3.ownsRow (w.heap.size+1) 5 1 v' (fl++pd).length (V (fl++pd)):=by first | exact hown3 | (rw[List.length_append];exact hown3)
   have hlen:(fl++pd).length=fn+pd.length:=by rw[List.length_append,HFN.out]
   have HDG:Hid (digest fl=Sha.bytes (blocks ((fl++pd).length/64) (fl++pd) Sha.start)):=by
    rw[digest,HFN.out,HPDE.out]
    exact rfl
   have HAL:=HAL'
   clear HAL'
   generalize hal:fl++pd=al at *
   obtain⟨ag,ac,rfl,hag,hard⟩:=Qsb hown4 (by omega) HAL.out
   have hres3:w3.heap[w.heap.size]?=some (.cells (arr .u8 z32) 36 (0,0)):=by rw[hb3.block _ (by omega)];exact hres0'
   have HLEN:=hid hlen
   have hal0:0<al.length:=by omega
   clear hlen
   clear hown3 hown4 hgrow hown2' hprd hb2 hpb hbel hres hpl1 hl1 hal hpg
   go_wp2_with fail
   go_at_call 62
   refine(Xb9 _).mono ?_
   rintro _ w4 ⟨rfl,hb4⟩
   have hgS:w.heap.size<w4.heap.size:=by have:=hb4.size;omega
   have hagS:ag<w4.heap.size:=by
    obtain⟨b,off,hb,hlt,_⟩:=hard.cells (by omega)
    injection hb with hb
    injection hb with h1 h2
    subst h1
    have:=hb4.size
    omega
   have hgC:(w4.alloc (.cells (arr .u32 z8) 95)).heap[w4.heap.size]?=some (.cells (arr .u32 z8) 95 (0,0)):=Qaf _ _
   have hbw3:Below w.heap.size w w3:=b0.trans (hb3.mono (by omega))
   have hM:Xdj w ((w4.alloc (.cells (arr .u32 z8) 95)).setRow w4.heap.size (arr .u32 Sha.start.list)) w4.heap.size ag ac al Sha.start:=by
    have hb5:Below w4.heap.size w4 ((w4.alloc (.cells (arr .u32 z8) 95)).setRow w4.heap.size (arr .u32 Sha.start.list)):=below_setRow (Qaa _ _) (Nat.le_refl _) _
    have hb6:=Bn hb4 hb5
    refine⟨?_,setRow_heap _ _ _ _ _ _ hgC,hard.later hb6,Bn hbw3 hb6⟩
    rw[hb6.block _ (by omega)];exact hres3
   go_wp2_with (first
    | (refine Qac rfl 95 rfl (some 5) rfl (arr .u32 z8) Tryz.zero95 w4.heap.size rfl ?_)
    | (refine wpList_store_rowTo rfl 95 _ _ rfl rfl w4.heap.size (arr .u32 Sha.start.list) rfl rfl 95 _ hgC Tryz.size95 rfl (Qa7 _ _) ?_))
   generalize (w4.alloc (.cells (arr .u32 z8) 95)).setRow w4.heap.size (arr .u32 Sha.start.list)=w5 at *
   generalize w4.heap.size=gS at *
   obtain⟨M,hMM⟩:∃M,al.length=64*M:=⟨al.length/64,by have:=HLEN.out;omega⟩
   have HBL:Hid (∀j,al.getD j 0<256):=HAL
   have HD2:Hid (digest fl=Sha.bytes (blocks M al Sha.start)):=by
    rw[HDG.out,hMM,Nat.mul_div_cancel_left _ (by decide)];exact rfl
   have hMb:M<=100000:=by have:=HLEN.out;omega
   have HSN:=hid (fun m=>Qjw Sha.step m al Sha.start)
   have HOK:=hid (fun m=>Qlf m al Sha.start Qoh)
   have HMM:=hid hMM
   generalize hall:al.length=aln at *
   have HMA:=hid hMM
   clear HMM
   have HALL:=hid hall
   have haln:aln<=600000:=by have:=HLEN.out;omega
   clear HLEN hpl HFN HPDE hfi hN
   clear hMM
   clear HDG hgC hard hres3 hb4 hb3 hbw3 HPD HPL HAL hall
   go_loopw [6] (fun i wr=>∃m:Nat,m<=M∧i= .int .i64 (64*(m:Int))∧Xdj w wr gS ag ac al (blocks m al Sha.start)) (fun i _=>64*M+64-(intOf i).toNat)
   case atStart=>exact⟨0,by omega,rfl,hM⟩
   case round=>
    obtain⟨m,hm,rfl,hM⟩:=hrel
    by_cases hmM:m<M
    ·have hcond:64*(m:Int)+64<=(aln:Int):=by have:=HMA.out;omega
     have hma:64*m+64<=aln:=by omega
     have HM:=hid hM
     clear hM
     have hgB:=Qaf wr (.cells (arr .u8 z64) 96)
     have hM1b:=Qaa wr (.cells (arr .u8 z64) 96)
     have hM1:=HM.out.later hM1b
     go_wp2_with (refine Qac rfl 96 rfl (some 7) rfl (arr .u8 z64) Tryz.zero96 wr.heap.size rfl ?_)
     generalize hwr2:wr.alloc (.cells (arr .u8 z64) 96)=wr2 at *
     clear hwr2
     obtain⟨ab0,ao0,hae0,hag0,_⟩:=HM.out.rd.cells (by rw[HALL.out];omega)
     injection hae0 with hae0
     injection hae0 with hae01 hae02
     subst hae01
     clear hae02
     have hg1:w.heap.size<wr.heap.size:=(Array.getElem?_eq_some_iff.1 HM.out.res).1
     have hg2:gS<wr.heap.size:=(Array.getElem?_eq_some_iff.1 HM.out.sv).1
     generalize hgBn:wr.heap.size=gB at *
     clear hgBn
     have hbl64:((al.drop (64*m)).take 64).length=64:=by rw[List.length_take,List.length_drop,HALL.out];omega
     have HBG:=hid (Xh3 al (64*m))
     have HBLT:=hid (Xkz al HBL.out (64*m))
     have HNX:=hid (HSN.out m)
     generalize hblk:(al.drop (64*m)).take 64=bk at *
     have HM1:=hid hM1
     go_loopw [8] (fun i wq=>∃k:Nat,k<=64∧i= .int .i64 k∧Xdj w wq gS ag ac al (blocks m al Sha.start)∧wq.heap[gB]?=some (.cells (arr .u8 (Qeg 64 bk k)) 96 (0,0))) (fun i _=>64-(intOf i).toNat)
     case atStart=>exact⟨0,by omega,rfl,HM1.out,by rw[Qjj];exact hgB⟩
     case round=>
      obtain⟨q,hq,rfl,hMq,hgq⟩:=hrel
      by_cases hq64:q<64
      ·have hq':(q:Int)<64:=by omega
       obtain⟨ab,ao,hae,habw,hac⟩:=hMq.rd.cells (by rw[HALL.out];omega)
       injection hae with hae
       injection hae with hae1 hae2
       subst hae1 hae2
       have ca:=hac (64*m+q) (by rw[HALL.out];omega)
       rw[Nat.zero_add,<-HBG.out q hq64] at ca
       have hfl:=Qgr 64 bk q hbl64 (by omega)
       have cb:=(Joins.cell_of_block hgq q).trans (Qao .u8 _ q (by omega))
       have fz:=Joins.unfrozen_of_block hgq q
       have hput:=Joins.block_setCell hgq (i:=q) (.int .u8 ((bk.getD q 0:Nat):Int))
       rw[Qdc,Qq4 64 bk q hbl64 hq64] at hput
       have hblt:=HBLT.out q
       have HP:=hid hput
       have HMq:=hid hMq
       have HGQ:=hid hgq
       clear hac hput hMq hgq hfl
       generalize bk.getD q 0=bq at *
       generalize (Qeg 64 bk q).getD q 0=old at *
       have hMn:=HMq.out.keep ((Below.refl gB wr).setCell (p:=⟨gB,q,none⟩) (Nat.le_refl _) (.int .u8 (bq:Int))) hg1 hg2 hag0
       have HMn:=hid hMn
       clear hMn
       go_wp2
       exact⟨⟨q+1,by omega,by go_num,HMn.out,HP.out⟩,by simp[intOf];omega⟩
      ·obtain rfl:q=64:=by omega
       rw[Qjg 64 bk hbl64] at hgq
       have hsv:=hMq.sv
       have hok:=HOK.out m
       have HST:=hid (fun W:World=>Xf5 (blocks m al Sha.start) bk W hok hbl64 HBLT.out)
       have HNX2:Hid (blocks (m+1) al Sha.start=Sha.step (blocks m al Sha.start) bk):=HNX.out
       have HMq:=hid hMq
       clear hMq HNX
       have hsz8:(arr .u32 (blocks m al Sha.start).list).size=8:=Qas _ _
       have hsz64:(arr .u8 bk).size=64:=(Qas _ _).trans hbl64
       generalize blocks m al Sha.start=sm at *
       go_wp2_with (first
        | (refine wpList_load_row rfl 95 _ rfl gS rfl 95 (arr .u32 sm.list) (0,0) _ hsv Tryz.underlying95 rfl (by rw[hsz8];exact Tryz.size95) ?_)
        | (refine wpList_load_row rfl 96 _ rfl gB rfl 96 (arr .u8 bk) (0,0) _ hgq Tryz.underlying96 rfl (by rw[hsz64];exact Tryz.size96o) ?_))
       go_at_call 63
       refine(HST.out _).mono ?_
       rintro _ w7 ⟨rfl,hb7⟩
       have hM7:=HMq.out.later hb7
       have hsv7:=hM7.sv
       have hM8:Xdj w (w7.setRow gS (arr .u32 (Sha.step sm bk).list)) gS ag ac al (Sha.step sm bk):=by
        refine⟨?_,setRow_heap _ _ _ _ _ _ hsv7,⟨hM7.rd.val,hM7.rd.room,hM7.rd.most,fun h0=>?_,hM7.rd.hi,hM7.rd.nil⟩,below_setRow hM7.bel (by omega) _⟩
        ·rw[setRow_other _ _ _ _ (by omega)];exact hM7.res
        ·obtain⟨b,off,ha,hbw,hc⟩:=hM7.rd.cells h0
         injection ha with ha'
         injection ha' with hb1 hb2
         subst hb1 hb2
         refine⟨ag,0,rfl,by simpa [World.setRow] using hbw,fun j hj=>?_⟩
         rw[World.cell?_of_block (w:=w7) (setRow_other _ _ _ _ (show ag≠gS by omega))]
         exact hc j hj
       have HM8:=hid hM8
       have hszS:(arr .u32 (Sha.step sm bk).list).size=8:=Qas _ _
       clear hM8 hM7
       go_wp2_with (refine wpList_store_rowTo rfl 95 _ _ rfl rfl gS (arr .u32 (Sha.step sm bk).list) rfl rfl 95 _ hsv7 (by rw[hszS];exact Tryz.size95) (by rw[hszS];exact hsz8) (Qa7 _ _) ?_)
       clear hsv7
       generalize hW8:w7.setRow gS (arr .u32 (Sha.step sm bk).list)=W8 at *
       clear hW8
       go_wp2
       exact⟨⟨m+1,by omega,by go_num,by rw[HNX2.out];exact HM8.out⟩,by simp[intOf];omega⟩
    ·obtain rfl:m=M:=by omega
     have hcond:¬64*(m:Int)+64<=(aln:Int):=by have:=HMA.out;omega
     have hsv:=hM.sv
     have hres:=hM.res
     have hbel:=hM.bel
     have HBY:=hid (fun W:World=>Qlx (blocks m al Sha.start) W (HOK.out m))
     rw[<-HD2.out] at HBY
     have HM:=hid hM
     have hsz8:(arr .u32 (blocks m al Sha.start).list).size=8:=Qas _ _
     clear hM
     go_wp2_with (refine wpList_load_row rfl 95 _ rfl gS rfl 95 (arr .u32 (blocks m al Sha.start).list) (0,0) _ hsv Tryz.underlying95 rfl (by rw[hsz8];exact Tryz.size95) ?_)
     go_at_call 64
     refine(HBY.out _).mono ?_
     rintro _ w7 ⟨rfl,hb7⟩
     have hM7:=HM.out.later hb7
     have hres7:=hM7.res
     have hbel7:=hM7.bel
     have hsz32:(arr .u8 (digest fl)).size=32:=by rw[HD2.out];exact Qas _ _
     clear hM7
     go_wp2_with (refine wpList_store_rowTo rfl 36 _ _ rfl rfl w.heap.size (arr .u8 (digest fl)) rfl rfl 36 _ hres7 (by rw[hsz32];exact Tryz.size36) (by rw[hsz32];rfl) (Qa7 _ _) ?_)
     refine bodyPost_ret (results_cell_row (ty:=36) rfl _ _ _ _ _ _ _ rfl (setRow_heap _ _ _ _ _ _ hres7) Tryz.underlying36 rfl (by rw[hsz32];exact Tryz.size36)) rfl ?_
     exact⟨by rw[HFLE.out],below_setRow hbel7 (Nat.le_refl _) _⟩
end Sh
/-
 What is read has the digest that its head says; the document's digest of one row.
-/
section
open Go.RowKit
theorem Tryz.zero36p:∀w,(zeroValue 36).run Tryz.prog w= .ok (.agg (u8A z32)) w:=fun w=>by kernel_rfl
theorem Tryz.size36p:(Tryz.prog.info? 36).map (·.size)=some 32:=by kernel_rfl
theorem Xkl(b off cap:Nat)(zs:List Int)(w:World)(hr:Ri w .u8 (some ⟨b,off,none⟩) cap zs)(hn:zs.length<=100000):
 Calls Tryz.prog 22 #[.slice (some ⟨b,off,none⟩) zs.length cap] w fun e w'=>e= .returned (.agg (u8A (Qfb zs)))∧Below w.heap.size w w':=by
 have b0:=Qbp w (.cells (u8A z32) 36)
 have e0:=Qba w (.cells (u8A z32) 36)
 have s0:(w.alloc (.cells (u8A z32) 36)).heap.size=w.heap.size+1:=by simp
 have b1:=Qbp (w.alloc (.cells (u8A z32) 36)) (.cells #[.slice (some ⟨b,off,none⟩) zs.length cap] 22)
 have e1:=Qba (w.alloc (.cells (u8A z32) 36)) (.cells #[.slice (some ⟨b,off,none⟩) zs.length cap] 22)
 rw[s0] at e1
 have hps:Sh.Ps ((w.alloc (.cells (u8A z32) 36)).alloc (.cells #[.slice (some ⟨b,off,none⟩) zs.length cap] 22)) (some ⟨w.heap.size+1,0,none⟩) 1 [Qka zs]:=by
  refine⟨Nat.le_refl _,by unfold maxLen;omega,fun _=>⟨w.heap.size+1,0,rfl,by simp,fun j hj=>?_⟩⟩
  have:j=0:=by simp at hj;omega
  subst this
  exact⟨.slice (some ⟨b,off,none⟩) zs.length cap,some ⟨b,off,none⟩,cap,by rw[Nat.zero_add];exact Joins.cell_of_block e1 0,(hr.rdS.later b0).later b1⟩
 have HSM:=hid (Sh.Xh7 (some ⟨w.heap.size+1,0,none⟩) 1 [Qka zs] _ hps (by simp[Qey];omega))
 rw[show [Qka zs].flatten=Qka zs from by simp,Qzq] at HSM
 change Hid (Calls Tryz.prog 41 #[.slice (some ⟨w.heap.size+1,0,none⟩) 1 1] _ fun e w'=>e= .returned (.agg (u8A (Qfb zs)))∧_) at HSM
 have HB1:=hid (Bn b0 b1)
 have HE0:=hid ((b1.block _ (by rw[s0];omega)).trans e0)
 have HG:Hid (w.heap.size<((w.alloc (.cells (u8A z32) 36)).alloc (.cells #[.slice (some ⟨b,off,none⟩) zs.length cap] 22)).heap.size):=by show _<_;simp;omega
 have hdl:=Qf6 zs
 have HZ:Hid ((u8A z32).size=32):=rfl
 generalize Qfb zs=d at *
 generalize zs.length=L at *
 have HDL:=hid hdl
 clear b0 e0 b1 e1 hps hr hdl
 go_enter Tryz.func22,Tryz.ntmps22
 go_wp2_with (refine Qac rfl 36 rfl (some 2) rfl (u8A z32) Tryz.zero36p w.heap.size rfl ?_)
 refine HSM.out.mono ?_
 rintro _ W2 ⟨rfl,hb2⟩
 have HE2:=hid ((hb2.block _ HG.out).trans HE0.out)
 have HB2:=hid (Bn HB1.out hb2)
 clear hb2 HSM HE0 HB1 HG
 go_wp2_with (refine wpList_store_rowTo rfl 36 _ _ rfl rfl w.heap.size (u8A d) rfl rfl 36 _ HE2.out (by rw[Qco,HDL.out];exact Tryz.size36p) (by rw[HZ.out,Qco,HDL.out]) (Qji _) ?_)
 refine bodyPost_ret (results_cell_row (ty:=36) rfl _ _ _ _ _ _ _ rfl (setRow_heap _ _ _ _ _ _ HE2.out) Tryz.underlying36 rfl (by rw[Qco,HDL.out];exact Tryz.size36p)) rfl ?_
 exact⟨rfl,below_setRow HB2.out (Nat.le_refl _) _⟩
end
/-
 The document's numbers of a head.
-/
section
open Go.RowKit
theorem Xcb(w:World):Calls Tryz.prog 84 #[.int .i64 16] w fun e w'=>e= .returned (.bool true)∧w'=w:=by
 go_enter Tryz.func84,Tryz.ntmps84
 go_wp2
 go_ret
 exact⟨rfl,rfl⟩
theorem Xby(w:World):Calls Tryz.prog 54 #[.int .i64 16,.int .i64 2] w fun e w'=>e= .returned (.int .i64 0)∧w'=w:=by
 go_enter Tryz.func54,Tryz.ntmps54
 go_wp2_with fail
 refine(Xcb _).mono ?_
 rintro _ W1 ⟨rfl,hw⟩
 obtain rfl:=hw.symm
 clear hw
 go_wp2
 go_ret
 exact⟨rfl,rfl⟩
theorem Xma(zs:List Int)(h:2<=zs.length):Qke (zs.take 2)=zs.getD 1 0*256+zs.getD 0 0:=by
 match zs,h with
 | x::y::t,_=>simp[Qke,Sh.Wd.Xgh,Sh.Wd.Qd8]
theorem Qna(a:Option Addr)(cap L:Nat)(zs:List Int)(w:World)(hr:Ri w .u8 a cap zs)(h:2<=zs.length)(hm:zs.length<=1000000)(hL:L=zs.length):
 Calls Tryz.prog 36 #[.slice a L cap,.int .i64 16,.int .i64 2] w fun e w'=>e= .returned (.tuple #[.int .u64 (Qke (zs.take 2)),.int .i64 0])∧w'=w:=by
 subst hL
 rw[Xma zs h]
 obtain⟨b,off,rfl,hb,hc⟩:=hr.cells (by omega)
 have c0:=hc 0 (by omega)
 have c1:=hc 1 (by omega)
 have f0:=wf_u8 (hr.fits 0)
 have f1:=wf_u8 (hr.fits 1)
 have hroom:=hr.room
 have hmost:=hr.most
 unfold maxLen at hmost
 rw[Nat.add_zero] at c0
 generalize zs.getD 0 0=z0 at *
 generalize zs.getD 1 0=z1 at *
 generalize zs.length=L at *
 clear hr hc
 have h1:¬(L:Int)<2:=by omega
 obtain⟨f00,f01⟩:=f0
 obtain⟨f10,f11⟩:=f1
 have g1:z1%18446744073709551616=z1:=by omega
 have g2:(z1*256)%18446744073709551616=z1*256:=by omega
 have g3:z0%18446744073709551616=z0:=by omega
 have g4:(z1*256+z0)%18446744073709551616=z1*256+z0:=by omega
 have hLp:(0:Int)<(L:Int):=by omega
 have hLq:(1:Int)<(L:Int):=by omega
 go_enter Tryz.func36,Tryz.ntmps36
 go_wp2_with fail
 refine(Xby _).mono ?_
 rintro _ W1 ⟨rfl,hw⟩
 obtain rfl:=hw.symm
 clear hw
 go_wp2_with fail
 go_loopw [9,10] (fun y i wr=>wr=w∧((i= .int .i64 0∧y= .int .u64 0)∨(i= .int .i64 1∧y= .int .u64 z1)∨(i= .int .i64 2∧y= .int .u64 (z1*256+z0)))) (fun _ i _=>2-(intOf i).toNat)
 case atStart=>exact⟨rfl,.inl ⟨rfl,rfl⟩⟩
 case round=>
  obtain⟨rfl,⟨rfl,rfl⟩ | ⟨rfl,rfl⟩ | ⟨rfl,rfl⟩⟩:=hrel
  ·go_wp2
   exact⟨⟨trivial,.inr (.inl ⟨rfl,by go_num⟩)⟩,by decide⟩
  ·go_wp2
   exact⟨⟨trivial,.inr (.inr ⟨rfl,by go_num⟩)⟩,by decide⟩
  ·go_wp2
   go_ret2
   exact⟨rfl,rfl⟩
theorem Qws(k:Nat)(w:World)(hk:k<=5000):Calls Tryz.prog 34 #[.int .i64 (44+(k:Int))] w fun e w'=>e= .returned (.int .i64 (Qcv k:Int))∧w'=w:=by
 have e:(44+(k:Int)+512-1).tdiv 512=(Qcv k:Int):=by
  rw[Int.tdiv_eq_ediv_of_nonneg (by omega)];unfold Qcv;omega
 have e1:(Qcv k:Int)<=100:=by unfold Qcv;omega
 have e2:(0:Int)<=(Qcv k:Int):=by omega
 go_enter Tryz.func34,Tryz.ntmps34
 go_wp2
 go_ret
 exact⟨by congr 2,rfl⟩
theorem Xku{zs:List Int}(h:zs.take 4≠ [83,67,72,75]):Qi6 zs=none:=by unfold Qi6;rw[if_neg (fun q=>h q.2.1)]
theorem Qnd(a:Option Addr)(cap:Nat)(zs:List Int)(w:World)(hr:Ri w .u8 a cap zs)(hm:zs.length<=1000000):
 Calls Tryz.prog 33 #[.slice a zs.length cap] w fun e w'=>(∃n k:Int,e= .returned (.tuple #[.int .i64 n,.int .i64 k,.bool (Qi6 zs).isSome])∧∀r,Qi6 zs=some r->k=(r.2.1:Int)∧n=(r.1:Int))∧w'=w:=by
 by_cases hs:zs.length<44
 ·rw[Qr7 hs]
  have h1:(zs.length:Int)<44:=by omega
  generalize zs.length=L at *
  clear hr
  go_enter Tryz.func33,Tryz.ntmps33
  go_wp2
  go_ret3
  exact⟨⟨_,_,rfl,fun _ h=>by cases h⟩,rfl⟩
 obtain⟨b,off,rfl,_,_⟩:=hr.cells (by omega)
 have h1:¬(zs.length:Int)<44:=by omega
 have hroom:=hr.room
 have hmost:=hr.most
 unfold maxLen at hmost
 have HZ:=hid hr.fits
 have ht4:=(hr.take 4).text _ (Below.refl _ _)
 rw[show(zs.take 4).length=4 from by simp;omega] at ht4
 have HWA:=hid (Qna _ (cap-4) (zs.length-4) (zs.drop 4) w (hr.tail 4 (by omega) b off rfl) (by simp;omega) (by simp;omega) (by simp))
 have HWB:=hid (Qna _ (cap-6) (zs.length-6) (zs.drop 6) w (hr.tail 6 (by omega) b off rfl) (by simp;omega) (by simp;omega) (by simp))
 obtain⟨n,hn,hn1⟩:=Qjf 2 ((zs.drop 4).take 2) (by simp;omega) (Xka HZ.out 4 2)
 obtain⟨k,hk,hk1⟩:=Qjf 2 ((zs.drop 6).take 2) (by simp;omega) (Xka HZ.out 6 2)
 rw[hn] at HWA
 rw[hk] at HWB
 have HOE:Hid (zs.take 4= [83,67,72,75]->Qi6 zs=if Qpv n k=true then some (n,k,(zs.drop 8).take 32,(Qke ((zs.drop 40).take 4)).toNat) else none):=fun hq=>by
  unfold Qi6
  rw[hn,hk]
  simp only[Int.toNat_natCast,hq,true_and,show 44<=zs.length from by omega]
 by_cases hmk:zs.take 4= [83,67,72,75]
 ·have hOE:=HOE.out hmk
  have hst:strOfNums (zs.take 4)=⟨#[83,67,72,75]⟩:=by rw[hmk];decide +kernel
  rw[hst] at ht4
  clear hst hmk HOE hr HZ hn hk
  obtain⟨o,hO⟩:∃o,o=Qi6 zs:=⟨_,rfl⟩
  rw[<-hO] at hOE|-
  generalize zs.length=L at *
  generalize (Qke ((zs.drop 40).take 4)).toNat=s0 at *
  generalize (zs.drop 8).take 32=d0 at *
  clear hO
  have hc1:¬cap<=4:=by omega
  have hc2:4<cap:=by omega
  have hc3:¬cap-4=0:=by omega
  have hc4:4<=cap:=by omega
  have hd1:¬cap<=6:=by omega
  have hd2:6<cap:=by omega
  have hd3:¬cap-6=0:=by omega
  have hd4:6<=cap:=by omega
  have hL4:4<=L:=by omega
  have hL6:6<=L:=by omega
  have hw1:((n:Int)+9223372036854775808)%18446744073709551616-9223372036854775808=(n:Int):=by omega
  have hw2:((k:Int)+9223372036854775808)%18446744073709551616-9223372036854775808=(k:Int):=by omega
  have HOEH:=hid hOE
  clear hOE
  go_enter Tryz.func33,Tryz.ntmps33
  go_wp2_with fail
  refine HWA.out.mono ?_
  rintro _ W1 ⟨rfl,hw⟩
  obtain rfl:=hw.symm
  clear hw HWA
  go_wp2_with fail
  refine HWB.out.mono ?_
  rintro _ W1 ⟨rfl,hw⟩
  obtain rfl:=hw.symm
  clear hw HWB
  by_cases e1:(1:Int)<=(n:Int)
  ·by_cases e2:(n:Int)<=4096
   ·by_cases e3:(1:Int)<=(k:Int)
    ·by_cases e4:(k:Int)<=4100
     ·have hb:Qpv n k=true:=by simp[Qpv];omega
      have hOE:=HOEH.out
      rw[if_pos hb] at hOE
      subst hOE
      clear HOEH hb
      go_wp2
      go_ret3
      exact⟨⟨_,_,rfl,fun r h=>by cases h;exact⟨rfl,rfl⟩⟩,rfl⟩
     ·have hb:¬Qpv n k=true:=by simp[Qpv];omega
      have hdd:=decide_eq_false e4
      have hOE:=HOEH.out
      rw[if_neg hb] at hOE
      subst hOE
      clear HOEH hb
      go_wp2
      go_ret3
      exact⟨⟨_,_,rfl,fun _ h=>by cases h⟩,rfl⟩
    ·have hb:¬Qpv n k=true:=by simp[Qpv];omega
     have hdd:=decide_eq_false e3
     have hOE:=HOEH.out
     rw[if_neg hb] at hOE
     subst hOE
     clear HOEH hb
     go_wp2
     go_ret3
     exact⟨⟨_,_,rfl,fun _ h=>by cases h⟩,rfl⟩
   ·have hb:¬Qpv n k=true:=by simp[Qpv];omega
    have hdd:=decide_eq_false e2
    have hOE:=HOEH.out
    rw[if_neg hb] at hOE
    subst hOE
    clear HOEH hb
    go_wp2
    go_ret3
    exact⟨⟨_,_,rfl,fun _ h=>by cases h⟩,rfl⟩
  ·have hb:¬Qpv n k=true:=by simp[Qpv];omega
   have hdd:=decide_eq_false e1
   have hOE:=HOEH.out
   rw[if_neg hb] at hOE
   subst hOE
   clear HOEH hb
   go_wp2
   go_ret3
   exact⟨⟨_,_,rfl,fun _ h=>by cases h⟩,rfl⟩
 ·have hne:((strOfNums (zs.take 4)).toList == [83,67,72,75])=false:=by
   have h1:=str_eq (xs:=zs.take 4) (ys:= [83,67,72,75]) (hr.take 4).fits (fun j=>by
    match j with
    | 0=>rfl
    | 1=>rfl
    | 2=>rfl
    | 3=>rfl
    | j+4=>simp;exact Qcc _)
   rw[show strOfNums [83,67,72,75]=⟨#[83,67,72,75]⟩ from by decide +kernel] at h1
   rw[show [83,67,72,75]=(⟨#[83,67,72,75]⟩:ByteArray).toList from by decide +kernel,h1]
   exact beq_eq_false_iff_ne.2 hmk
  rw[Xku hmk]
  generalize strOfNums (zs.take 4)=st at *
  have hL4:4<=zs.length:=by omega
  generalize zs.length=L at *
  clear HWA HWB HOE HZ hr hn hk hmk
  go_enter Tryz.func33,Tryz.ntmps33
  go_wp2
  go_ret3
  exact⟨⟨_,_,rfl⟩,rfl⟩
theorem Qyt(a:Option Addr)(cap:Nat)(zs:List Int)(w:World)(hr:Ri w .u8 a cap zs)(hm:zs.length<=1000000):
 Calls Tryz.prog 33 #[.slice a zs.length cap] w fun e w'=>(∃n k:Int,e= .returned (.tuple #[.int .i64 n,.int .i64 k,.bool (Qi6 zs).isSome])∧∀r,Qi6 zs=some r->k=(r.2.1:Int))∧w'=w:=
 (Qnd a cap zs w hr hm).mono fun _ _ ⟨⟨n,k,h1,h2⟩,h3⟩=>⟨⟨n,k,h1,fun r h=>(h2 r h).1⟩,h3⟩
end
/-
 The document's Word of four bytes.
-/
section
open Go.RowKit
theorem Qtk(w:World):Calls Tryz.prog 84 #[.int .i64 32] w fun e w'=>e= .returned (.bool true)∧w'=w:=by
 go_enter Tryz.func84,Tryz.ntmps84
 go_wp2
 go_ret
 exact⟨rfl,rfl⟩
theorem Qs2(w:World):Calls Tryz.prog 54 #[.int .i64 32,.int .i64 2] w fun e w'=>e= .returned (.int .i64 0)∧w'=w:=by
 go_enter Tryz.func54,Tryz.ntmps54
 go_wp2_with fail
 refine(Qtk _).mono ?_
 rintro _ W1 ⟨rfl,hw⟩
 obtain rfl:=hw.symm
 clear hw
 go_wp2
 go_ret
 exact⟨rfl,rfl⟩
theorem Xmb(zs:List Int)(h:4<=zs.length):Qke (zs.take 4)=((zs.getD 3 0*256+zs.getD 2 0)*256+zs.getD 1 0)*256+zs.getD 0 0:=by
 match zs,h with
 | x::y::z::u::t,_=>simp[Qke,Sh.Wd.Xgh,Sh.Wd.Qd8]
theorem Qx2(a:Option Addr)(cap L:Nat)(zs:List Int)(w:World)(hr:Ri w .u8 a cap zs)(h:4<=zs.length)(hm:zs.length<=1000000)(hL:L=zs.length):
 Calls Tryz.prog 36 #[.slice a L cap,.int .i64 32,.int .i64 2] w fun e w'=>e= .returned (.tuple #[.int .u64 (Qke (zs.take 4)),.int .i64 0])∧w'=w:=by
 subst hL
 rw[Xmb zs h]
 obtain⟨b,off,rfl,hb,hc⟩:=hr.cells (by omega)
 have c0:=hc 0 (by omega)
 have c1:=hc 1 (by omega)
 have c2:=hc 2 (by omega)
 have c3:=hc 3 (by omega)
 have f0:=wf_u8 (hr.fits 0)
 have f1:=wf_u8 (hr.fits 1)
 have f2:=wf_u8 (hr.fits 2)
 have f3:=wf_u8 (hr.fits 3)
 have hroom:=hr.room
 have hmost:=hr.most
 unfold maxLen at hmost
 rw[Nat.add_zero] at c0
 generalize zs.getD 0 0=z0 at *
 generalize zs.getD 1 0=z1 at *
 generalize zs.getD 2 0=z2 at *
 generalize zs.getD 3 0=z3 at *
 generalize zs.length=L at *
 clear hr hc
 have h1:¬(L:Int)<4:=by omega
 obtain⟨f00,f01⟩:=f0
 obtain⟨f10,f11⟩:=f1
 obtain⟨f20,f21⟩:=f2
 obtain⟨f30,f31⟩:=f3
 have g1:z3%18446744073709551616=z3:=by omega
 have g2:z2%18446744073709551616=z2:=by omega
 have g3:z1%18446744073709551616=z1:=by omega
 have g4:z0%18446744073709551616=z0:=by omega
 have k1:(z3*256)%18446744073709551616=z3*256:=by omega
 have k2:(z3*256+z2)%18446744073709551616=z3*256+z2:=by omega
 have k3:((z3*256+z2)*256)%18446744073709551616=(z3*256+z2)*256:=by omega
 have k4:((z3*256+z2)*256+z1)%18446744073709551616=(z3*256+z2)*256+z1:=by omega
 have k5:(((z3*256+z2)*256+z1)*256)%18446744073709551616=((z3*256+z2)*256+z1)*256:=by omega
 have k6:(((z3*256+z2)*256+z1)*256+z0)%18446744073709551616=((z3*256+z2)*256+z1)*256+z0:=by omega
 have hLp:(0:Int)<(L:Int):=by omega
 have hLq:(1:Int)<(L:Int):=by omega
 have hLr:(2:Int)<(L:Int):=by omega
 have hLs:(3:Int)<(L:Int):=by omega
 go_enter Tryz.func36,Tryz.ntmps36
 go_wp2_with fail
 refine(Qs2 _).mono ?_
 rintro _ W1 ⟨rfl,hw⟩
 obtain rfl:=hw.symm
 clear hw
 go_wp2_with fail
 go_loopw [9,10] (fun y i wr=>wr=w∧((i= .int .i64 0∧y= .int .u64 0)∨(i= .int .i64 1∧y= .int .u64 z3)∨(i= .int .i64 2∧y= .int .u64 (z3*256+z2))∨(i= .int .i64 3∧y= .int .u64 ((z3*256+z2)*256+z1))∨(i= .int .i64 4∧y= .int .u64 (((z3*256+z2)*256+z1)*256+z0)))) (fun _ i _=>4-(intOf i).toNat)
 case atStart=>exact⟨rfl,.inl ⟨rfl,rfl⟩⟩
 case round=>
  obtain⟨rfl,⟨rfl,rfl⟩ | ⟨rfl,rfl⟩ | ⟨rfl,rfl⟩ | ⟨rfl,rfl⟩ | ⟨rfl,rfl⟩⟩:=hrel
  ·go_wp2
   exact⟨⟨trivial,.inr (.inl ⟨rfl,by go_num⟩)⟩,by decide⟩
  ·go_wp2
   exact⟨⟨trivial,.inr (.inr (.inl ⟨rfl,by go_num⟩))⟩,by decide⟩
  ·go_wp2
   exact⟨⟨trivial,.inr (.inr (.inr (.inl ⟨rfl,by go_num⟩)))⟩,by decide⟩
  ·go_wp2
   exact⟨⟨trivial,.inr (.inr (.inr (.inr ⟨rfl,by go_num⟩)))⟩,by decide⟩
  ·go_wp2
   go_ret2
   exact⟨rfl,rfl⟩
end
/-
 The document's Head.
-/
section
open Go.RowKit
def Ql9(l:List Int)(i:Nat):List Int:=l.take i++List.replicate (32-i) 0
theorem Qy2(l:List Int)(i:Nat)(hl:l.length=32)(hi:i<=32):(Ql9 l i).length=32:=by simp[Ql9];omega
theorem Qzz(l:List Int)(i:Nat)(hl:l.length=32)(hi:i<32):(Ql9 l i).set i (l.getD i 0)=Ql9 l (i+1):=by
 unfold Ql9
 rw[List.set_append_right _ _ (by simp;omega),show i-(l.take i).length=0 from by simp;omega,show 32-i=(32-(i+1))+1 from by omega,List.replicate_succ,List.set_cons_zero]
 have e:l.getD i 0=l[i]'(by omega):=by simp[List.getD,List.getElem?_eq_getElem (show i<l.length from by omega)]
 rw[e,List.take_succ_eq_append_getElem (show i<l.length from by omega),List.append_assoc]
 rfl
theorem Qyc(l:List Int)(hl:l.length=32):Ql9 l 32=l:=by simp[Ql9,<-hl]
theorem Qxb(l:List Int):Ql9 l 0=z32:=by simp[Ql9,z32]
theorem Xi9(l:List Int)(i:Nat)(v:Int):(u8A l).setIfInBounds i (.int .u8 v)=u8A (l.set i v):=by simp[u8A,List.map_set]
theorem Xki(l:List Int)(i:Nat)(h:i<l.length):(u8A l)[i]?=some (.int .u8 (l.getD i 0)):=by
 simp[u8A,List.getD,List.getElem?_eq_getElem h]
theorem Xgd(a:Option Addr)(cap:Nat)(zs:List Int)(w:World)(hr:Ri w .u8 a cap zs)(hm:zs.length<=1000000):
 Calls Tryz.prog 17 #[.slice a zs.length cap] w fun e w'=>e= .returned (.tuple #[.agg (u8A (Xj9 zs).1),.int .i64 ((Xj9 zs).2.1:Int),.int .i64 (Xj9 zs).2.2])∧Below w.heap.size w w':=by
 have b0:=Qbp w (.cells (u8A z32) 36)
 have s0:(w.alloc (.cells (u8A z32) 36)).heap.size=w.heap.size+1:=by simp
 have e1:=Qba (w.alloc (.cells (u8A z32) 36)) (.cells (u8A z32) 36)
 have b1:=Qbp (w.alloc (.cells (u8A z32) 36)) (.cells (u8A z32) 36)
 have e0:=(b1.block _ (by omega)).trans (Qba w (.cells (u8A z32) 36))
 have hB:=Bn b0 b1
 rw[s0] at e1
 have HSZ:=hid (Qyt a cap zs ((w.alloc (.cells (u8A z32) 36)).alloc (.cells (u8A z32) 36)) (hr.later hB) hm)
 have HZ:=hid hr.fits
 have HR:=hid hr
 have HLZ:Hid ((u8A z32).size=32):=rfl
 have HE0:=hid e0
 have HE1:=hid e1
 have HB:=hid hB
 obtain⟨R,hR⟩:∃R,R=Xj9 zs:=⟨_,rfl⟩
 rw[<-hR]
 have HRE:=hid hR
 unfold Xj9 at HRE
 clear hr hR b0 b1 e0 e1 hB s0
 cases ho:Qi6 zs with
 | none=>
   rw[ho] at HSZ HRE
   dsimp only at HRE
   have hRE:=HRE.out
   subst hRE
   clear ho HRE HR HZ
   generalize zs.length=L at *
   go_enter Tryz.func17,Tryz.ntmps17
   go_wp2_with (first
    | (refine Qac rfl 36 rfl (some 2) rfl (u8A z32) Tryz.zero36p w.heap.size rfl ?_)
    | (refine Qac rfl 36 rfl (some 5) rfl (u8A z32) Tryz.zero36p (w.heap.size+1) (by simp) ?_))
   refine HSZ.out.mono ?_
   rintro _ W1 ⟨⟨n,k,rfl,_⟩,hw⟩
   obtain rfl:=hw.symm
   clear hw HSZ
   generalize (w.alloc (.cells (u8A z32) 36)).alloc (.cells (u8A z32) 36)=W at *
   go_wp2_with (first
    | (refine wpList_load_row rfl 36 _ rfl (w.heap.size+1) rfl 36 (u8A z32) (0,0) _ HE1.out Tryz.underlying36 rfl (by rw[HLZ.out];exact Tryz.size36p) ?_)
    | (refine wpList_store_rowTo rfl 36 _ _ rfl rfl w.heap.size (u8A z32) rfl rfl 36 _ HE0.out (by rw[HLZ.out];exact Tryz.size36p) rfl (Qji _) ?_))
   refine bodyPost_ret (Qfe rfl _ _ w.heap.size (.agg (u8A z32)) rfl (run_loadVar_row _ w.heap.size 36 36 (u8A z32) (0,0) _ (setRow_heap _ _ _ _ _ _ HE0.out) Tryz.underlying36 rfl (by rw[HLZ.out];exact Tryz.size36p))) rfl ?_
   exact⟨rfl,below_setRow HB.out (Nat.le_refl _) _⟩
 | some r=>
   obtain⟨n,k,d,s⟩:=r
   obtain⟨h44,h1n,hn4,h1k,hk4,hdd⟩:=Qth ho
   have hdl:d.length=32:=by rw[hdd];simp;omega
   have HDG:Hid (∀q,q<32->d.getD q 0=zs.getD (8+q) 0):=fun q hq=>by
    rw[hdd]
    simp only[List.getD,List.getElem?_take,List.getElem?_drop,if_pos hq]
   rw[ho] at HSZ HRE
   dsimp only at HRE
   have hRE:=HRE.out
   subst hRE
   have HDL:=hid hdl
   have HBK:Hid (∀V,Calls Tryz.prog 34 #[.int .i64 (44+(k:Int))] V fun e w'=>e= .returned (.int .i64 (Qcv k:Int))∧w'=V):=fun V=>Qws k V (by omega)
   dsimp only
   obtain⟨x,hx⟩:∃x,x=Qcv k:=⟨_,rfl⟩
   rw[<-hx] at HBK|-
   obtain⟨b,off,rfl,hbw,hc⟩:=HR.out.cells (by omega)
   have HC:Hid (∀V:World,Below w.heap.size w V->∀q,q<32->V.cell? ⟨b,off+(8+q),none⟩=some (.int .u8 (d.getD q 0))):=fun V hV q hq=>by
    rw[HDG.out q hq,hV.cell (p:=⟨b,off+(8+q),none⟩) hbw]
    exact hc (8+q) (by omega)
   have hroom:=HR.out.room
   have hmost:=HR.out.most
   unfold maxLen at hmost
   have HZ8:Hid (∀q,q<32->0<=d.getD q 0∧d.getD q 0<=255):=fun q hq=>by rw[HDG.out q hq];exact wf_u8 (HZ.out _)
   clear ho HRE hdd hdl hx hc hbw HZ HR HDG
   generalize zs.length=L at *
   go_enter Tryz.func17,Tryz.ntmps17
   go_wp2_with (first
    | (refine Qac rfl 36 rfl (some 2) rfl (u8A z32) Tryz.zero36p w.heap.size rfl ?_)
    | (refine Qac rfl 36 rfl (some 5) rfl (u8A z32) Tryz.zero36p (w.heap.size+1) (by simp) ?_))
   refine HSZ.out.mono ?_
   rintro _ W1 ⟨⟨n',k',rfl,hkk⟩,hw⟩
   obtain rfl:=hw.symm
   have hk2:=hkk _ rfl
   dsimp only at hk2
   subst hk2
   clear hw HSZ hkk
   have HNE:Hid (w.heap.size+1≠w.heap.size):=by show _≠_;omega
   have HGS:Hid (w.heap.size<=w.heap.size+1):=Nat.le_succ _
   generalize (w.alloc (.cells (u8A z32) 36)).alloc (.cells (u8A z32) 36)=W at *
   generalize w.heap.size+1=g1 at *
   have HFZ:=hid (Qxb d)
   go_wp2_with fail
   go_loopw [9] (fun i wr=>∃q:Nat,q<=32∧i= .int .i64 (q:Int)∧Hid (wr.heap[w.heap.size]?=some (.cells (u8A z32) 36))∧Hid (wr.heap[g1]?=some (.cells (u8A (Ql9 d q)) 36))∧Hid (Below w.heap.size w wr)) (fun i _=>32-(intOf i).toNat)
   case atStart=>exact⟨0,by omega,rfl,HE0.out,by rw[HFZ.out];exact HE1.out,HB.out⟩
   case round=>
    obtain⟨q,hq,rfl,HA,HG,HQ⟩:=hrel
    by_cases hlt:q<32
    ·have h1:(q:Int)<32:=by omega
     have ca:=HC.out wr HQ.out q hlt
     have hfl:=Qy2 d q HDL.out (by omega)
     have cb:=(Joins.cell_of_block HG.out q).trans (Xki _ q (by omega))
     have fz:=Joins.unfrozen_of_block HG.out q
     have hput:=Joins.block_setCell HG.out (i:=q) (.int .u8 (d.getD q 0))
     rw[Xi9,Qzz d q HDL.out hlt] at hput
     have hz:=HZ8.out q hlt
     generalize d.getD q 0=z at *
     have HP:=hid hput
     have HA2:Hid ((wr.setCell ⟨g1,q,none⟩ (.int .u8 z)).heap[w.heap.size]?=some (.cells (u8A z32) 36)):=(((Fg.refl g1 wr).put (i:=q) (.int .u8 z)).same _ (fun h=>HNE.out h.symm)).trans HA.out
     have HQ2:Hid (Below w.heap.size w (wr.setCell ⟨g1,q,none⟩ (.int .u8 z))):=HQ.out.setCell (show w.heap.size<=(Addr.mk g1 q none).block from HGS.out) _
     have hz0:=hz.1
     have hz1:=hz.2
     have h8:(8:Int)+(q:Int)<(L:Int):=by omega
     generalize (Ql9 d q).getD q 0=old at *
     clear hput hz hfl HA HG HQ HC HZ8 HBK HE0 HE1 HB HFZ
     go_wp2
     exact⟨⟨q+1,by omega,by go_num,HA2.out,HP.out,HQ2.out⟩,by simp[intOf];omega⟩
    ·obtain rfl:q=32:=by omega
     rw[Qyc d HDL.out] at HG
     have h1:¬((32:Nat):Int)<32:=by decide
     go_wp2_with fail
     have HLD:Hid (∀V:World,V.heap[g1]?=some (.cells (u8A d) 36)->(loadVar 36 ⟨g1,0,none⟩).run Tryz.prog V= .ok (.agg (u8A d)) V):=fun V hV=>
      run_loadVar_row V g1 36 36 (u8A d) (0,0) _ hV Tryz.underlying36 rfl (by rw[Qco,HDL.out];exact Tryz.size36p)
     have HWR:Hid (IntKind.i64.wrap (44+(k:Int))=44+(k:Int)):=by show _=_;rw[IntKind.wrap_i64];omega
     generalize hg0:w.heap.size=g0 at *
     have HGG:=hid hg0
     refine wp_region_held_drew (S:=fun V=>V.heap[g1]?=some (.cells (u8A d) 36)) (by kernel_rfl) HG.out (fun hS0=>?_)
     have HZ0:Hid (wr.drew.heap[g0]?=some (.cells (u8A z32) 36)):=HA.out
     have HB0:Hid (Below g0 w wr.drew):=HQ.out.drew
     clear HA HG HQ HC HZ8 HE0 HE1 HB HFZ hg0
     generalize wr.drew=v0 at *
     simp only[List.size_toArray,List.length_cons,List.length_nil,Nat.reduceAdd]
     refine Ord.tk (i:=0) (d:=30) (v:= .agg (u8A d)) rfl rfl ?hA0 (by assumption) ?_
     case hA0=>intro w hSw;exact(Qgt 36 (.tmp 5) rfl g1 0 rfl (HLD.out w hSw))
     simp only[Ord.s1,Ord.s2,Ord.s3]
     refine Ord.tk (i:=1) (d:=31) (v:=?vA1) rfl rfl ?hA1 (by assumption) ?_
     case hA1=>intro w hSw;go_simp;try with_reducible rfl
     simp only[Ord.s1,Ord.s2,Ord.s3]
     refine Ord.tk (i:=2) (d:=32) (v:= .int .i64 (44+(k:Int))) rfl rfl ?hA2 (by assumption) ?_
     case hA2=>intro w hSw;have q:=HWR.out;go_simp;try with_reducible rfl
     simp only[Ord.s1,Ord.s2,Ord.s3]
     refine wpAnyH_ready (rs:= [3]) (by as_aux_lemma=>kernel_rfl) (by simp) (AllReadyH.cons rfl (fun K hK=>?_) AllReadyH.nil)
     go_simp
     refine(HBK.out v0).mono ?_
     rintro _ v1 ⟨rfl,hw⟩
     obtain rfl:=hw.symm
     refine hK.out _ _ hS0 (fun _=>?_)
     clear hK K hw
     try simp only[Ord.s1,Ord.s2,Ord.s3]
     refine wpAnyH_ready (rs:= [4]) (by as_aux_lemma=>kernel_rfl) (by simp) (AllReadyH.cons rfl (fun K hK=>?_) AllReadyH.nil)
     rw[if_pos (by rfl)]
     refine wp_store_row 36 _ _ rfl g0 (u8A d) rfl rfl 36 _ HZ0.out (by rw[Qco,HDL.out];kernel_rfl) (by rw[Qco,Qco,HDL.out];rfl) (Qji d) ?_
     have hS2:(v0.setRow g0 (u8A d)).heap[g1]?=some (.cells (u8A d) 36):=(setRow_other _ _ _ _ HNE.out).trans hS0
     refine hK.out _ _ hS2 (fun _=>?_)
     clear hK K
     try simp only[Ord.s1,Ord.s2,Ord.s3]
     refine Ord.tk (i:=5) (d:=3) (v:=?vA5) rfl rfl ?hA5 (by assumption) ?_
     case hA5=>intro w hSw;go_simp;try with_reducible rfl
     simp only[Ord.s1,Ord.s2,Ord.s3]
     refine Ord.tk (i:=6) (d:=4) (v:=?vA6) rfl rfl ?hA6 (by assumption) ?_
     case hA6=>intro w hSw;go_simp;try with_reducible rfl
     simp only[Ord.s1,Ord.s2,Ord.s3]
     refine wpAnyH_done (by as_aux_lemma=>kernel_rfl) ?_ _
     go_wp2_with fail
     refine bodyPost_ret (Qfe rfl _ _ g0 (.agg (u8A d)) rfl (run_loadVar_row _ g0 36 36 (u8A d) (0,0) _ (setRow_heap _ _ _ _ _ _ HZ0.out) Tryz.underlying36 rfl (by rw[Qco,HDL.out];exact Tryz.size36p))) rfl ?_
     refine⟨rfl,?_⟩
     rw[HGG.out]
     exact below_setRow HB0.out (Nat.le_refl _) _
end
/-
 Plain facts: so many lengths out of runs, as the document reads them.
-/
section
open Hf
def Qew(n:Nat):Nat->List Int->List Int->Option (List Int×List Int)
 | 0,_,_=>none
 | f+1,l,zs=>if l.length<n then
  match zs with
  | []=>none
  | c::zs1=>match Qgi (n-l.length) zs1 with
    | none=>none
    | some (m,rs)=>if m=0 then none else Qew n f (l++List.replicate m c) rs
  else some (l,zs)
theorem Qdo(n f:Nat)(l zs:List Int):Qew n (f+1) l zs=if l.length<n then
 match zs with
 | []=>none
 | c::zs1=>match Qgi (n-l.length) zs1 with
   | none=>none
   | some (m,rs)=>if m=0 then none else Qew n f (l++List.replicate m c) rs
 else some (l,zs):=by cases zs<;>rfl
def Qkf(n:Nat)(zs:List Int):Option (List Int×List Int):=Qew n (zs.length+1) [] zs
end
end Go.Proofs.YtibjlbcnapoblaaGreatDoor
