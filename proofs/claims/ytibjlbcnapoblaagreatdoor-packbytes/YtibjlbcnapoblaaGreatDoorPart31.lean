/- Contracts and facts. -/
import Derived.Test.YtibjlbcnapoblaaGreatDoorPart30
import Derived.Test.YtibjlbcnapoblaaGreatDoorTie
import Derived.Test.YtibjlbcnapoblaaGreatDoorCards
import Derived.LaidMore
import Derived.Lib.LaidTab
import Derived.Stop.Joined
namespace Go.Proofs.YtibjlbcnapoblaaGreatDoor
set_option maxRecDepth 100000
set_option maxHeartbeats 6400000
section
open Go.RowKit Hf Lz
theorem Xes:Qb6 [97]= [0,1,97]:=by decide +kernel
theorem Xly:isC ([97]:List Int).length=true:=by decide
theorem Xlm:(Qhn [97]).length=512:=by rw[Qpk,Xes];rfl
theorem a_8:Qce [97]:=fun j=>by
 match j with
 | 0=>rfl
 | j+1=>simp;exact Qb8 _
theorem Xl5:∀j,(Lit.int .u8 (([0,1,97]:List Int).getD j 0)).wf=true:=fun j=>by
 match j with
 | 0=>rfl
 | 1=>rfl
 | 2=>rfl
 | j+3=>simp;exact Qb8 _
theorem Xkr:(Qhn [97]).take 8= [83,67,72,75,1,0,3,0]:=by
 unfold Qhn Qif
 rw[Xes]
 rfl
theorem Xlt:strOfNums [83,67,72,75,1,0,3,0]=⟨#[83,67,72,75,1,0,3,0]⟩:=by decide +kernel
theorem Xlp:strOfNums [97]=⟨#[97]⟩:=by decide +kernel
theorem Xiz(bs:List Int)(h8:Qce bs)(hn:bs.length<=10000)(w:World):Ri (w.alloc (.cells (u8A bs) 5)) .u8 (some ⟨w.heap.size,0,none⟩) bs.length bs:=by
 refine⟨Nat.le_refl _,by unfold maxLen;omega,fun _=>⟨w.heap.size,0,rfl,by simp,fun j hj=>?_⟩,h8⟩
 rw[Nat.zero_add,Joins.cell_of_block (Qbf w _) j]
 simp[u8A,List.getD,List.getElem?_eq_getElem hj]
theorem Xgs(bs:List Int)(he:∀j,(Lit.int .u8 ((Qb6 bs).getD j 0)).wf=true):∀j,(Lit.int .u8 ((Qhn bs).getD j 0)).wf=true:=by
 unfold Qhn
 have hd8:∀j,(Lit.int .u8 ((Qf4 bs).getD j 0)).wf=true:=fun j=>Qa8 (Qo2 bs j).1 (Qo2 bs j).2
 refine Qnc (Qnc (Qnc (Qub _ _ _ hd8) (Xb5 4 _)) he) (fun j=>?_)
 have:(List.replicate (512*Qdu (Qb6 bs).length-44-(Qb6 bs).length) (0:Int)).getD j 0=0:=by
  simp only[List.getD,List.getElem?_replicate]
  split<;>rfl
 rw[this];exact Qb8 _
theorem Xao(a:Option Addr)(cap n:Nat)(zs:List Int)(w:World)(hr:Ri w .u8 a cap zs)(hn:n<=10000):
 Calls Tryz.prog 9 #[.slice a zs.length cap,.int .i64 (n:Int)] w fun e w'=>e= .returned (.slice a (zs.take n).length cap)∧w'=w:=by
 have hroom:=hr.room
 by_cases h:n<zs.length
 ·obtain⟨b,off,rfl,_,_⟩:=hr.cells (by omega)
  have hl:(zs.take n).length=n:=by simp;omega
  rw[hl]
  generalize zs.length=L at *
  have h1:(n:Int)<(L:Int):=by omega
  have h2:n<=cap:=by omega
  clear hr hl
  go_enter Tryz.func9,Tryz.ntmps9
  go_wp2
  go_ret
  exact⟨rfl,rfl⟩
 ·have hl:(zs.take n).length=zs.length:=by simp;omega
  rw[hl]
  generalize zs.length=L at *
  have h1:¬(n:Int)<(L:Int):=by omega
  clear hr hl
  go_enter Tryz.func9,Tryz.ntmps9
  go_wp2
  go_ret
  exact⟨rfl,rfl⟩
theorem Xe1(w:World)(hL:Sh.Laid w):Calls Tryz.prog 15 #[] w fun e w'=>e= .returned (.bool true)∧Below w.heap.size w w':=by
 have kc:=Joins.run_convert_bytes_const_at (P:=Tryz.prog) w 22 5 #[.int .u8 97] 1 1 w.heap.size rfl Tryz.underlying22 Tryz.underlying5
 have hb0:=Qbr w (.cells #[.int .u8 97] 5 (1,2))
 have e0:=Qbf w (.cells #[.int .u8 97] 5 (1,2))
 have hri:Ri (w.alloc (.cells #[.int .u8 97] 5 (1,2))) .u8 (some ⟨w.heap.size,0,none⟩) 1 [97]:=by
  refine⟨Nat.le_refl _,by unfold maxLen;omega,fun _=>⟨w.heap.size,0,rfl,by simp,fun j hj=>?_⟩,a_8⟩
  have:j=0:=by simp at hj;omega
  subst this
  exact Joins.cell_of_block e0 0
 have HBY:Hid (Calls Tryz.prog 10 #[.slice (some ⟨w.heap.size,0,none⟩) 1 1] (w.alloc (.cells #[.int .u8 97] 5 (1,2))) (Qmw [97] (w.alloc (.cells #[.int .u8 97] 5 (1,2))))):=Qv4 _ _ [97] _ hri (by decide) (hL.later hb0) (fun _=>Xae _ _ [97] _ hri (by decide) (Xjc _ _ 97 _ hri))
 unfold Qmw at HBY
 have HB0:=hid hb0
 have HL:=hid hL
 obtain⟨P,hP⟩:∃P,P=Qhn [97]:=⟨_,rfl⟩
 rw[<-hP] at HBY
 have HPL:Hid (P.length=512):=by show _=_;rw[hP];exact Xlm
 have HP8:Hid (∀j,(Lit.int .u8 (P.getD j 0)).wf=true):=by rw[hP];exact Xgs [97] (by rw[Xes];exact Xl5)
 have HRD:Hid (Xjy P=(0,[97],1)):=by
  have:=Xiq [97] a_8 Xly []
  rw[List.append_nil,Xes,<-hP] at this
  exact this
 have HTK:Hid (strOfNums (P.take 8)=⟨#[83,67,72,75,1,0,3,0]⟩):=by show _=_;rw[hP,Xkr,Xlt]
 clear hb0 e0 hri hL hP
 go_enter Tryz.func15,Tryz.ntmps15
 go_wp2_with fail
 refine HBY.out.mono ?_
 rintro _ W1 ⟨hb1,⟨h,_⟩ | ⟨_,v,rfl,ho⟩⟩
 ·cases h
 obtain⟨a1,c1,rfl,hr1⟩:=Ri.own ho HP8.out
 have HB1:=hid (Bn HB0.out hb1)
 have HRP:=hid (Xjn a1 c1 P W1 hr1 (by rw[HPL.out];decide) (HL.out.later HB1.out))
 unfold Xbf at HRP
 rw[HRD.out] at HRP
 have HI1:=hid hr1
 have hroom:=hr1.room
 rw[HPL.out] at HRP hroom|-
 clear hb1 ho hr1 HBY kc
 go_wp2_with fail
 refine HRP.out.mono ?_
 rintro _ W2 ⟨hb2,⟨h,_⟩ | ⟨_,a2,c2,rfl,hr2⟩⟩
 ·exact absurd rfl h
 have HB2:=hid (Bn HB1.out hb2)
 have t1:=(HI1.out.take 8).text W2 hb2
 have t2:(convert 22 9 (.slice a2 1 c2)).run Tryz.prog W2= .ok (.string (strOfNums [97])) W2:=hr2.text W2 (Below.refl _ _)
 rw[HTK.out,show(P.take 8).length=8 from by have:=HPL.out;simp;omega] at t1
 dsimp only
 rw[Xlp] at t2
 have h8:8<=c1:=by omega
 clear hb2 hr2 HRP HRD HI1
 go_wp2_with fail
 go_ret
 exact⟨rfl,HB2.out⟩
end
section
open Go.ChangeShapes Go.WideShapes Go.ChangeAt Go.RowKit Sh.Sha
def Xc1:List (String×DataW Unit):= [("saltern/sha.start",Rows.laid_saltern_sha_start),("saltern/sha.constants",Rows.laid_saltern_sha_constants)]
theorem own:ownKnob Tryz.prog.godebug=none:=by kernel_rfl
theorem Xk4:Tryz.prog.globalNamed "saltern/sha.start" = some 0:=by kernel_rfl
theorem Xkp:Tryz.prog.globalNamed "saltern/sha.constants" = some 1:=by kernel_rfl
theorem Xkk:(Tryz.prog.globals[0]?).map (·.type)=some 95:=by kernel_rfl
theorem Xla:(Tryz.prog.globals[1]?).map (·.type)=some 138:=by kernel_rfl
theorem Tryz.cells56:Tryz.prog.cellsOf 56=1:=by kernel_rfl
theorem Tryz.cells95:Tryz.prog.cellsOf 95=8:=by kernel_rfl
theorem Tryz.cells138:Tryz.prog.cellsOf 138=64:=by kernel_rfl
theorem Xeb(os:Os)(args:Array Value):laidMetH Tryz.prog Xc1 ((World.doorLaid Tryz.prog 400 os).forCall (fun _ _=>0) ⟨#[],args,[]⟩).memory:=
 laidMetH_of_parts3 (fuel:=8) (laidMet_of_run' 8 (by kernel_rfl) (by kernel_rfl)) (by kernel_rfl) (by kernel_rfl)
theorem Xh6{W:World}(h:laidMetH Tryz.prog Xc1 W):Sh.Laid W:=by
 rw[MakeChecks.laidMetH_plain _ _ _ (by kernel_rfl)] at h
 obtain⟨ps,⟨g0,t0,cs0,f0,p0,q0,hg0,ht0,hv0,hd0,⟨g1,t1,cs1,f1,p1,q1,hg1,ht1,hv1,hd1,_,_⟩,_⟩,_,_⟩:=h
 obtain rfl:=Option.some.inj (Xk4.symm.trans hg0)
 obtain rfl:=Option.some.inj (Xkp.symm.trans hg1)
 obtain rfl:=Option.some.inj (Xkk.symm.trans ht0)
 obtain rfl:=Option.some.inj (Xla.symm.trans ht1)
 have e0:=Lib.cells_of_tab (zs:=Sh.ints Sh.Sha.start.list) Tryz.underlying95 Tryz.underlying56 Tryz.cells56 Tryz.cells95 hd0
 have e1:=Lib.cells_of_tab (zs:=Sh.ints Sh.Sha.kL) Tryz.underlying138 Tryz.underlying56 Tryz.cells56 Tryz.cells138 hd1
 have c0:∀i,W.cell? ⟨0,i,none⟩=((Sh.ints Sh.Sha.start.list).map fun z=>Value.int .u32 z)[i]?:=fun i=>by
  have:=World.var?_cell hg0 hv0 i
  rw[this,<-e0];simp
 have c1:∀i,W.cell? ⟨1,i,none⟩=((Sh.ints Sh.Sha.kL).map fun z=>Value.int .u32 z)[i]?:=fun i=>by
  have:=World.var?_cell hg1 hv1 i
  rw[this,<-e1];simp
 refine⟨fun i hi=>?_,fun i hi=>?_,?_⟩
 ·rw[c1 i]
  simp[Sh.ints,List.getD,List.getElem?_eq_getElem (show i<Sh.Sha.kL.length from hi)]
 ·rw[c0 i]
  simp[Sh.ints,List.getD,List.getElem?_eq_getElem (show i<Sh.Sha.start.list.length from hi)]
 ·have:=World.block_lt_of_cell? W ⟨1,0,none⟩ (c1 0)
  exact this
theorem Qon(w:World){ops:Array Oper}{rest:List Oper}{o:Oper}{ac:Act}{Q:Exit->Act->World->Prop}(hgd:o.guard=none)(s x:Operand)
 (ho:o.op= .call {callee:= .builtin .append,args:= #[s,x],argTypes:= #[22,22]}) (B:Nat) (v:Value) (l:List Int) (hs:ac.eval s=v) (hown:w.ownsRow B 5 1 v l.length (l.map (Value.int .u8)))
 (a:Option Addr) (cap:Nat) (zs:List Int) (hx:ac.eval x= .slice a zs.length cap) (hrd:Ri w .u8 a cap zs) (hbd:l.length+zs.length<=1000000) (hB:B<=w.heap.size)
 (h:∀v' w',w'.ownsRow B 5 1 v' (l++zs).length ((l++zs).map (Value.int .u8))->Below B w w'->wpList Tryz.prog ops Q rest (ac.put o.dst v') w'):wpList Tryz.prog ops Q (o::rest) ac w:=
 Qch w hgd s x ho B v l hs hown a cap zs hx hrd (by omega) hB (fun v' w' h1 h2=>h v' w' h1 ((Below.refl B w).grown h2 hB (fun j hj=>(hown.lt j hj).1)))
theorem Quq(a:Option Addr)(cap n:Nat)(w:World)(hn:n<=1000000):Calls Tryz.prog 20 #[.slice a n cap] w fun e w'=>e= .returned (.bool (isC n))∧w'=w:=by
 unfold isC
 by_cases h1:1<=n
 ·have e1:(1:Int)<=(n:Int):=by omega
  by_cases h2:n<=4096
  ·have e2:(n:Int)<=4096:=by omega
   rw[decide_eq_true (show 1<=n∧n<=4096 from⟨h1,h2⟩)]
   go_enter Tryz.func20,Tryz.ntmps20
   go_wp2
   go_ret
   exact⟨rfl,rfl⟩
  ·have e2:¬(n:Int)<=4096:=by omega
   rw[decide_eq_false (show ¬(1<=n∧n<=4096) from fun h=>h2 h.2)]
   go_enter Tryz.func20,Tryz.ntmps20
   go_wp2
   go_ret
   exact⟨rfl,rfl⟩
 ·have e1:¬(1:Int)<=(n:Int):=by omega
  rw[decide_eq_false (show ¬(1<=n∧n<=4096) from fun h=>h1 h.1)]
  go_enter Tryz.func20,Tryz.ntmps20
  go_wp2
  go_ret
  exact⟨rfl,rfl⟩
end
namespace Sh
open Go.RowKit Sha
theorem Xjf(a:Option Addr)(cap:Nat)(l:List (List Nat))(w:World)(hr:Ps w a cap l)(hbd:l.flatten.length<=500000):
 Calls Tryz.prog 41 #[.slice a l.length cap] w fun e w'=>e= .returned (.agg (arr .u8 (digest l.flatten)))∧Below w.heap.size w w':=by
 have hroom:=hr.room
 have hmost:=hr.most
 unfold maxLen at hmost
 have HPS:=hid hr
 have HFT:=hid (Qqn l)
 have HFL:=hid (Qzm l)
 have HTK:Hid (l.take l.length=l):=List.take_length
 clear hr
 generalize hnl:l.length=n at *
 have HNL:=hid hnl
 clear hnl
 have b0:=Qab w (.cells (arr .u8 z32) 36)
 have hres0:=Qag w (.cells (arr .u8 z32) 36)
 have hsz0:(w.alloc (.cells (arr .u8 z32) 36)).heap.size=w.heap.size+1:=by simp
 go_enter Tryz.func41,Tryz.ntmps41
 go_wp2_with (refine Qad rfl 36 rfl (some 2) rfl (arr .u8 z32) Tryz.zero36 w.heap.size rfl ?_)
 generalize w.alloc (.cells (arr .u8 z32) 36)=w1 at *
 go_loopw [3,4] (fun v i wr=>∃k:Nat,k<=n∧i= .int .i64 k∧wr.ownsRow (w.heap.size+1) 5 1 v (l.take k).flatten.length (V (l.take k).flatten)∧Below (w.heap.size+1) w1 wr) (fun _ i _=>n-(intOf i).toNat)
 case atStart=>exact⟨0,by omega,rfl,World.ownsRow_nil _ _ _ _,Below.refl _ _⟩
 case round=>
  obtain⟨k,hk,rfl,hown,hbel⟩:=hrel
  have hbw:Below w.heap.size w wr:=b0.trans (hbel.mono (by omega))
  by_cases hlt:k<n
  ·have hkn:(k:Int)<(n:Int):=by omega
   have HF:=hid (HFT.out k hlt)
   have hle:=HFL.out (k+1)
   rw[HF.out,List.length_append] at hle
   obtain⟨bb,off,rfl,hbb,hc⟩:=HPS.out.cells (by have:=HNL.out;omega)
   obtain⟨v,a',cap',hck,hrd⟩:=hc k (by have:=HNL.out;omega)
   have hv:=hrd.val
   subst hv
   have hck':wr.cell? ⟨bb,off+k,none⟩=some (.slice a' (l.getD k []).length cap'):=(hbw.cell (p:=⟨bb,off+k,none⟩) hbb).trans hck
   have hrd':=hrd.later hbw
   clear hc hck hrd
   generalize l.getD k []=y at *
   have hszr:=hbel.size
   generalize (l.take k).flatten=fl at *
   go_wp2_with (at_builtin;refine Qch _ rfl _ _ rfl (w.heap.size+1) _ fl rfl hown a' cap' y rfl hrd' (by omega) (by omega) ?_)
   intro v' w2 hown' hgrow
   have hb2:=hbel.grown hgrow (by omega) (fun j hj=>(hown.lt j hj).1)
   have R:w2.ownsRow (w.heap.size+1) 5 1 v' (l.take (k+1)).flatten.length (V (l.take (k+1)).flatten):=by
    rw[HF.out,List.length_append];exact hown'
   clear hown hgrow hown'
   go_wp2
   exact⟨⟨k+1,by omega,by go_num,R,hb2⟩,by simp[intOf];omega⟩
  ·obtain rfl:k=n:=by omega
   rw[HTK.out] at hown
   have hszr:=hbel.size
   have hres:wr.heap[w.heap.size]?=some (.cells (arr .u8 z32) 36 (0,0)):=by rw[hbel.block _ (by omega)];exact hres0
   have hres0':=hres0
   have HFLT:Hid (∀j,l.flatten.getD j 0<256):=HPS.out.lt
   clear HFT HFL HPS hres0
   generalize hfl:l.flatten=fl at *
   have HFLE:=hid hfl
   clear hfl HTK
   obtain⟨aa,ca,rfl⟩:=Qgq hown
   have hN:fl.length<2^64:=by omega
   have HPD:=hid (fun W:World=>Xiy fl.length W hN)
   have hpl:=Qm9 fl.length
   have HPL:=hid (Xhp fl.length)
   have HAL':=hid (Qj9 fl (pad fl.length) HFLT.out HPL.out)
   generalize hpd:pad fl.length=pd at *
   have HPDE:=hid hpd
   clear hpd
   generalize hfn:fl.length=fn at *
   have HFN:=hid hfn
   clear hfn
   have hfi:((fn:Int):Int)%18446744073709551616=(fn:Int):=by omega
   go_wp2_with fail
   go_at_call 61
   refine(HPD.out _).mono ?_
   rintro _ w2 ⟨pv,rfl,hpo,hpb⟩
   obtain⟨pg,pc,rfl,hpg,hprd⟩:=Qrp hpo (by omega) HPL.out
   have hown2:=Qa9 hown hpb
   have hb2:Below (w.heap.size+1) w1 w2:=hbel.trans (hpb.mono (by omega))
   have hsz2:=hpb.size
   clear hpo hown
   have hown2':w2.ownsRow (w.heap.size+1) 5 1 (.slice aa fn ca) fl.length (V fl):=by rw[HFN.out];exact hown2
   clear hown2
   have hpl1:=hpl.2.2
   have hl1:fl.length<=500000:=by have:=HFN.out;omega
   go_wp2_with (at_builtin;refine Qch _ rfl _ _ rfl (w.heap.size+1) _ fl rfl hown2' _ pc pd rfl hprd (by omega) (by omega) ?_)
   intro v' w3 hown3 hgrow
   have hb3:Below (w.heap.size+1) w1 w3:=hb2.grown hgrow (by omega) (fun j hj=>(hown2'.lt j hj).1)
   have hsz3:=hb3.size
   have hown4:w3.ownsRow (w.heap.size+1) 5 1 v' (fl++pd).length (V (fl++pd)):=by first | exact hown3 | (rw[List.length_append];exact hown3)
   have hlen:(fl++pd).length=fn+pd.length:=by rw[List.length_append,HFN.out]
   have HDG:Hid (digest fl=Sha.bytes (blocks ((fl++pd).length/64) (fl++pd) Sha.start)):=by
    rw[digest,HFN.out,HPDE.out]
    exact rfl
   have HAL:=HAL'
   clear HAL'
   generalize hal:fl++pd=al at *
   obtain⟨ag,ac,rfl,hag,hard⟩:=Qrp hown4 (by omega) HAL.out
   have hres3:w3.heap[w.heap.size]?=some (.cells (arr .u8 z32) 36 (0,0)):=by rw[hb3.block _ (by omega)];exact hres0'
   have HLEN:=hid hlen
   have hal0:0<al.length:=by omega
   clear hlen
   clear hown3 hown4 hgrow hown2' hprd hb2 hpb hbel hres hpl1 hl1 hal hpg
   go_wp2_with fail
   go_at_call 62
   refine(Qz4 _).mono ?_
   rintro _ w4 ⟨rfl,hb4⟩
   have hgS:w.heap.size<w4.heap.size:=by have:=hb4.size;omega
   have hagS:ag<w4.heap.size:=by
    obtain⟨b,off,hb,hlt,_⟩:=hard.cells (by omega)
    injection hb with hb
    injection hb with h1 h2
    subst h1
    have:=hb4.size
    omega
   have hgC:(w4.alloc (.cells (arr .u32 z8) 95)).heap[w4.heap.size]?=some (.cells (arr .u32 z8) 95 (0,0)):=Qag _ _
   have hbw3:Below w.heap.size w w3:=b0.trans (hb3.mono (by omega))
   have hM:Xdz w ((w4.alloc (.cells (arr .u32 z8) 95)).setRow w4.heap.size (arr .u32 Sha.start.list)) w4.heap.size ag ac al Sha.start:=by
    have hb5:Below w4.heap.size w4 ((w4.alloc (.cells (arr .u32 z8) 95)).setRow w4.heap.size (arr .u32 Sha.start.list)):=below_setRow (Qab _ _) (Nat.le_refl _) _
    have hb6:=Bn hb4 hb5
    refine⟨?_,setRow_heap _ _ _ _ _ _ hgC,hard.later hb6,Bn hbw3 hb6⟩
    rw[hb6.block _ (by omega)];exact hres3
   go_wp2_with (first
    | (refine Qad rfl 95 rfl (some 5) rfl (arr .u32 z8) Tryz.zero95 w4.heap.size rfl ?_)
    | (refine wpList_store_rowTo rfl 95 _ _ rfl rfl w4.heap.size (arr .u32 Sha.start.list) rfl rfl 95 _ hgC Tryz.size95 rfl (Qbe _ _) ?_))
   generalize (w4.alloc (.cells (arr .u32 z8) 95)).setRow w4.heap.size (arr .u32 Sha.start.list)=w5 at *
   generalize w4.heap.size=gS at *
   obtain⟨M,hMM⟩:∃M,al.length=64*M:=⟨al.length/64,by have:=HLEN.out;omega⟩
   have HBL:Hid (∀j,al.getD j 0<256):=HAL
   have HD2:Hid (digest fl=Sha.bytes (blocks M al Sha.start)):=by
    rw[HDG.out,hMM,Nat.mul_div_cancel_left _ (by decide)];exact rfl
   have hMb:M<=100000:=by have:=HLEN.out;omega
   have HSN:=hid (fun m=>Qjm Sha.step m al Sha.start)
   have HOK:=hid (fun m=>Qlv m al Sha.start Qpn)
   have HMM:=hid hMM
   generalize hall:al.length=aln at *
   have HMA:=hid hMM
   clear HMM
   have HALL:=hid hall
   have haln:aln<=600000:=by have:=HLEN.out;omega
   clear HLEN hpl HFN HPDE hfi hN
   clear hMM
   clear HDG hgC hard hres3 hb4 hb3 hbw3 HPD HPL HAL hall
   go_loopw [6] (fun i wr=>∃m:Nat,m<=M∧i= .int .i64 (64*(m:Int))∧Xdz w wr gS ag ac al (blocks m al Sha.start)) (fun i _=>64*M+64-(intOf i).toNat)
   case atStart=>exact⟨0,by omega,rfl,hM⟩
   case round=>
    obtain⟨m,hm,rfl,hM⟩:=hrel
    by_cases hmM:m<M
    ·have hcond:64*(m:Int)+64<=(aln:Int):=by have:=HMA.out;omega
     have hma:64*m+64<=aln:=by omega
     have HM:=hid hM
     clear hM
     have hgB:=Qag wr (.cells (arr .u8 z64) 96)
     have hM1b:=Qab wr (.cells (arr .u8 z64) 96)
     have hM1:=HM.out.later hM1b
     go_wp2_with (refine Qad rfl 96 rfl (some 7) rfl (arr .u8 z64) Tryz.zero96 wr.heap.size rfl ?_)
     generalize hwr2:wr.alloc (.cells (arr .u8 z64) 96)=wr2 at *
     clear hwr2
     obtain⟨ab0,ao0,hae0,hag0,_⟩:=HM.out.rd.cells (by rw[HALL.out];omega)
     injection hae0 with hae0
     injection hae0 with hae01 hae02
     subst hae01
     clear hae02
     have hg1:w.heap.size<wr.heap.size:=(Array.getElem?_eq_some_iff.1 HM.out.res).1
     have hg2:gS<wr.heap.size:=(Array.getElem?_eq_some_iff.1 HM.out.sv).1
     generalize hgBn:wr.heap.size=gB at *
     clear hgBn
     have hbl64:((al.drop (64*m)).take 64).length=64:=by rw[List.length_take,List.length_drop,HALL.out];omega
     have HBG:=hid (Xi1 al (64*m))
     have HBLT:=hid (Xkn al HBL.out (64*m))
     have HNX:=hid (HSN.out m)
     generalize hblk:(al.drop (64*m)).take 64=bk at *
     have HM1:=hid hM1
     go_loopw [8] (fun i wq=>∃k:Nat,k<=64∧i= .int .i64 k∧Xdz w wq gS ag ac al (blocks m al Sha.start)∧wq.heap[gB]?=some (.cells (arr .u8 (Qef 64 bk k)) 96 (0,0))) (fun i _=>64-(intOf i).toNat)
     case atStart=>exact⟨0,by omega,rfl,HM1.out,by rw[Qi9];exact hgB⟩
     case round=>
      obtain⟨q,hq,rfl,hMq,hgq⟩:=hrel
      by_cases hq64:q<64
      ·have hq':(q:Int)<64:=by omega
       obtain⟨ab,ao,hae,habw,hac⟩:=hMq.rd.cells (by rw[HALL.out];omega)
       injection hae with hae
       injection hae with hae1 hae2
       subst hae1 hae2
       have ca:=hac (64*m+q) (by rw[HALL.out];omega)
       rw[Nat.zero_add,<-HBG.out q hq64] at ca
       have hfl:=Qgz 64 bk q hbl64 (by omega)
       have cb:=(Joins.cell_of_block hgq q).trans (Qas .u8 _ q (by omega))
       have fz:=Joins.unfrozen_of_block hgq q
       have hput:=Joins.block_setCell hgq (i:=q) (.int .u8 ((bk.getD q 0:Nat):Int))
       rw[Qdf,Qrh 64 bk q hbl64 hq64] at hput
       have hblt:=HBLT.out q
       have HP:=hid hput
       have HMq:=hid hMq
       have HGQ:=hid hgq
       clear hac hput hMq hgq hfl
       generalize bk.getD q 0=bq at *
       generalize (Qef 64 bk q).getD q 0=old at *
       have hMn:=HMq.out.keep ((Below.refl gB wr).setCell (p:=⟨gB,q,none⟩) (Nat.le_refl _) (.int .u8 (bq:Int))) hg1 hg2 hag0
       have HMn:=hid hMn
       clear hMn
       go_wp2
       exact⟨⟨q+1,by omega,by go_num,HMn.out,HP.out⟩,by simp[intOf];omega⟩
      ·obtain rfl:q=64:=by omega
       rw[Qi7 64 bk hbl64] at hgq
       have hsv:=hMq.sv
       have hok:=HOK.out m
       have HST:=hid (fun W:World=>Xet (blocks m al Sha.start) bk W hok hbl64 HBLT.out)
       have HNX2:Hid (blocks (m+1) al Sha.start=Sha.step (blocks m al Sha.start) bk):=HNX.out
       have HMq:=hid hMq
       clear hMq HNX
       have hsz8:(arr .u32 (blocks m al Sha.start).list).size=8:=Qav _ _
       have hsz64:(arr .u8 bk).size=64:=(Qav _ _).trans hbl64
       generalize blocks m al Sha.start=sm at *
       go_wp2_with (first
        | (refine wpList_load_row rfl 95 _ rfl gS rfl 95 (arr .u32 sm.list) (0,0) _ hsv Tryz.underlying95 rfl (by rw[hsz8];exact Tryz.size95) ?_)
        | (refine wpList_load_row rfl 96 _ rfl gB rfl 96 (arr .u8 bk) (0,0) _ hgq Tryz.underlying96 rfl (by rw[hsz64];exact Tryz.size96o) ?_))
       go_at_call 63
       refine(HST.out _).mono ?_
       rintro _ w7 ⟨rfl,hb7⟩
       have hM7:=HMq.out.later hb7
       have hsv7:=hM7.sv
       have hM8:Xdz w (w7.setRow gS (arr .u32 (Sha.step sm bk).list)) gS ag ac al (Sha.step sm bk):=by
        refine⟨?_,setRow_heap _ _ _ _ _ _ hsv7,⟨hM7.rd.val,hM7.rd.room,hM7.rd.most,fun h0=>?_,hM7.rd.hi,hM7.rd.nil⟩,below_setRow hM7.bel (by omega) _⟩
        ·rw[setRow_other _ _ _ _ (by omega)];exact hM7.res
        ·obtain⟨b,off,ha,hbw,hc⟩:=hM7.rd.cells h0
         injection ha with ha'
         injection ha' with hb1 hb2
         subst hb1 hb2
         refine⟨ag,0,rfl,by simpa [World.setRow] using hbw,fun j hj=>?_⟩
         rw[World.cell?_of_block (w:=w7) (setRow_other _ _ _ _ (show ag≠gS by omega))]
         exact hc j hj
       have HM8:=hid hM8
       have hszS:(arr .u32 (Sha.step sm bk).list).size=8:=Qav _ _
       clear hM8 hM7
       go_wp2_with (refine wpList_store_rowTo rfl 95 _ _ rfl rfl gS (arr .u32 (Sha.step sm bk).list) rfl rfl 95 _ hsv7 (by rw[hszS];exact Tryz.size95) (by rw[hszS];exact hsz8) (Qbe _ _) ?_)
       clear hsv7
       generalize hW8:w7.setRow gS (arr .u32 (Sha.step sm bk).list)=W8 at *
       clear hW8
       go_wp2
       exact⟨⟨m+1,by omega,by go_num,by rw[HNX2.out];exact HM8.out⟩,by simp[intOf];omega⟩
    ·obtain rfl:m=M:=by omega
     have hcond:¬64*(m:Int)+64<=(aln:Int):=by have:=HMA.out;omega
     have hsv:=hM.sv
     have hres:=hM.res
     have hbel:=hM.bel
     have HBY:=hid (fun W:World=>Xcn (blocks m al Sha.start) W (HOK.out m))
     rw[<-HD2.out] at HBY
     have HM:=hid hM
     have hsz8:(arr .u32 (blocks m al Sha.start).list).size=8:=Qav _ _
     clear hM
     go_wp2_with (refine wpList_load_row rfl 95 _ rfl gS rfl 95 (arr .u32 (blocks m al Sha.start).list) (0,0) _ hsv Tryz.underlying95 rfl (by rw[hsz8];exact Tryz.size95) ?_)
     go_at_call 64
     refine(HBY.out _).mono ?_
     rintro _ w7 ⟨rfl,hb7⟩
     have hM7:=HM.out.later hb7
     have hres7:=hM7.res
     have hbel7:=hM7.bel
     have hsz32:(arr .u8 (digest fl)).size=32:=by rw[HD2.out];exact Qav _ _
     clear hM7
     go_wp2_with (refine wpList_store_rowTo rfl 36 _ _ rfl rfl w.heap.size (arr .u8 (digest fl)) rfl rfl 36 _ hres7 (by rw[hsz32];exact Tryz.size36) (by rw[hsz32];rfl) (Qbe _ _) ?_)
     refine bodyPost_ret (results_cell_row (ty:=36) rfl _ _ _ _ _ _ _ rfl (setRow_heap _ _ _ _ _ _ hres7) Tryz.underlying36 rfl (by rw[hsz32];exact Tryz.size36)) rfl ?_
     exact⟨by rw[HFLE.out],below_setRow hbel7 (Nat.le_refl _) _⟩
end Sh
section
open Go.RowKit
theorem Tryz.zero36p:∀w,(zeroValue 36).run Tryz.prog w= .ok (.agg (u8A z32)) w:=fun w=>by kernel_rfl
theorem Tryz.size36p:(Tryz.prog.info? 36).map (·.size)=some 32:=by kernel_rfl
theorem Xk5(b off cap:Nat)(zs:List Int)(w:World)(hr:Ri w .u8 (some ⟨b,off,none⟩) cap zs)(hn:zs.length<=100000):
 Calls Tryz.prog 22 #[.slice (some ⟨b,off,none⟩) zs.length cap] w fun e w'=>e= .returned (.agg (u8A (Qf4 zs)))∧Below w.heap.size w w':=by
 have b0:=Qbr w (.cells (u8A z32) 36)
 have e0:=Qbf w (.cells (u8A z32) 36)
 have s0:(w.alloc (.cells (u8A z32) 36)).heap.size=w.heap.size+1:=by simp
 have b1:=Qbr (w.alloc (.cells (u8A z32) 36)) (.cells #[.slice (some ⟨b,off,none⟩) zs.length cap] 22)
 have e1:=Qbf (w.alloc (.cells (u8A z32) 36)) (.cells #[.slice (some ⟨b,off,none⟩) zs.length cap] 22)
 rw[s0] at e1
 have hps:Sh.Ps ((w.alloc (.cells (u8A z32) 36)).alloc (.cells #[.slice (some ⟨b,off,none⟩) zs.length cap] 22)) (some ⟨w.heap.size+1,0,none⟩) 1 [Qj4 zs]:=by
  refine⟨Nat.le_refl _,by unfold maxLen;omega,fun _=>⟨w.heap.size+1,0,rfl,by simp,fun j hj=>?_⟩⟩
  have:j=0:=by simp at hj;omega
  subst this
  exact⟨.slice (some ⟨b,off,none⟩) zs.length cap,some ⟨b,off,none⟩,cap,by rw[Nat.zero_add];exact Joins.cell_of_block e1 0,(hr.rdS.later b0).later b1⟩
 have HSM:=hid (Sh.Xjf (some ⟨w.heap.size+1,0,none⟩) 1 [Qj4 zs] _ hps (by simp[Qe4];omega))
 rw[show [Qj4 zs].flatten=Qj4 zs from by simp,Xci] at HSM
 change Hid (Calls Tryz.prog 41 #[.slice (some ⟨w.heap.size+1,0,none⟩) 1 1] _ fun e w'=>e= .returned (.agg (u8A (Qf4 zs)))∧_) at HSM
 have HB1:=hid (Bn b0 b1)
 have HE0:=hid ((b1.block _ (by rw[s0];omega)).trans e0)
 have HG:Hid (w.heap.size<((w.alloc (.cells (u8A z32) 36)).alloc (.cells #[.slice (some ⟨b,off,none⟩) zs.length cap] 22)).heap.size):=by show _<_;simp;omega
 have hdl:=Qgc zs
 have HZ:Hid ((u8A z32).size=32):=rfl
 generalize Qf4 zs=d at *
 generalize zs.length=L at *
 have HDL:=hid hdl
 clear b0 e0 b1 e1 hps hr hdl
 go_enter Tryz.func22,Tryz.ntmps22
 go_wp2_with (refine Qad rfl 36 rfl (some 2) rfl (u8A z32) Tryz.zero36p w.heap.size rfl ?_)
 refine HSM.out.mono ?_
 rintro _ W2 ⟨rfl,hb2⟩
 have HE2:=hid ((hb2.block _ HG.out).trans HE0.out)
 have HB2:=hid (Bn HB1.out hb2)
 clear hb2 HSM HE0 HB1 HG
 go_wp2_with (refine wpList_store_rowTo rfl 36 _ _ rfl rfl w.heap.size (u8A d) rfl rfl 36 _ HE2.out (by rw[Qix,HDL.out];exact Tryz.size36p) (by rw[HZ.out,Qix,HDL.out]) (Xce _) ?_)
 refine bodyPost_ret (results_cell_row (ty:=36) rfl _ _ _ _ _ _ _ rfl (setRow_heap _ _ _ _ _ _ HE2.out) Tryz.underlying36 rfl (by rw[Qix,HDL.out];exact Tryz.size36p)) rfl ?_
 exact⟨rfl,below_setRow HB2.out (Nat.le_refl _) _⟩
theorem Xcz(w:World):Calls Tryz.prog 84 #[.int .i64 16] w fun e w'=>e= .returned (.bool true)∧w'=w:=by
 go_enter Tryz.func84,Tryz.ntmps84
 go_wp2
 go_ret
 exact⟨rfl,rfl⟩
theorem Xdn(w:World):Calls Tryz.prog 54 #[.int .i64 16,.int .i64 2] w fun e w'=>e= .returned (.int .i64 0)∧w'=w:=by
 go_enter Tryz.func54,Tryz.ntmps54
 go_wp2_with fail
 refine(Xcz _).mono ?_
 rintro _ W1 ⟨rfl,hw⟩
 obtain rfl:=hw.symm
 clear hw
 go_wp2
 go_ret
 exact⟨rfl,rfl⟩
theorem Qun(w:World):Calls Tryz.prog 84 #[.int .i64 32] w fun e w'=>e= .returned (.bool true)∧w'=w:=by
 go_enter Tryz.func84,Tryz.ntmps84
 go_wp2
 go_ret
 exact⟨rfl,rfl⟩
theorem Qts(w:World):Calls Tryz.prog 54 #[.int .i64 32,.int .i64 2] w fun e w'=>e= .returned (.int .i64 0)∧w'=w:=by
 go_enter Tryz.func54,Tryz.ntmps54
 go_wp2_with fail
 refine(Qun _).mono ?_
 rintro _ W1 ⟨rfl,hw⟩
 obtain rfl:=hw.symm
 clear hw
 go_wp2
 go_ret
 exact⟨rfl,rfl⟩
end
section
open Go.RowKit Lz
theorem Qkz(t:Tkz)(w:World)(h:t.1=0∨(0<=t.2.1∧t.2.1<=258))(h8:0<=t.2.2∧t.2.2<=255):Calls Tryz.prog 75 #[.agg (zC t)] w fun e w'=>e= .returned (.int .i64 (Qff t))∧Below w.heap.size w w':=by
 obtain⟨d,n,x⟩:=t
 have hx0:=h8.1
 have hx1:=h8.2
 clear h8
 simp only at hx0 hx1
 unfold zC
 by_cases hl:d=0
 ·subst hl
  have HK:Hid (Qff (0,n,x)=x):=rfl
  go_enter Tryz.func75,Tryz.ntmps75
  go_wp2
  go_ret
  exact⟨by rw[HK.out];rfl,Qaa _ _⟩
 ·have HK:Hid (Qff (d,n,x)=252+n):=by show Qff (d,n,x)=252+n;unfold Qff;rw[if_neg hl]
  have hd:(d==0)=false:=by rw[beq_eq_false_iff_ne];exact hl
  have h1:0<=n∧n<=258:=by
   rcases h with h | h
   ·exact absurd h hl
   ·exact h
  have h2:=h1.1
  have h3:=h1.2
  clear h h1
  go_enter Tryz.func75,Tryz.ntmps75
  go_wp2
  go_ret
  exact⟨by rw[HK.out];rfl,Qaa _ _⟩
theorem Xah(n:Nat)(h:2<=n):Nat.log2 n=Nat.log2 (n/2)+1:=by
 rw[Nat.log2_def,if_pos h]
theorem Xea(n:Nat)(h:n<2):Nat.log2 n=0:=by
 rw[Nat.log2_def,if_neg (by omega)]
theorem Qqi(d:Int)(w:World)(h1:1<=d)(h2:d<=4096):Calls Tryz.prog 77 #[.int .i64 d] w fun e w'=>e= .returned (.int .i64 (Qfy d))∧w'=w:=by
 go_enter Tryz.func77,Tryz.ntmps77
 go_wp2
 go_loopw [0,3] (fun n k wr=>wr=w∧∃(y j:Nat),n= .int .i64 (y:Int)∧k= .int .i64 (j:Int)∧1<=y∧y<=4096∧j<=4096∧j+y<=4096∧Hid ((j:Int)+(Nat.log2 y:Int)=Qfy d)) (fun n _ _=>(intOf n).toNat)
 case atStart=>exact⟨rfl,d.toNat,0,by congr 1;omega,rfl,by omega,by omega,by omega,by omega,by show _=_;unfold Qfy;omega⟩
 case round=>
  obtain⟨rfl,y,j,rfl,rfl,hy1,hy2,hj,hjy,HD⟩:=hrel
  by_cases hy:1<y
  ·have hyi:(y:Int)>1:=by omega
   have HD2:Hid (((j+1:Nat):Int)+(Nat.log2 (y/2):Int)=Qfy d):=by
    show _=_
    rw[<-HD.out,Xah y (by omega)]
    omega
   clear HD
   go_wp2
   exact⟨⟨trivial,y/2,j+1,by go_num,by go_num,by omega,by omega,by omega,by omega,HD2.out⟩,by simp[intOf];omega⟩
  ·obtain rfl:y=1:=by omega
   have HD2:Hid ((j:Int)=Qfy d):=by
    show _=_
    rw[<-HD.out,Xea 1 (by omega)]
    omega
   clear HD
   go_wp2
   go_ret
   exact⟨by rw[HD2.out];rfl,rfl⟩
theorem Xfx(x:Int)(w:World)(h0:0<=x)(h1:x<18446744073709551616):
 Calls Tryz.prog 46 #[.int .u64 x] w fun e w'=>∃v,e= .returned v∧w'.ownsRow w.heap.size 5 1 v (Qe0 x).length ((Qe0 x).map (Value.int .u8))∧Below w.heap.size w w':=by
 obtain⟨i0,hi,hz0,hz1,hz2⟩:=info_parts Tryz.info5W
 go_enter Tryz.func46,Tryz.ntmps46
 go_wp2
 go_loopw [0,3] (fun c v wr=>∃(f:Nat) (acc:List Int) (y:Int),c= .int .u64 y∧0<=y∧y<18446744073709551616∧y<128^(f+1)∧acc.length+f=9∧acc++Qfd f y=Qe0 x∧wr.ownsRow w.heap.size 5 1 v acc.length (acc.map (Value.int .u8))∧Below w.heap.size w wr)
  (fun c _ _=>(intOf c).toNat)
 case atStart=>exact⟨9,[],x,rfl,h0,h1,by omega,rfl,rfl,World.ownsRow_nil _ _ _ _,Below.refl _ _⟩
 case round=>
  obtain⟨f,acc,y,rfl,hy0,hy1,hyf,hlen,hcat,hown,hbel⟩:=hrel
  have hor:=Xj5 y
  by_cases hy:y<128
  ·go_wp2_with (at_builtin;refine wpList_append_own _ rfl _ _ 22 rfl w.heap.size 5 i0 (.int .u8 0) 1 1 Tryz.underlying22 hi hz0 hz1 hz2 rfl (by decide) _ _ _ rfl (hown.alloc _) ⟨wr.heap.size,0,none⟩ 1 1 [.int .u8 y] rfl rfl ?c1 ?c2 ?c3 ?c4 ?c5 ?_)
   case c1=>
    intro j u hj
    match j,hj with
    | 0,hj=>simp at hj;subst hj;simp[Addr.add]
   case c2=>intro u hu;simp at hu;subst hu;rfl
   case c3=>unfold maxLen;omega
   case c4=>omega
   case c5=>have:=hbel.size;simp;omega
   intro v' w1 hown' hgrow _
   have R:=Qd0 hbel.size hown hbel hown' hgrow
   have hv:acc++ [y]=Qe0 x:=by rw[<-hcat,Qmk f y hy]
   rw[hv] at R
   clear hown' hgrow hown hcat
   go_wp2
   go_ret
   exact⟨_,rfl,R.1,R.2⟩
  ·obtain⟨g,rfl⟩:∃g,f=g+1:=by
    cases f with
    | zero=>omega
    | succ g=>exact⟨g,rfl⟩
   have hcat':(acc++ [y%128+128])++Qfd g (y/128)=Qe0 x:=by rw[<-hcat,Qk5 g y hy];simp
   have hyg:y/128<128^(g+1):=by
    rw[Int.ediv_lt_iff_lt_mul (by decide),<-Int.pow_succ];exact hyf
   clear hcat hyf
   go_wp2_with (at_builtin;refine wpList_append_own _ rfl _ _ 22 rfl w.heap.size 5 i0 (.int .u8 0) 1 1 Tryz.underlying22 hi hz0 hz1 hz2 rfl (by decide) _ _ _ rfl (hown.alloc _) ⟨wr.heap.size,0,none⟩ 1 1 [.int .u8 (y%128+128)] rfl rfl ?d1 ?d2 ?d3 ?d4 ?d5 ?_)
   case d2=>rfl
   case d3=>unfold maxLen;omega
   case d4=>omega
   case d5=>have:=hbel.size;simp;omega
   intro v' w1 hown' hgrow _
   have R:=Qd0 hbel.size hown hbel hown' hgrow
   clear hown' hgrow hown
   go_wp2
   go_roundw
   case rel=>exact⟨g,acc++ [y%128+128],y/128,rfl,by omega,by omega,hyg,by simp;omega,hcat',R.1,R.2⟩
   case measure=>simp[intOf];omega
theorem Qpl(x:Int)(w:World)(h0:0<=x)(h1:x<18446744073709551616):
 Calls Tryz.prog 46 #[.int .u64 x] w fun e w'=>∃a c,e= .returned (.slice a (Qe0 x).length c)∧Ri w' .u8 a c (Qe0 x)∧Below w.heap.size w w':=by
 refine(Xfx x w h0 h1).mono ?_
 rintro e w' ⟨v,rfl,ho,hb⟩
 obtain⟨a,c,rfl,hr⟩:=Ri.own ho (fun j=>Qa8 (Qhs x h0 h1 j).1 (Qhs x h0 h1 j).2)
 exact⟨a,c,rfl,hr,hb⟩
end
section
open Go.RowKit Hf
theorem Qsw(a:Option Addr)(cap:Nat)(zs:List Int)(w:World)(h:512<zs.length):
 Calls Tryz.prog 112 #[.slice a zs.length cap] w fun e w'=>e= .returned (.int .i64 (Qco zs))∧w'=w:=by
 rw[Qsp zs h]
 generalize zs.length=len at *
 go_enter Tryz.func112,Tryz.ntmps112
 go_wp2
 go_ret
 exact⟨rfl,rfl⟩
theorem Qqc(a:Option Addr)(cap:Nat)(zs:List Int)(w:World)(hr:Ri w .i64 a cap zs)(h:zs.length<=512):
 Calls Tryz.prog 112 #[.slice a zs.length cap] w fun e w'=>e= .returned (.int .i64 (Qco zs))∧w'=w:=by
 have HR:=hid hr
 obtain⟨len,hlen⟩:∃n,n=zs.length:=⟨_,rfl⟩
 have HL:=hid hlen
 rw[<-hlen] at h|-
 clear hr hlen
 go_enter Tryz.func112,Tryz.ntmps112
 go_wp2
 go_loop [3,4,5,6] (fun s3 s4 s5 i=>∃k:Nat,k<=len∧i= .int .i64 k∧s3= .int .i64 ((Qjp (zs.take k):Nat):Int)∧s4= .int .i64 ((Qdg (zs.take k):Nat):Int)∧s5= .int .i64 ((Qmz (zs.take k):Nat):Int)∧Hid (∀j,j<k->0<=zs.getD j 0∧zs.getD j 0<=15)) (fun _ _ _ i=>len-(intOf i).toNat)
 case atStart=>exact⟨0,by omega,rfl,by simp[Qjp],by simp[Qdg],by simp[Qmz],fun j hj=>absurd hj (by omega)⟩
 case round=>
  obtain⟨k,hk,rfl,rfl,rfl,rfl,HA⟩:=hrel
  by_cases hlt:k<len
  ·have hkl:(k:Int)<(len:Int):=by omega
   obtain⟨b,off,rfl,hbw,hc⟩:=(HR.out).cells (by rw[<-HL.out];omega)
   have ck:w.cell? ⟨b,off+k,none⟩=some (.int .i64 (zs.getD k 0)):=hc k (by rw[<-HL.out];exact hlt)
   clear hc
   have HZ:Hid (k<zs.length):=by show _<_;rw[<-HL.out];exact hlt
   by_cases hbad:0<=zs.getD k 0∧zs.getD k 0<=15
   ·have HA2:Hid (∀j,j<k+1->0<=zs.getD j 0∧zs.getD j 0<=15):=fun j hj=>by
     by_cases e:j=k
     ·subst e;exact hbad
     ·exact HA.out j (by omega)
    have S1:=hid (Qrg (zs.take k) (zs.getD k 0))
    have S2:=hid (Qxk (zs.take k) (zs.getD k 0))
    have S3:=hid (Xb6 (zs.take k) (zs.getD k 0))
    rw[<-Qbq zs k HZ.out] at S1 S2 S3
    have hs1:=Xh1 (zs.take k)
    have hs2:Qdg (zs.take k)<=(zs.take k).length:=List.countP_le_length
    have hs3:Qmz (zs.take k)<=(zs.take k).length:=List.countP_le_length
    have hl2:(zs.take k).length<=512:=by rw[List.length_take];omega
    generalize (zs.take k).length=tl at *
    generalize Qjp (zs.take k)=a1 at *
    generalize Qdg (zs.take k)=a2 at *
    generalize Qmz (zs.take k)=a3 at *
    by_cases hz:0<zs.getD k 0
    ·obtain⟨l,hlz⟩:∃l:Nat,zs.getD k 0=(l:Int):=⟨(zs.getD k 0).toNat,by omega⟩
     rw[hlz] at ck hz hbad S1 S2 S3
     clear hlz
     rw[if_pos hz,Int.toNat_natCast] at S1
     rw[if_pos hz] at S2
     go_wp2
     go_loop [8,9] (fun x y=>∃(m:Nat),l<=m∧m<=15∧y= .int .i64 m∧x= .int .i64 ((2^(m-l):Nat):Int)) (fun _ y=>15-(intOf y).toNat)
     case atStart=>exact⟨l,by omega,by omega,rfl,by simp⟩
     case round=>
      obtain⟨m,hm1,hm2,rfl,rfl⟩:=hrel
      have hp:2^(m-l)<=2^15:=Nat.pow_le_pow_right (by decide) (by omega)
      by_cases hm:m<15
      ·have hm':(m:Int)<15:=by omega
       have HP:Hid (2^(m+1-l)=2^(m-l)*2):=by
        show _=_
        rw[show m+1-l=(m-l)+1 from by omega,Nat.pow_succ]
       generalize 2^(m-l)=q at *
       go_wp2
       exact⟨⟨m+1,by omega,by omega,by go_num,by rw[HP.out];simp⟩,by simp[intOf];omega⟩
      ·obtain rfl:m=15:=by omega
       generalize 2^(15-l)=q at *
       by_cases h1:l=1
       ·have h1':(l:Int)=1:=by omega
        rw[if_pos h1'] at S3
        have hb:((l:Int)==1)=true:=by simp[h1]
        go_wp2
        exact⟨⟨k+1,by omega,by go_num,by rw[S1.out];simp,by rw[S2.out];simp,by rw[S3.out];simp,HA2⟩,by simp[intOf];omega⟩
       ·have h1':¬(l:Int)=1:=by omega
        rw[if_neg h1'] at S3
        have hb:((l:Int)==1)=false:=by simp;omega
        go_wp2
        exact⟨⟨k+1,by omega,by go_num,by rw[S1.out];simp,by rw[S2.out];simp,by rw[S3.out];simp,HA2⟩,by simp[intOf];omega⟩
    ·have hz0:zs.getD k 0=0:=by omega
     rw[hz0] at ck S1 S2 S3
     clear hz hz0 hbad
     go_wp2
     exact⟨⟨k+1,by omega,by go_num,by rw[S1.out];simp,by rw[S2.out];simp,by rw[S3.out];simp,HA2⟩,by simp[intOf];omega⟩
   ·have E:=hid (Qyj zs k HZ.out hbad)
    clear HZ
    generalize zs.getD k 0=z at *
    by_cases hneg:z<0
    ·go_wp2
     go_ret
     exact⟨by rw[E.out];rfl,rfl⟩
    ·have h15:(15:Int)<z:=by omega
     clear hbad
     go_wp2
     go_ret
     exact⟨by rw[E.out];rfl,rfl⟩
  ·obtain rfl:k=len:=by omega
   have hok:=Xk7 zs (by rw[<-HL.out];exact h) (fun j hj=>HA.out j (by rw[HL.out];exact hj))
   have e0:Qco zs=if okR zs then 0 else 51:=by unfold Qco Qaq;rw[hok,Xjd hok];rfl
   rw[show zs.take k=zs from by rw[HL.out];exact List.take_length]
   have b1:(((Qdg zs:Nat):Int)==0)=(Qdg zs==0):=by rw[Bool.eq_iff_iff,beq_iff_eq,beq_iff_eq];omega
   have b2:(((Qdg zs:Nat):Int)==1)=(Qdg zs==1):=by rw[Bool.eq_iff_iff,beq_iff_eq,beq_iff_eq];omega
   have b3:(((Qmz zs:Nat):Int)==1)=(Qmz zs==1):=by rw[Bool.eq_iff_iff,beq_iff_eq,beq_iff_eq];omega
   have b4:(((Qjp zs:Nat):Int)==32768)=(Qjp zs==32768):=by rw[Bool.eq_iff_iff,beq_iff_eq,beq_iff_eq];omega
   unfold okR at e0
   have E:=hid e0
   clear e0 hok
   generalize (Qdg zs==0)=x1 at *
   generalize (Qdg zs==1)=x2 at *
   generalize (Qmz zs==1)=x3 at *
   generalize (Qjp zs==32768)=x4 at *
   generalize ((Qdg zs:Nat):Int)=n1 at *
   generalize ((Qmz zs:Nat):Int)=n2 at *
   generalize ((Qjp zs:Nat):Int)=n3 at *
   cases x1<;>cases x2<;>cases x3<;>cases x4<;>(go_wp2;go_ret;exact⟨by rw[E.out];rfl,rfl⟩)
theorem Xay(a:Option Addr)(cap:Nat)(zs:List Int)(w:World)(hr:Ri w .i64 a cap zs):
 Calls Tryz.prog 112 #[.slice a zs.length cap] w fun e w'=>e= .returned (.int .i64 (Qco zs))∧w'=w:=by
 by_cases h:zs.length<=512
 ·exact Qqc a cap zs w hr h
 ·exact Qsw a cap zs w (by omega)
theorem Qmj{w:World}{B e k n:Nat}{v:Value}{xs:List Value}(h:w.ownsRow B e k v n xs):∃a c,v= .slice a n c:=by
 rcases h.2 with ⟨hv,h0⟩ | ⟨g',cap',cur',hv,_⟩
 ·exact⟨none,0,by rw[hv,h0]⟩
 ·exact⟨some ⟨g',0,none⟩,cap',hv⟩
end
section
open Go.RowKit
theorem Xct(n:Nat)(x:Int):Sh.Wd.leL (n+1) x=Sh.Wd.leL n x++ [x/256^n%256]:=Sh.Wd.Qwn n x
theorem Xka(x:Int)(b:Int)(n:Nat)(w:World)(h0:0<=x)(h1:x<18446744073709551616)(hA:∀W,Calls Tryz.prog 54 #[.int .i64 b,.int .i64 2] W fun e w'=>e= .returned (.int .i64 0)∧w'=W)(hb:b/8=(n:Int))(hb0:0<=b)(hb9:b<=64)(hn:n<=8):
 Calls Tryz.prog 48 #[.int .u64 x,.int .i64 b,.int .i64 2] w fun e w'=>∃v,e= .returned (.tuple #[v,.int .i64 0])∧w'.ownsRow w.heap.size 5 1 v n ((Sh.Wd.leL n x).map (Value.int .u8))∧Below w.heap.size w w':=by
 obtain⟨i0,hi,hz0,hz1,hz2⟩:=info_parts Tryz.info5Z
 have HA:=hid hA
 have HX:=hid (And.intro h0 h1)
 have HD:Hid (x/256^0=x):=by show _=_;simp
 clear hA
 go_enter Tryz.func48,Tryz.ntmps48
 go_wp2_with fail
 refine(HA.out _).mono ?_
 rintro _ w1 ⟨rfl,hw⟩
 obtain rfl:=hw.symm
 clear hw HA
 go_wp2_with fail
 go_loopw [0,9,10] (fun y v i wr=>∃k:Nat,k<=n∧i= .int .i64 (k:Int)∧y= .int .u64 (x/256^k)∧Hid (wr.ownsRow w.heap.size 5 1 v k ((Sh.Wd.leL k x).map (Value.int .u8)))∧Hid (Below w.heap.size w wr)) (fun _ _ i _=>n-(intOf i).toNat)
 case atStart=>exact⟨0,by omega,rfl,by rw[HD.out],World.ownsRow_nil _ _ _ _,Below.refl _ _⟩
 case round=>
  obtain⟨k,hk,rfl,rfl,HO,HB⟩:=hrel
  obtain⟨a9,c9,rfl⟩:=Qmj HO.out
  have hx0:0<=x/256^k:=Int.ediv_nonneg HX.out.1 (Int.le_of_lt (Int.pow_pos (by decide)))
  have hx1:x/256^k<18446744073709551616:=Int.lt_of_le_of_lt (Int.ediv_le_self _ HX.out.1) HX.out.2
  have HDN:Hid (x/256^(k+1)=x/256^k/256):=by
   show _=_
   rw[Int.pow_succ,Int.ediv_ediv_of_nonneg (Int.le_of_lt (Int.pow_pos (by decide)))]
  have HLS:=hid (Xct k x)
  generalize x/256^k=y at *
  by_cases hlt:k<n
  ·have hkz:(k:Int)<(n:Int):=by omega
   have hm:y%256%256=y%256:=by omega
   have hm0:0<=y%256:=by omega
   have hm1:y%256<256:=by omega
   have HY:Hid (y/256=y/256):=rfl
   go_wp2_with (at_builtin;refine wpList_append_own _ rfl _ _ 22 rfl w.heap.size 5 i0 (.int .u8 0) 1 1 Tryz.underlying22 hi hz0 hz1 hz2 rfl (by decide) _ _ _ rfl (HO.out.alloc _) ⟨wr.heap.size,0,none⟩ 1 1 [.int .u8 (y%256)] rfl rfl ?c1 ?c2 ?c3 ?c4 ?c5 ?_)
   try case c1=>
    intro j u hj
    match j,hj with
    | 0,hj=>simp at hj;subst hj;simp[Addr.add]
   try case c2=>first | rfl | (intro u hu;simp at hu;subst hu;rfl)
   case c3=>unfold maxLen;omega
   case c4=>omega
   case c5=>have:=HB.out.size;simp;omega
   intro v1 w1 hown0 hgrow _
   have HB1:=hid ((HB.out.alloc HB.out.size _).grown hgrow (by have:=HB.out.size;simp;omega) (fun j hj=>(HO.out.lt j hj).1))
   have HO1:Hid (w1.ownsRow w.heap.size 5 1 v1 (k+1) ((Sh.Wd.leL (k+1) x).map (Value.int .u8))):=by
    show World.ownsRow _ _ _ _ _ _ _
    rw[HLS.out,List.map_append]
    exact hown0
   clear hown0 hgrow HO HB
   go_wp2_with fail
   exact⟨⟨k+1,by omega,by go_num,by rw[HDN.out],HO1,HB1⟩,by simp[intOf];omega⟩
  ·obtain rfl:k=n:=by omega
   have hkz:¬(k:Int)<(k:Int):=by omega
   go_wp2_with fail
   go_ret2
   exact⟨_,rfl,HO.out,HB.out⟩
theorem Xlz(x:Int)(b:Int)(n:Nat)(w:World)(h0:0<=x)(h1:x<18446744073709551616)(hA:∀W,Calls Tryz.prog 54 #[.int .i64 b,.int .i64 2] W fun e w'=>e= .returned (.int .i64 0)∧w'=W)(hb:b/8=(n:Int))(hb0:0<=b)(hb9:b<=64)(hn:n<=8):
 Calls Tryz.prog 30 #[.int .u64 x,.int .i64 b] w fun e w'=>∃a c,e= .returned (.slice a (Sh.Wd.leL n x).length c)∧Ri w' .u8 a c (Sh.Wd.leL n x)∧Below w.heap.size w w':=by
 have HR:=hid (Xka x b n w h0 h1 hA hb hb0 hb9 hn)
 have HL:Hid (∀j,(Lit.int .u8 ((Sh.Wd.leL n x).getD j 0)).wf=true):=fun j=>by
  have:=Sh.Wd.Qjn n 2 x j
  rw[show Sh.Wd.Qep n 2 x=Sh.Wd.leL n x from rfl] at this
  exact Qa8 this.1 this.2
 have HLL:=hid (Sh.Wd.Qbb n x)
 clear hA
 generalize (Sh.Wd.leL n x)=l at *
 go_enter Tryz.func30,Tryz.ntmps30
 go_wp2_with fail
 refine HR.out.mono ?_
 rintro _ w1 ⟨v,rfl,ho,hb1⟩
 have ho':w1.ownsRow w.heap.size 5 1 v l.length (l.map (Value.int .u8)):=by rw[HLL.out];exact ho
 obtain⟨a1,c1,rfl,hr1⟩:=Ri.own ho' HL.out
 have HR1:=hid hr1
 have HB1:=hid hb1
 clear ho ho' hr1 hb1 HR
 go_wp2_with fail
 go_ret
 exact⟨a1,c1,rfl,HR1.out,HB1.out⟩
end
end Go.Proofs.YtibjlbcnapoblaaGreatDoor
