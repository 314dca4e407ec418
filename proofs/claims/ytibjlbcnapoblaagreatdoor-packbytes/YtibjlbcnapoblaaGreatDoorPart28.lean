/- Contracts and facts. -/
import Derived.Test.YtibjlbcnapoblaaGreatDoorPart27
import Derived.ChangeKeysEq
import Derived.Laws.MakeOwn
namespace Go.Proofs.YtibjlbcnapoblaaGreatDoor
set_option maxRecDepth 100000
set_option maxHeartbeats 6400000
namespace Sh
open Go.RowKit Sha
theorem Tryz.zero37:∀w,(zeroValue 37).run Tryz.prog w= .ok (.agg (arr .u8 z32)) w:=(zero_of_info (t:=37) (n:=32) (by kernel_rfl)).1
theorem Tryz.size37:(Tryz.prog.info? 37).map (·.size)=some 32:=by kernel_rfl
theorem Tryz.size98:(Tryz.prog.info? 98).map (·.size)=some 74:=by kernel_rfl
theorem Xky(s:St)(op:List Nat)(n:Nat):(hL s op n).toArray.all (·.oneCell')=true:=by
 refine all_oneCell_toArray (fun v hv=>?_)
 rw[hL,List.mem_cons,List.mem_append,List.mem_append] at hv
 rcases hv with h | h | h | h
 ·rw[h];rfl
 ·exact Qmb _ _ v h
 ·exact Qmb _ _ v h
 ·rw[List.mem_singleton] at h;rw[h];rfl
theorem Xdh(s:St):∀j,j<8->((Sha.bytes s).drop (4*j)).take 4=Sha.four (s.list.getD j 0)
 | 0,_=>rfl
 | 1,_=>rfl
 | 2,_=>rfl
 | 3,_=>rfl
 | 4,_=>rfl
 | 5,_=>rfl
 | 6,_=>rfl
 | 7,_=>rfl
 | n+8,h=>absurd h (by omega)
theorem Qxe(x:Nat):Wd.Qep 4 1 (x:Int)=ints (Sha.four x):=by
 have e:∀k:Nat,((x:Int)/(k:Int))%256=((x/k%256:Nat):Int):=fun k=>by rw[<-Int.natCast_ediv];rfl
 have h1:=e 256
 have h2:=e 65536
 have h3:=e 16777216
 show([(x:Int)%256,(x:Int)/256%256,(x:Int)/256/256%256,(x:Int)/256/256/256%256]:List Int).reverse=_
 rw[Int.ediv_ediv_of_nonneg (by decide),Int.ediv_ediv_of_nonneg (by decide)]
 simp only[List.reverse_cons,List.reverse_nil,List.nil_append,List.cons_append,ints,Sha.four,List.map_cons,List.map_nil]
 rw[show(256:Int)*256=65536 from rfl,show(65536:Int)*256=16777216 from rfl]
 simp
theorem Xil(x:Nat):∀j,(Sha.four x).getD j 0<256:=by
 rw[Qqb]
 intro z hz
 simp[Sha.four] at hz
 omega
theorem Xc0(l:List Nat)(j:Nat)(hl:l.length=32)(hj:j<8):Qfc (Qef 32 l (4*j)) (4*j) ((l.drop (4*j)).take 4)=Qef 32 l (4*(j+1)):=by
 have h4:((l.drop (4*j)).take 4).length=4:=by rw[List.length_take,List.length_drop];omega
 have ht:(l.take (4*j)).length=4*j:=by rw[List.length_take];omega
 have hd:(l.take (4*j)++List.replicate (32-4*j) 0).drop (4*j+4)=List.replicate (32-(4*j+4)) 0:=by
  rw[List.drop_append,ht,List.drop_eq_nil_of_le (by omega),List.nil_append,List.drop_replicate,show 32-4*j-(4*j+4-4*j)=32-(4*j+4) from by omega]
 have htk:(l.take (4*j)++List.replicate (32-4*j) 0).take (4*j)=l.take (4*j):=by
  rw[List.take_append_of_le_length (by omega),List.take_of_length_le (by omega)]
 rw[Qfc,h4,Qef,Qef,hd,htk,show 4*(j+1)=4*j+4 from by omega,List.take_add,List.append_assoc]
theorem Qyb(k:IntKind)(l:List Nat)(i:Nat)(m:List Nat):splice (lst k l) i (lst k m)=lst k (Qfc l i m):=by
 rw[splice,Qfc,Qao]
 simp[lst]
theorem Hs.at{w w':World}{g g':Nat}{msg op:List Nat}(h:Hs w g msg op)(hb:w'.heap[g']?=some (.cells (hL (blocks (msg.length/64) msg Sha.start) op msg.length).toArray 98 (0,0))):Hs w' g' msg op:=⟨hb,h.len,h.lo,h.tk,h.hi⟩
theorem Hs.later{w w':World}{g:Nat}{msg op:List Nat}(h:Hs w g msg op)(hb:Below w.heap.size w w'):Hs w' g msg op:=
 h.at (by rw[hb.block g (Array.getElem?_eq_some_iff.1 h.blk).1];exact h.blk)
theorem Qru(g j:Nat)(hj:j<8)(W:World):(Instr.sliceAt 37 (.pointer (some ⟨g,0,none⟩)) (some (.int .i64 ((j:Int)*32/8))) none none).run Tryz.prog W= .ok (.slice (some ⟨g,4*j,none⟩) (32-4*j) (32-4*j)) W:=by
 have h:=run_sliceAt_array_l (P:=Tryz.prog) W 37 ⟨g,0,none⟩ Tryz.underlying37 .i64 ((j:Int)*32/8) (by omega) (by show(j:Int)*32/8<=((32:Nat):Int);omega)
 rw[h,show Tryz.prog.elem 37=5 from rfl,Tryz.sizeB,show Tryz.prog.arrayLen 37=32 from rfl,show((j:Int)*32/8).toNat=4*j from by omega]
 simp only[Result.andThen_ok,slicedAt]
 rw[if_neg (by omega)]
 simp[Addr.add]
 omega
structure Qu0 (w wr:World) (gd:Nat) (d:List Nat):Prop where
 res:wr.heap[w.heap.size]?=some (.cells (arr .u8 z32) 37 (0,0))
 dv:wr.heap[gd]?=some (.cells (arr .u8 d) 37 (0,0))
 bel:Below w.heap.size w wr
theorem Qt7(g:Nat)(msg op:List Nat)(w:World)(hlaid:Laid w)(hh:Hs w g msg op)(hbd:msg.length<=1000000000000):
 Calls Tryz.prog 40 #[.pointer (some ⟨g,0,none⟩)] w fun e w'=>e= .returned (.agg (arr .u8 (digest msg)))∧Below w.heap.size w w':=by
 have h2:=hlaid.two
 have hg:g<w.heap.size:=(Array.getElem?_eq_some_iff.1 hh.blk).1
 have b1:=Qab w (.cells (arr .u8 z32) 37)
 have e1:=Qag w (.cells (arr .u8 z32) 37)
 have s1:(w.alloc (.cells (arr .u8 z32) 37)).heap.size=w.heap.size+1:=by simp
 have hh1:=hh.later b1
 have hblk:=hh1.blk
 have hlen:=Qlj (blocks (msg.length/64) msg Sha.start) op msg.length hh.len
 have hone:=Xky (blocks (msg.length/64) msg Sha.start) op msg.length
 have HN:=hid (Xlu (blocks (msg.length/64) msg Sha.start) op msg.length hh.len)
 have HLD:=hid hlaid
 have HH1:=hid hh1
 have b2:=Qab (w.alloc (.cells (arr .u8 z32) 37)) (.cells ZH 98)
 have e2:=Qag (w.alloc (.cells (arr .u8 z32) 37)) (.cells ZH 98)
 have s2:((w.alloc (.cells (arr .u8 z32) 37)).alloc (.cells ZH 98)).heap.size=w.heap.size+1+1:=by simp
 rw[s1] at e2
 generalize hHL:hL (blocks (msg.length/64) msg Sha.start) op msg.length=HL at *
 have HHL:=hid hHL
 have hasz:(Tryz.prog.info? 98).map (·.size)=some HL.toArray.size:=by rw[List.size_toArray,hlen];exact Tryz.size98
 have hzs:ZH.size=HL.toArray.size:=by rw[Quy,List.size_toArray,hlen]
 have e3:(((w.alloc (.cells (arr .u8 z32) 37)).alloc (.cells ZH 98)).setRow (w.heap.size+1) HL.toArray).heap[w.heap.size+1]?=some (.cells HL.toArray 98 (0,0)):=setRow_heap _ _ _ _ _ _ e2
 have c73:(((w.alloc (.cells (arr .u8 z32) 37)).alloc (.cells ZH 98)).setRow (w.heap.size+1) HL.toArray).cell? ⟨w.heap.size+1,73,none⟩=some (.int .u64 (msg.length:Int)):=by
  rw[Joins.cell_of_block e3 73,List.getElem?_toArray];exact HN.out
 have b3:Below w.heap.size w (((w.alloc (.cells (arr .u8 z32) 37)).alloc (.cells ZH 98)).setRow (w.heap.size+1) HL.toArray):=below_setRow (Bn b1 b2) (by omega) _
 have r3:(((w.alloc (.cells (arr .u8 z32) 37)).alloc (.cells ZH 98)).setRow (w.heap.size+1) HL.toArray).heap[w.heap.size]?=some (.cells (arr .u8 z32) 37 (0,0)):=by
  rw[setRow_other _ _ _ _ (by omega),b2.block _ (by omega)];exact e1
 have s3:(((w.alloc (.cells (arr .u8 z32) 37)).alloc (.cells ZH 98)).setRow (w.heap.size+1) HL.toArray).heap.size=w.heap.size+1+1:=by simp[World.setRow]
 clear hh hh1 hlaid hHL
 go_enter Tryz.func40,Tryz.ntmps40
 go_wp2_with (first
  | (refine Qad rfl 37 rfl (some 2) rfl (arr .u8 z32) Tryz.zero37 w.heap.size rfl ?_)
  | (refine wpList_load_row rfl 98 _ rfl g rfl 98 HL.toArray (0,0) _ hblk Tryz.underlying98 rfl hasz ?_)
  | (refine Qad rfl 98 rfl (some 3) rfl ZH Tryz.zero98 (w.heap.size+1) (by simp) ?_)
  | (refine wpList_store_rowTo rfl 98 _ _ rfl rfl (w.heap.size+1) HL.toArray rfl rfl 98 _ e2 hasz hzs hone ?_))
 have hh3:Hs (((w.alloc (.cells (arr .u8 z32) 37)).alloc (.cells ZH 98)).setRow (w.heap.size+1) HL.toArray) (w.heap.size+1) msg op:=HH1.out.at (by rw[HHL.out];exact e3)
 generalize hw3:((w.alloc (.cells (arr .u8 z32) 37)).alloc (.cells ZH 98)).setRow (w.heap.size+1) HL.toArray=w3 at *
 have HH3:=hid hh3
 clear hw3 b1 b2 e1 e2 e3 s1 s2 hblk hasz hzs hone hlen hh3 HH1 HN c73
 have HPD:=hid (fun W:World=>Xen msg.length W (by omega))
 have HPLT:=hid (Xhp msg.length)
 have hpl:=Qm9 msg.length
 have HDG:Hid (digest msg=Sha.bytes (blocks ((msg++pad msg.length).length/64) (msg++pad msg.length) Sha.start)):=rfl
 generalize pad msg.length=pd at *
 go_at_call 59
 refine(HPD.out _).mono ?_
 rintro _ w4 ⟨pv,rfl,hpo,hpb⟩
 obtain⟨pg,pc,rfl,hpg,hprd⟩:=Qrp hpo (by omega) HPLT.out
 have hh4:=HH3.out.later hpb
 have hz4:=hpb.size
 have hl4:=HLD.out.later (Bn b3 hpb)
 have r4:w4.heap[w.heap.size]?=some (.cells (arr .u8 z32) 37 (0,0)):=by rw[hpb.block _ (by omega)];exact r3
 have b4:=Bn b3 hpb
 have HTK:=hid (Qgy (w.heap.size+1) (some ⟨pg,0,none⟩) pc pd msg op w4 hl4 (by omega) ⟨hprd,fun _ ad h=>by injection h with h;rw[<-h];show pg≠_;omega⟩ hh4 (by omega))
 clear hpo hprd hh4 hl4 HPD r3 HH3 hpb
 go_wp2_with fail
 go_at_call 39
 refine(HTK.out).mono ?_
 rintro _ w5 ⟨⟨u5,rfl⟩,⟨op5,hh5⟩,hg5⟩
 have hz5:=hg5.size
 have r5:w5.heap[w.heap.size]?=some (.cells (arr .u8 z32) 37 (0,0)):=by rw[hg5.block _ (by omega) (by intro h;injection h with h;omega)];exact r4
 have b5:Below w.heap.size w w5:=b4.grown hg5 (by omega) (fun k hk=>by injection hk with hk;omega)
 have b6:=Qab w5 (.cells (arr .u8 z32) 37)
 have e6:=Qag w5 (.cells (arr .u8 z32) 37)
 have hh6:=hh5.later b6
 have hok:=Qlv ((msg++pd).length/64) (msg++pd) Sha.start Qpn
 have hrg:(w5.alloc (.cells (arr .u8 z32) 37)).rangeAt (w.heap.size+1) 1 (lst .u32 (blocks ((msg++pd).length/64) (msg++pd) Sha.start).list):=by
  intro j v hv
  rw[Joins.cell_of_block hh6.blk (1+j),List.getElem?_toArray]
  exact Xkw _ _ _ _ _ hv
 have hM:Qu0 w (w5.alloc (.cells (arr .u8 z32) 37)) w5.heap.size (Qef 32 (Sha.bytes (blocks ((msg++pd).length/64) (msg++pd) Sha.start)) (4*0)):=by
  refine⟨by rw[b6.block _ (by omega)];exact r5,?_,Bn b5 b6⟩
  rw[Nat.mul_zero,Qi9];exact e6
 have HM:=hid hM
 have hgd:w.heap.size<w5.heap.size:=by omega
 clear HTK hh5 hg5 r5 b5 b6 e6 hh6 r4 b4 hM b3 hpg
 generalize blocks ((msg++pd).length/64) (msg++pd) Sha.start=sb at *
 have hsz8:(Tryz.prog.info? 95).map (·.size)=some (lst .u32 sb.list).length:=Tryz.size95
 go_wp2_with (first
  | (refine Qad rfl 37 rfl (some 4) rfl (arr .u8 z32) Tryz.zero37 w5.heap.size rfl ?_)
  | (refine wpList_load_mid rfl 95 _ rfl (w.heap.size+1) 1 rfl (lst .u32 sb.list) _ hrg Tryz.underlying95 rfl hsz8 ?_))
 clear hrg hsz8
 generalize hw6:w5.alloc (.cells (arr .u8 z32) 37)=w6 at *
 generalize w5.heap.size=gd at *
 clear hw6
 rw[Xbp]
 go_loopw [18] (fun i wr=>∃j:Nat,j<=8∧i= .int .i64 j∧Qu0 w wr gd (Qef 32 (Sha.bytes sb) (4*j))) (fun i _=>8-(intOf i).toNat)
 case atStart=>exact⟨0,by omega,rfl,HM.out⟩
 case round=>
  obtain⟨j,hj,rfl,hM⟩:=hrel
  by_cases hlt:j<8
  ·have hj8:(j:Int)<8:=by omega
   have d1:=fun W:World=>Qiz (P:=Tryz.prog) Tryz.underlying95 Tryz.underlying56 Tryz.size56 sb.list rfl j hlt W
   have hx:=Xai sb hok j
   have HFP:=hid (Xdh sb j hlt)
   have HFF:=hid (Xc0 (Sha.bytes sb) j (Qe1 sb) hlt)
   have hfl:=Qgz 32 (Sha.bytes sb) (4*j) (Qe1 sb) (by omega)
   rw[HFP.out] at HFF
   generalize sb.list.getD j 0=x at *
   have HBW:=hid (fun W:World=>Wd.Qg2 (x:Int) 32 1 4 W (by omega) (by omega) (by decide) (by decide) (by decide))
   have HFB:=hid (Qxe x)
   have HMj:=hid hM
   clear hM HFP
   go_wp2_with fail
   go_at_call 60
   refine(HBW.out _).mono ?_
   rintro _ w7 ⟨pv7,rfl,hpo,hpb⟩
   rw[HFB.out,Qcf,Xgw] at hpo
   have h4:(Sha.four x).length=4:=rfl
   obtain⟨pg7,pc7,rfl,hpg7,hprd7⟩:=Qrp hpo (by rw[h4];decide) (Xil x)
   have HP7:=hid hprd7
   have HB7:=hid hpb
   clear hpo hprd7 hpb HBW HFB
   have hsl:=Qru gd j hlt
   have hdv7:w7.heap[gd]?=some (.cells (lst .u8 (Qef 32 (Sha.bytes sb) (4*j))).toArray 37 (0,0)):=by
    rw[HB7.out.block _ (Array.getElem?_eq_some_iff.1 HMj.out.dv).1];exact HMj.out.dv
   have hcp:(Builtin.copy_ #[22,22] 3 #[.slice (some ⟨gd,4*j,none⟩) (32-4*j) (32-4*j),.slice (some ⟨pg7,0,none⟩) 4 pc7]).run Tryz.prog w7= .ok (.int .i64 4) (w7.setRow gd (arr .u8 (Qef 32 (Sha.bytes sb) (4*(j+1))))):=by
    have h:=run_copy_row (P:=Tryz.prog) w7 22 22 3 5 gd (4*j) (32-4*j) (32-4*j) ⟨pg7,0,none⟩ 4 pc7 _ 37 (lst .u8 (Sha.four x)) Tryz.underlying22 (by kernel_rfl) hdv7 (by rw[Qao,h4];show 4=min 4 (32-4*j);omega) (fun q v hv=>?_) (by rw[Qao,h4,List.size_toArray,Qao,hfl];omega) (Qmb _ _)
    ·rw[h,List.toList_toArray,List.append_assoc,<-Xbp,<-HFF.out,<-Qyb,splice,Qao]
     rfl
    ·have hq:q<(Sha.four x).length:=by have:=(List.getElem?_eq_some_iff.1 hv).1;rw[Qao] at this;exact this
     obtain⟨b,off,hb,_,hc⟩:=HP7.out.cells (by rw[h4];decide)
     injection hb with hb
     injection hb with hb1 hb2
     subst hb1 hb2
     rw[Go.WideShapes.add_plain,hc q hq,<-hv]
     simp[lst,List.getD,List.getElem?_eq_getElem hq]
   have hM8:Qu0 w (w7.setRow gd (arr .u8 (Qef 32 (Sha.bytes sb) (4*(j+1))))) gd (Qef 32 (Sha.bytes sb) (4*(j+1))):=by
    have hres:w.heap.size<wr.heap.size:=(Array.getElem?_eq_some_iff.1 HMj.out.res).1
    refine⟨?_,setRow_heap _ _ _ _ _ _ hdv7,below_setRow (Bn HMj.out.bel HB7.out) (by omega) _⟩
    rw[setRow_other _ _ _ _ (by omega),HB7.out.block _ hres];exact HMj.out.res
   have HM8:=hid hM8
   clear hM8 hdv7 hfl
   go_wp2
   exact⟨⟨j+1,by omega,by go_num,HM8.out⟩,by simp[intOf];omega⟩
  ·obtain rfl:j=8:=by omega
   rw[show 4*8=32 from rfl,Qi7 32 _ (Qe1 sb),<-HDG.out] at hM
   have hres:=hM.res
   have hdv:=hM.dv
   have hbel:=hM.bel
   have hsz:(arr .u8 (digest msg)).size=32:=by rw[HDG.out];exact Qav _ _
   clear hM HM HDG
   go_wp2_with (first
    | (refine wpList_load_row rfl 37 _ rfl gd rfl 37 (arr .u8 (digest msg)) (0,0) _ hdv Tryz.underlying37 rfl (by rw[hsz];exact Tryz.size37) ?_)
    | (refine wpList_store_rowTo rfl 37 _ _ rfl rfl w.heap.size (arr .u8 (digest msg)) rfl rfl 37 _ hres (by rw[hsz];exact Tryz.size37) (by rw[hsz];rfl) (Qbe _ _) ?_))
   refine bodyPost_ret (results_cell_row (ty:=37) rfl _ _ _ _ _ _ _ rfl (setRow_heap _ _ _ _ _ _ hres) Tryz.underlying37 rfl (by rw[hsz];exact Tryz.size37)) rfl ?_
   exact⟨rfl,below_setRow hbel (Nat.le_refl _) _⟩
theorem Xee(a:Option Addr)(cap:Nat)(l:List (List Nat))(w:World)(hlaid:Laid w)(hr:Ps w a cap l)(hbd:l.flatten.length<=500000000000):
 Calls Tryz.prog 21 #[.slice a l.length cap] w fun e w'=>e= .returned (.agg (arr .u8 (digest l.flatten)))∧Below w.heap.size w w':=by
 have hroom:=hr.room
 have hmost:=hr.most
 unfold maxLen at hmost
 have HPS:=hid hr
 have HFT:=hid (Qqn l)
 have HFL:=hid (Qzm l)
 have HTK:Hid (l.take l.length=l):=List.take_length
 have h2:=hlaid.two
 have HLD:=hid hlaid
 clear hr hlaid
 generalize hnl:l.length=n at *
 have HNL:=hid hnl
 clear hnl
 have b0:=Qab w (.cells (arr .u8 z32) 37)
 have e0:=Qag w (.cells (arr .u8 z32) 37)
 have s0:(w.alloc (.cells (arr .u8 z32) 37)).heap.size=w.heap.size+1:=by simp
 have HNW:=hid (Qoe (w.alloc (.cells (arr .u8 z32) 37)) (HLD.out.later b0))
 rw[s0] at HNW
 go_enter Tryz.func21,Tryz.ntmps21
 go_wp2_with (refine Qad rfl 37 rfl (some 2) rfl (arr .u8 z32) Tryz.zero37 w.heap.size rfl ?_)
 go_at_call 38
 refine HNW.out.mono ?_
 rintro _ w2 ⟨rfl,hh2,hb2⟩
 generalize hw1:w.alloc (.cells (arr .u8 z32) 37)=w1 at *
 have e2:w2.heap[w.heap.size]?=some (.cells (arr .u8 z32) 37 (0,0)):=by rw[hb2.block _ (by omega)];exact e0
 have hb2':Below w.heap.size w w2:=b0.trans (hb2.mono (by omega))
 have hz2:=hb2.size
 have HH2:=hid hh2
 clear hw1 e0 HNW hh2
 go_wp2_with fail
 go_loopw [9] (fun i wr=>∃(k:Nat) (op:List Nat),k<=n∧i= .int .i64 k∧Hs wr (w.heap.size+1) (l.take k).flatten op∧wr.heap[w.heap.size]?=some (.cells (arr .u8 z32) 37 (0,0))∧Below w.heap.size w wr) (fun i _=>n-(intOf i).toNat)
 case atStart=>exact⟨0,z64,by omega,rfl,HH2.out,e2,hb2'⟩
 case round=>
  obtain⟨k,op,hk,rfl,hh,hres,hbel⟩:=hrel
  have hgs:w.heap.size+1<wr.heap.size:=(Array.getElem?_eq_some_iff.1 hh.blk).1
  by_cases hlt:k<n
  ·have hkn:(k:Int)<(n:Int):=by omega
   have HF:=hid (HFT.out k hlt)
   have hle:=HFL.out (k+1)
   rw[HF.out,List.length_append] at hle
   obtain⟨bb,off,rfl,hbb,hc⟩:=HPS.out.cells (by have:=HNL.out;omega)
   obtain⟨v,a',cap',hck,hrd⟩:=hc k (by have:=HNL.out;omega)
   have hv:=hrd.val
   subst hv
   have hck':wr.cell? ⟨bb,off+k,none⟩=some (.slice a' (l.getD k []).length cap'):=(hbel.cell (p:=⟨bb,off+k,none⟩) hbb).trans hck
   have hne:0<(l.getD k []).length->∀ad,a'=some ad->ad.block≠w.heap.size+1:=by
    intro h0 ad had
    obtain⟨b,off,hb,hbw,_⟩:=hrd.cells h0
    rw[hb] at had
    injection had with had
    rw[<-had]
    show b≠_
    omega
   have hrd':=hrd.later hbel
   clear hc hck hrd
   generalize l.getD k []=y at *
   generalize (l.take k).flatten=fl at *
   have HTW:=hid (Qgy (w.heap.size+1) a' cap' y fl op wr (HLD.out.later hbel) (by omega) ⟨hrd',hne⟩ hh (by omega))
   clear hh hrd' hne
   go_wp2_with fail
   go_at_call 39
   refine HTW.out.mono ?_
   rintro _ w5 ⟨⟨u5,rfl⟩,⟨op5,hh5⟩,hg5⟩
   have r5:w5.heap[w.heap.size]?=some (.cells (arr .u8 z32) 37 (0,0)):=by rw[hg5.block _ (by omega) (by intro h;injection h with h;omega)];exact hres
   have b5:Below w.heap.size w w5:=hbel.grown hg5 (by omega) (fun k hk=>by injection hk with hk;omega)
   rw[<-HF.out] at hh5
   clear hg5 HTW
   go_wp2
   exact⟨⟨k+1,op5,by omega,by go_num,hh5,r5,b5⟩,by simp[intOf];omega⟩
  ·obtain rfl:k=n:=by omega
   rw[HTK.out] at hh
   have HDW:=hid (Qt7 (w.heap.size+1) l.flatten op wr (HLD.out.later hbel) hh (by omega))
   clear hh
   go_wp2_with fail
   go_at_call 40
   refine HDW.out.mono ?_
   rintro _ w6 ⟨rfl,hb6⟩
   have hres6:w6.heap[w.heap.size]?=some (.cells (arr .u8 z32) 37 (0,0)):=by rw[hb6.block _ (by omega)];exact hres
   have hbel6:=Bn hbel hb6
   have hsz:(arr .u8 (digest l.flatten)).size=32:=Qav _ _
   go_wp2_with (refine wpList_store_rowTo rfl 37 _ _ rfl rfl w.heap.size (arr .u8 (digest l.flatten)) rfl rfl 37 _ hres6 (by rw[hsz];exact Tryz.size37) (by rw[hsz];rfl) (Qbe _ _) ?_)
   refine bodyPost_ret (results_cell_row (ty:=37) rfl _ _ _ _ _ _ _ rfl (setRow_heap _ _ _ _ _ _ hres6) Tryz.underlying37 rfl (by rw[hsz];exact Tryz.size37)) rfl ?_
   exact⟨rfl,below_setRow hbel6 (Nat.le_refl _) _⟩
end Sh
namespace Cr
open Go.RowKit Crc
theorem Qea{k:IntKind}{a b:Int}(h:a=b):Ending.returned (.int k a)= .returned (.int k b):=by rw[h]
theorem hid{p:Prop}(h:p):Hid p:=h
theorem and_one(x:Nat)(h:x<2^32):bits .and .u32 (x:Int) 1=((x%2:Nat):Int):=by
 rw[show(1:Int)=((1:Nat):Int) from rfl,u32_and_nat x 1 (by omega) (by omega),Nat.and_one_is_mod]
theorem Qiu(x:Nat):(x:Int)/2=((x/2:Nat):Int):=by omega
theorem Qgm(a b:Nat)(ha:a<2^32)(hb:b<2^32):bits .xor .u32 (a:Int) (b:Int)=((a^^^b:Nat):Int):=u32_xor_nat a b ha hb
theorem Xi3(x:Nat):sel x=poly*(x%2):=by
 unfold sel
 rcases Nat.mod_two_eq_zero_or_one x with e | e<;>rw[e]
 ·rfl
 ·rw[if_pos rfl,Nat.mul_one]
theorem Xem(x:Nat)(h:x<2^32):2197175160*bits .and .u32 (x:Int) 1%4294967296=((sel x:Nat):Int):=by
 rw[and_one x h,Xi3,poly]
 omega
theorem Qkq(x:Nat)(h:x<2^32):bits .xor .u32 ((x:Int)/2) (2197175160*bits .and .u32 (x:Int) 1%4294967296)=((Qdy x 0:Nat):Int):=by
 rw[Xem x h,Qiu,Qgm _ _ (by omega) (Xhe x),Qnx]
theorem Qq4(r n:Nat)(w:World)(h:r<2^32)(hn:n<=32):Calls Tryz.prog 107 #[.int .u32 (r:Int),.int .i64 (n:Int)] w fun e w'=>e= .returned (.int .u32 ((st n r:Nat):Int))∧w'=w:=by
 go_enter Tryz.func107,Tryz.ntmps107
 go_wp2
 go_loop [0,6] (fun r' i=>∃k:Nat,k<=n∧i= .int .i64 k∧r'= .int .u32 ((st k r:Nat):Int)) (fun _ i=>n-(intOf i).toNat)
 case atStart=>exact⟨0,by omega,rfl,rfl⟩
 case round=>
  obtain⟨k,hk,rfl,rfl⟩:=hrel
  by_cases hlt:k<n
  ·have hkn:(k:Int)<(n:Int):=by omega
   have HS:=hid (Xi9 k r)
   have hb:=Xlo k r h
   have HB:=hid (Qkq (st k r) hb)
   generalize st k r=x at *
   go_wp2
   go_round
   case rel=>exact⟨k+1,by omega,by go_num,by rw[HB.out,HS.out]⟩
   case measure=>simp[intOf];omega
  ·have hkn:k=n:=by omega
   subst hkn
   go_wp2
   go_ret
   exact⟨rfl,rfl⟩
theorem Qzd(r:Nat)(w:World)(h:r<2^32):Calls Tryz.prog 107 #[.int .u32 (r:Int),.int .i64 8] w fun e w'=>e= .returned (.int .u32 ((st 8 r:Nat):Int))∧w'=w:=Qq4 r 8 w h (by omega)
theorem Qxb(c:Nat)(w:World)(h:c<256):Calls Tryz.prog 68 #[.int .u8 (c:Int)] w fun e w'=>e= .returned (.int .u32 ((inB 0 c:Nat):Int))∧w'=w:=by
 have he:inB 0 c=st 8 c:=Qps 8 c h
 rw[he]
 go_enter Tryz.func68,Tryz.ntmps68
 go_wp2_with (go_at_call 107;refine(Qzd c _ (by omega)).mono ?_;rintro e w' ⟨rfl,hw⟩;obtain rfl:=hw.symm;clear hw)
 go_ret
 exact⟨rfl,rfl⟩
theorem Xfz(k r b:Nat):inN (k+1) r b=inN k (Qdy r b) (b/2):=rfl
theorem Xjp(x y:Nat)(h:x<2^32)(hne:((x:Int)%2 !=(y:Int)%2)=true):bits .xor .u32 ((x:Int)/2) 2197175160=((Qdy x y:Nat):Int):=by
 have hx:=Qoj x y
 have hne':(x:Int)%2≠(y:Int)%2:=by simpa using hne
 rw[Qiu,show(2197175160:Int)=((poly:Nat):Int) from rfl,Qgm _ _ (by omega) (by decide),Qdy,sel,if_pos (by omega)]
theorem Xed(x y:Nat)(hne:((x:Int)%2 !=(y:Int)%2)=false):(x:Int)/2=((Qdy x y:Nat):Int):=by
 have hx:=Qoj x y
 have hne':(x:Int)%2=(y:Int)%2:=by simpa using hne
 rw[Qiu,Qdy,sel,if_neg (by omega),Nat.xor_zero]
theorem Xki(r c:Nat)(w:World)(h:r<2^32)(hc:c<256):Calls Tryz.prog 79 #[.int .u32 (r:Int),.int .u8 (c:Int)] w fun e w'=>e= .returned (.int .u32 ((inB r c:Nat):Int))∧w'=w:=by
 go_enter Tryz.func79,Tryz.ntmps79
 go_wp2
 go_loop [0,1,5] (fun r' c' i=>∃(k x y:Nat),k<=8∧x<2^32∧y<256∧inN (8-k) x y=inB r c∧i= .int .i64 k∧r'= .int .u32 x∧c'= .int .u8 y) (fun _ _ i=>8-(intOf i).toNat)
 case atStart=>exact⟨0,r,c,by omega,h,hc,rfl,rfl,rfl,rfl⟩
 case round=>
  obtain⟨k,x,y,hk,hx,hy,hin,rfl,rfl,rfl⟩:=hrel
  by_cases hlt:k<8
  ·have hk8:(k:Int)<8:=by omega
   have hin':inN (8-(k+1)) (Qdy x y) (y/2)=inB r c:=by rw[<-hin,show 8-k=8-(k+1)+1 from by omega,Xfz]
   have HI:=hid hin'
   have hbl:=Qva x y hx
   clear hin hin'
   cases hne:((x:Int)%2 !=(y:Int)%2)
   ·have HB:=hid (Xed x y hne)
    go_wp2
    refine⟨⟨k+1,Qdy x y,y/2,by omega,hbl,by omega,HI.out,by go_num,by rw[HB.out],by rw[Qiu]⟩,by simp[intOf];omega⟩
   ·have HB:=hid (Xjp x y hx hne)
    go_wp2
    refine⟨⟨k+1,Qdy x y,y/2,by omega,hbl,by omega,HI.out,by go_num,by rw[HB.out],by rw[Qiu]⟩,by simp[intOf];omega⟩
  ·have hkn:k=8:=by omega
   subst hkn
   go_wp2
   go_ret
   exact⟨Qea (by rw[<-hin];rfl),rfl⟩
end Cr
namespace Cr
open Go.RowKit Crc
end Cr
namespace Cr
open Go.RowKit Crc
structure Rd (w:World) (v:Value) (a:Option Addr) (cap:Nat) (zs:List Nat):Prop where
 val:v= .slice a zs.length cap
 room:zs.length<=cap
 most:cap<=maxLen
 cells:0<zs.length->∃b off,a=some ⟨b,off,none⟩∧b<w.heap.size∧∀j,j<zs.length->w.cell? ⟨b,off+j,none⟩=some (.int .u8 ((zs.getD j 0:Nat):Int))
 hi:∀j,zs.getD j 0<256
theorem Rd.later{w w':World}{v:Value}{a:Option Addr}{cap:Nat}{zs:List Nat}(h:Rd w v a cap zs)(hb:Below w.heap.size w w'):Rd w' v a cap zs:=by
 refine⟨h.val,h.room,h.most,fun h0=>?_,h.hi⟩
 obtain⟨b,off,ha,hbw,hc⟩:=h.cells h0
 exact⟨b,off,ha,Nat.lt_of_lt_of_le hbw hb.size,fun j hj=>(hb.cell (p:=⟨b,off+j,none⟩) hbw).trans (hc j hj)⟩
end Cr
namespace Cr
open Go.RowKit Crc
theorem Qkc(s:Nat)(h:s<2^32):bits .xor .u32 IntKind.u32.max (s:Int)=((s^^^ones:Nat):Int):=by
 rw[show IntKind.u32.max=((ones:Nat):Int) from rfl,Qgm _ _ (by decide) h,Nat.xor_comm]
theorem Qbq(zs:List Nat)(k:Nat)(hk:k<zs.length):zs.take (k+1)=zs.take k++ [zs.getD k 0]:=by
 rw[List.take_succ_eq_append_getElem hk]
 simp[List.getD,List.getElem?_eq_getElem hk]
theorem Qv9(r:Nat)(zs:List Nat)(k:Nat)(hk:k<zs.length):inR r (zs.take (k+1))=inB (inR r (zs.take k)) (zs.getD k 0):=by
 rw[Qbq zs k hk,Qng];rfl
theorem Xiu(s:Nat)(a:Option Addr)(cap:Nat)(zs:List Nat)(w:World)(hs:s<2^32)(hr:Rd w (.slice a zs.length cap) a cap zs):
 Calls Tryz.prog 49 #[.int .u32 (s:Int),.slice a zs.length cap] w fun e w'=>e= .returned (.int .u32 ((add s zs:Nat):Int))∧w'=w:=by
 have hcells:=hr.cells
 have hroom:=hr.room
 have hmost:=hr.most
 unfold maxLen at hmost
 have HI:=hid hr.hi
 have hlt0:=Qoo s hs
 have HT:=hid (Qv9 (s^^^ones) zs)
 have HR:=hid (fun k=>Xdd (zs.take k) (s^^^ones) hlt0)
 have HF:Hid (inR (s^^^ones) (zs.take zs.length)^^^ones=add s zs):=by rw[List.take_length];exact rfl
 have HN:=hid (Qkc s hs)
 clear hr
 generalize zs.length=n at *
 go_enter Tryz.func49,Tryz.ntmps49
 go_wp2
 go_loop [5,6] (fun r i=>∃k:Nat,k<=n∧i= .int .i64 k∧r= .int .u32 ((inR (s^^^ones) (zs.take k):Nat):Int)) (fun _ i=>n-(intOf i).toNat)
 case atStart=>exact⟨0,by omega,rfl,by rw[HN.out];rfl⟩
 case round=>
  obtain⟨k,hk,rfl,rfl⟩:=hrel
  by_cases hlt:k<n
  ·obtain⟨b,off,rfl,hbw,hc⟩:=hcells (by omega)
   have hck:=hc k hlt
   have hyk:=HI.out k
   have hrk:=HR.out k
   have HTk:=hid (HT.out k hlt)
   have hkn:(k:Int)<(n:Int):=by omega
   generalize zs.getD k 0=c at *
   generalize inR (s^^^ones) (zs.take k)=x at *
   clear hc hcells
   go_wp2_with (go_at_call 79;refine(Xki x c _ hrk hyk).mono ?_;rintro e w' ⟨rfl,hw⟩;obtain rfl:=hw.symm;clear hw)
   go_round
   case rel=>exact⟨k+1,by omega,by go_num,by rw[HTk.out]⟩
   case measure=>simp[intOf];omega
  ·have hkn:k=n:=by omega
   subst hkn
   have HE:=hid (Qkc _ (HR.out k))
   go_wp2
   go_ret
   exact⟨Qea (by rw[HE.out,HF.out]),rfl⟩
theorem Qxm(x c:Nat)(hx:x<2^32)(hc:c<256):bits .xor .u32 ((inB 0 (x%256^^^c):Nat):Int) ((x:Int)/256)=((inB x c:Nat):Int):=by
 rw[show(x:Int)/256=((x/256:Nat):Int) from by omega,Qgm _ _ (Xgo _ _ (by omega)) (by omega),Nat.xor_comm,<-Xbu x c hc]
theorem Xgk(x c:Nat)(hc:c<256):bits .xor .u8 ((x:Int)%256) (c:Int)=((x%256^^^c:Nat):Int):=by
 rw[show(x:Int)%256=((x%256:Nat):Int) from by omega,u8_xor_nat _ _ (by omega) hc]
theorem Quc(z:Int)(c:Nat)(w:World)(h:c<256)(hz:z=(c:Int)):Calls Tryz.prog 68 #[.int .u8 z] w fun e w'=>e= .returned (.int .u32 ((inB 0 c:Nat):Int))∧w'=w:=by
 subst hz;exact Qxb c w h
theorem Qom(s:Nat)(a:Option Addr)(cap:Nat)(zs:List Nat)(w:World)(hs:s<2^32)(hr:Rd w (.slice a zs.length cap) a cap zs):
 Calls Tryz.prog 44 #[.int .u32 (s:Int),.slice a zs.length cap] w fun e w'=>e= .returned (.int .u32 ((add s zs:Nat):Int))∧w'=w:=by
 have hcells:=hr.cells
 have hroom:=hr.room
 have hmost:=hr.most
 unfold maxLen at hmost
 have HI:=hid hr.hi
 have hlt0:=Qoo s hs
 have HT:=hid (Qv9 (s^^^ones) zs)
 have HR:=hid (fun k=>Xdd (zs.take k) (s^^^ones) hlt0)
 have HF:Hid (inR (s^^^ones) (zs.take zs.length)^^^ones=add s zs):=by rw[List.take_length];exact rfl
 have HN:=hid (Qkc s hs)
 clear hr
 generalize zs.length=n at *
 go_enter Tryz.func44,Tryz.ntmps44
 go_wp2
 go_loop [5,12] (fun r i=>∃k:Nat,k<=n∧i= .int .i64 k∧r= .int .u32 ((inR (s^^^ones) (zs.take k):Nat):Int)) (fun _ i=>n-(intOf i).toNat)
 case atStart=>exact⟨0,by omega,rfl,by rw[HN.out];rfl⟩
 case round=>
  obtain⟨k,hk,rfl,rfl⟩:=hrel
  by_cases hlt:k<n
  ·obtain⟨b,off,rfl,hbw,hc⟩:=hcells (by omega)
   have hck:=hc k hlt
   have hyk:=HI.out k
   have hrk:=HR.out k
   have HTk:=hid (HT.out k hlt)
   have hkn:(k:Int)<(n:Int):=by omega
   generalize zs.getD k 0=c at *
   generalize inR (s^^^ones) (zs.take k)=x at *
   have hxc:x%256^^^c<2^8:=Nat.xor_lt_two_pow (by omega) (by omega)
   have HLB:=hid (Xgk x c hyk)
   have HTW:=hid (Qxm x c hrk hyk)
   clear hc hcells
   go_wp2_with (go_at_call 68;refine(Quc _ (x%256^^^c) _ hxc HLB.out).mono ?_;rintro e w' ⟨rfl,hw⟩;obtain rfl:=hw.symm;clear hw)
   go_round
   case rel=>exact⟨k+1,by omega,by go_num,by rw[HTW.out,HTk.out]⟩
   case measure=>simp[intOf];omega
  ·have hkn:k=n:=by omega
   subst hkn
   have HE:=hid (Qkc _ (HR.out k))
   go_wp2
   go_ret
   exact⟨Qea (by rw[HE.out,HF.out]),rfl⟩
end Cr
namespace Cr
open Go.RowKit Crc
structure Ps (w:World) (a:Option Addr) (cap:Nat) (l:List (List Nat)):Prop where
 room:l.length<=cap
 most:cap<=maxLen
 cells:0<l.length->∃b off,a=some ⟨b,off,none⟩∧∀j,j<l.length->∃v a' cap',w.cell? ⟨b,off+j,none⟩=some v∧Rd w v a' cap' (l.getD j [])
def Qmv(l:List (List Nat)):Nat:=add 0 l.flatten
theorem Qy1(l:List (List Nat)):Qmv l<2^32:=add_lt 0 _ (by decide)
theorem Qrd(l:List (List Nat))(k:Nat)(hk:k<l.length):Qmv (l.take (k+1))=add (Qmv (l.take k)) (l.getD k []):=by
 have e:l.take (k+1)=l.take k++ [l.getD k []]:=by
  rw[List.take_succ_eq_append_getElem hk]
  simp[List.getD,List.getElem?_eq_getElem hk]
 rw[Qmv,Qmv,e,List.flatten_append,Qyf]
 simp
theorem Xji(a:Option Addr)(cap:Nat)(l:List (List Nat))(w:World)(hr:Ps w a cap l):
 Calls Tryz.prog 27 #[.slice a l.length cap] w fun e w'=>e= .returned (.int .u32 ((Qmv l:Nat):Int))∧w'=w:=by
 have hcells:=hr.cells
 have hroom:=hr.room
 have hmost:=hr.most
 unfold maxLen at hmost
 have HT:=hid (Qrd l)
 have HF:Hid (Qmv (l.take l.length)=Qmv l):=by rw[List.take_length];exact rfl
 clear hr
 generalize l.length=n at *
 go_enter Tryz.func27,Tryz.ntmps27
 go_wp2
 go_loop [3,8] (fun r i=>∃k:Nat,k<=n∧i= .int .i64 k∧r= .int .u32 ((Qmv (l.take k):Nat):Int)) (fun _ i=>n-(intOf i).toNat)
 case atStart=>exact⟨0,by omega,rfl,by rw[show Qmv (l.take 0)=0 from by rw[List.take_zero];decide];rfl⟩
 case round=>
  obtain⟨k,hk,rfl,rfl⟩:=hrel
  by_cases hlt:k<n
  ·obtain⟨b,off,rfl,hc⟩:=hcells (by omega)
   obtain⟨v,a',cap',hck,hrd⟩:=hc k hlt
   have hv:=hrd.val
   subst hv
   have HA:=hid (Qom (Qmv (l.take k)) a' cap' (l.getD k []) w (Qy1 _) hrd)
   have HTk:=hid (HT.out k hlt)
   have hkn:(k:Int)<(n:Int):=by omega
   generalize Qmv (l.take k)=x at *
   generalize l.getD k []=y at *
   clear hc hcells hrd
   go_wp2_with fail
   go_at_call 44
   refine HA.out.mono ?_
   rintro e w' ⟨rfl,hw⟩
   obtain rfl:=hw.symm
   clear hw
   go_wp2
   go_round
   case rel=>exact⟨k+1,by omega,by go_num,by rw[HTk.out]⟩
   case measure=>simp[intOf];omega
  ·have hkn:k=n:=by omega
   subst hkn
   go_wp2
   go_ret
   exact⟨Qea (by rw[HF.out]),rfl⟩
theorem Xk2(a:Option Addr)(cap:Nat)(l:List (List Nat))(w:World)(hr:Ps w a cap l):
 Calls Tryz.prog 31 #[.slice a l.length cap] w fun e w'=>e= .returned (.int .u32 ((Qmv l:Nat):Int))∧w'=w:=by
 have hcells:=hr.cells
 have hroom:=hr.room
 have hmost:=hr.most
 unfold maxLen at hmost
 have HT:=hid (Qrd l)
 have HF:Hid (Qmv (l.take l.length)=Qmv l):=by rw[List.take_length];exact rfl
 clear hr
 generalize l.length=n at *
 go_enter Tryz.func31,Tryz.ntmps31
 go_wp2
 go_loop [3,4] (fun r i=>∃k:Nat,k<=n∧i= .int .i64 k∧r= .int .u32 ((Qmv (l.take k):Nat):Int)) (fun _ i=>n-(intOf i).toNat)
 case atStart=>exact⟨0,by omega,rfl,by rw[show Qmv (l.take 0)=0 from by rw[List.take_zero];decide];rfl⟩
 case round=>
  obtain⟨k,hk,rfl,rfl⟩:=hrel
  by_cases hlt:k<n
  ·obtain⟨b,off,rfl,hc⟩:=hcells (by omega)
   obtain⟨v,a',cap',hck,hrd⟩:=hc k hlt
   have hv:=hrd.val
   subst hv
   have HA:=hid (Xiu (Qmv (l.take k)) a' cap' (l.getD k []) w (Qy1 _) hrd)
   have HTk:=hid (HT.out k hlt)
   have hkn:(k:Int)<(n:Int):=by omega
   generalize Qmv (l.take k)=x at *
   generalize l.getD k []=y at *
   clear hc hcells hrd
   go_wp2_with fail
   go_at_call 49
   refine HA.out.mono ?_
   rintro e w' ⟨rfl,hw⟩
   obtain rfl:=hw.symm
   clear hw
   go_wp2
   go_round
   case rel=>exact⟨k+1,by omega,by go_num,by rw[HTk.out]⟩
   case measure=>simp[intOf];omega
  ·have hkn:k=n:=by omega
   subst hkn
   go_wp2
   go_ret
   exact⟨Qea (by rw[HF.out]),rfl⟩
theorem Qab(w:World)(o:Obj):Below w.heap.size w (w.alloc o):=(Below.refl _ _).alloc (Nat.le_refl _) o
theorem Ps.two{w:World}{v1 v2:Value}{a1 a2:Option Addr}{c1 c2:Nat}{z1 z2:List Nat}(h1:Rd w v1 a1 c1 z1)(h2:Rd w v2 a2 c2 z2)(g:Nat)(hg:g=w.heap.size):
 Ps (w.alloc (.cells #[v1,v2] 22)) (some ⟨g,0,none⟩) 2 [z1,z2]:=by
 subst hg
 have hb:=Qab w (.cells #[v1,v2] 22)
 refine⟨Nat.le_refl _,by unfold maxLen;omega,fun _=>⟨w.heap.size,0,rfl,fun j hj=>?_⟩⟩
 have hc:=World.cell?_alloc_mark w #[v1,v2] 22 (0,0)
 match j,hj with
 | 0,_=>exact⟨v1,a1,c1,hc 0,h1.later hb⟩
 | 1,_=>exact⟨v2,a2,c2,hc 1,h2.later hb⟩
end Cr
section
open Go.RowKit
def Qj4(zs:List Int):List Nat:=zs.map Int.toNat
theorem Qe4(zs:List Int):(Qj4 zs).length=zs.length:=List.length_map _
theorem Qkg(zs:List Int)(j:Nat):(Qj4 zs).getD j 0=(zs.getD j 0).toNat:=by
 simp only[Qj4,List.getD,List.getElem?_map]
 cases zs[j]?<;>rfl
def Qf4(bs:List Int):List Int:=(Sh.Sha.digest (Qj4 bs)).map fun z:Nat=>(z:Int)
def Qoy(zs:List Int):Nat:=Cr.Crc.add 0 (Qj4 zs)
def u8A(l:List Int):Array Value:=(l.map (Value.int .u8)).toArray
theorem Qix(l:List Int):(u8A l).size=l.length:=by simp[u8A]
theorem Xce(l:List Int):(u8A l).all (·.oneCell')=true:=by
 rw[u8A,List.all_toArray,List.all_eq_true]
 intro v hv
 obtain⟨z,_,rfl⟩:=List.mem_map.1 hv
 rfl
theorem Xci(l:List Nat):Sh.arr .u8 l=u8A (l.map fun z:Nat=>(z:Int)):=by simp[Sh.arr,u8A,List.map_map,Function.comp_def]
theorem Qgc(bs:List Int):(Qf4 bs).length=32:=by simp only[Qf4,List.length_map];rfl
theorem Xin(x:Nat):∀z∈Sh.Sha.four x,z<256:=by
 intro z hz
 simp only[Sh.Sha.four,List.mem_cons,List.not_mem_nil,or_false] at hz
 rcases hz with rfl | rfl | rfl | rfl<;>omega
theorem Xec(s:Sh.Sha.St):∀z∈Sh.Sha.bytes s,z<256:=by
 intro z hz
 simp only[Sh.Sha.bytes,List.mem_append] at hz
 rcases hz with ((((((h | h) | h) | h) | h) | h) | h) | h<;>exact Xin _ z h
theorem Xkg(l:List Nat)(j:Nat):(Sh.Sha.digest l).getD j 0<256:=(Sh.Qqb _).2 (Xec _) j
theorem Qo2(bs:List Int)(j:Nat):0<=(Qf4 bs).getD j 0∧(Qf4 bs).getD j 0<=255:=by
 unfold Qf4
 have:=Xkg (Qj4 bs) j
 rw[show((Sh.Sha.digest (Qj4 bs)).map fun z:Nat=>(z:Int)).getD j 0=(((Sh.Sha.digest (Qj4 bs)).getD j 0:Nat):Int) from by
  simp only[List.getD,List.getElem?_map]
  cases (Sh.Sha.digest (Qj4 bs))[j]?<;>rfl]
 omega
theorem Qph(zs:List Int):Qoy zs<4294967296:=Cr.Crc.add_lt 0 _ (by decide)
theorem Ri.rdS{w:World}{b off cap:Nat}{zs:List Int}(h:Ri w .u8 (some ⟨b,off,none⟩) cap zs):Sh.Rd w (.slice (some ⟨b,off,none⟩) zs.length cap) (some ⟨b,off,none⟩) cap (Qj4 zs):=by
 refine⟨by rw[Qe4],by rw[Qe4];exact h.room,h.most,fun h0=>?_,fun j=>?_,fun h=>by cases h⟩
 ·rw[Qe4] at h0|-
  obtain⟨b',off',ha,hb,hc⟩:=h.cells h0
  refine⟨b',off',ha,hb,fun j hj=>?_⟩
  have:=wf_u8 (h.fits j)
  rw[hc j hj,Qkg,Int.toNat_of_nonneg this.1]
 ·have:=wf_u8 (h.fits j)
  rw[Qkg];omega
theorem Ri.rdC{w:World}{a:Option Addr}{cap:Nat}{zs:List Int}(h:Ri w .u8 a cap zs):Cr.Rd w (.slice a zs.length cap) a cap (Qj4 zs):=by
 refine⟨by rw[Qe4],by rw[Qe4];exact h.room,h.most,fun h0=>?_,fun j=>?_⟩
 ·rw[Qe4] at h0|-
  obtain⟨b',off',ha,hb,hc⟩:=h.cells h0
  refine⟨b',off',ha,hb,fun j hj=>?_⟩
  have:=wf_u8 (h.fits j)
  rw[hc j hj,Qkg,Int.toNat_of_nonneg this.1]
 ·have:=wf_u8 (h.fits j)
  rw[Qkg];omega
theorem Qp5(b off cap:Nat)(zs:List Int)(w:World)(hl:Sh.Laid w)(hr:Ri w .u8 (some ⟨b,off,none⟩) cap zs)(hn:zs.length<=100000)(g:Nat)(hg:g=w.heap.size):
 Calls Tryz.prog 21 #[.slice (some ⟨g,0,none⟩) 1 1] (w.alloc (.cells #[.slice (some ⟨b,off,none⟩) zs.length cap] 22)) fun e w'=>e= .returned (.agg (u8A (Qf4 zs)))∧Below w.heap.size w w':=by
 have hb:=Qbr w (.cells #[.slice (some ⟨b,off,none⟩) zs.length cap] 22)
 have e0:=Qbf w (.cells #[.slice (some ⟨b,off,none⟩) zs.length cap] 22)
 have hps:Sh.Ps (w.alloc (.cells #[.slice (some ⟨b,off,none⟩) zs.length cap] 22)) (some ⟨g,0,none⟩) 1 [Qj4 zs]:=by
  refine⟨Nat.le_refl _,by unfold maxLen;omega,fun _=>⟨g,0,rfl,by rw[hg];simp,fun j hj=>?_⟩⟩
  have:j=0:=by simp at hj;omega
  subst this
  exact⟨.slice (some ⟨b,off,none⟩) zs.length cap,some ⟨b,off,none⟩,cap,by rw[hg,Nat.zero_add];exact Joins.cell_of_block e0 0,hr.rdS.later hb⟩
 have h:=Sh.Xee (some ⟨g,0,none⟩) 1 [Qj4 zs] (w.alloc (.cells #[.slice (some ⟨b,off,none⟩) zs.length cap] 22)) (hl.later hb) hps (by simp[Qe4];omega)
 rw[show [Qj4 zs].flatten=Qj4 zs from by simp] at h
 refine h.mono (fun e w' h=>⟨?_,Bn hb h.2⟩)
 rw[h.1,Xci]
 rfl
theorem Qq0(a1 a2:Option Addr)(c1 c2:Nat)(x y:List Int)(w:World)(h1:Ri w .u8 a1 c1 x)(h2:Ri w .u8 a2 c2 y)(g:Nat)(hg:g=w.heap.size):
 Calls Tryz.prog 27 #[.slice (some ⟨g,0,none⟩) 2 2] (w.alloc (.cells #[.slice a1 x.length c1,.slice a2 y.length c2] 22)) fun e w'=>e= .returned (.int .u32 (Qoy (x++y):Int))∧w'=w.alloc (.cells #[.slice a1 x.length c1,.slice a2 y.length c2] 22):=by
 have h:=Cr.Xji (some ⟨g,0,none⟩) 2 [Qj4 x,Qj4 y] _ (Cr.Ps.two h1.rdC h2.rdC g hg)
 refine h.mono (fun e w' h=>⟨?_,h.2⟩)
 rw[h.1]
 unfold Cr.Qmv Qoy Qj4
 rw[List.map_append]
 simp
theorem Qr1{P:Program}(d:Nat){e:TypeId}(he:P.underlying e=some (.int .u8))(l m:List Int)(w:World):
 ∀is:List Nat,(∀i∈is,i<l.length∧i<m.length)->(Op.eqItems (d+1) e 1 (u8A l) (u8A m) is).run P w= .ok (is.all fun i=>l.getD i 0==m.getD i 0) w
 | [],_=>rfl
 | i::is,h=>by
   have hi:=h i (by simp)
   have ih:=Qr1 d he l m w is (fun j hj=>h j (by simp[hj]))
   have ha:(isAgg e).run P w= .ok false w:=by
    unfold isAgg
    rw[Sem.run_bind,run_underlying he w]
    rfl
   have hp:∀q:List Int,i<q.length->(part e (u8A q) (i*1)).run P w= .ok (.int .u8 (q.getD i 0)) w:=by
    intro q hq
    unfold part
    simp[Sem.run_bind,ha,u8A,List.getD,List.getElem?_eq_getElem hq]
   simp only[Op.eqItems,Sem.run_bind,hp l hi.1,hp m hi.2,Result.andThen_ok,run_equalIn_int w d e .u8 .u8 _ _ he,List.all_cons]
   generalize l.getD i 0=x at *
   generalize m.getD i 0=y at *
   by_cases hq:x=y
   ·subst hq
    simpa using ih
   ·simp[hq]
theorem Xl3(l m:List Int)(hl:l.length=32)(hm:m.length=32)(w:World):(Op.equalIn 10000 37 (.agg (u8A l)) (.agg (u8A m))).run Tryz.prog w= .ok (decide (l=m)) w:=by
 obtain⟨i,hi⟩:∃i,Tryz.prog.info? 5=some i:=info_of_underlying Tryz.underlying5
 rw[show(10000:Nat)=9999+1 from rfl,run_equalIn_array w 9999 _ _ Tryz.underlying37 hi,Tryz.cells5,Qr1 9998 Tryz.underlying5 l m w _ (fun j hj=>by rw[hl,hm];have:=List.mem_range.1 hj;exact⟨this,this⟩)]
 refine congrArg (fun b=>Result.ok b w) ?_
 by_cases h:l=m
 ·subst h;simp
 ·rw[decide_eq_false h,Bool.eq_false_iff]
  intro hc
  rw[List.all_eq_true] at hc
  exact h (Hf.Qvy (by omega) (fun j hj=>by have:=hc j (List.mem_range.2 (by omega));simpa using this))
theorem Xjj:Tryz.prog.eqGuardType Tryz.prog.depth 37=false:=by kernel_rfl
theorem Qwq{P:Program}{oi:Oper}{ρ:Operand->Value}{t t2:TypeId}{x y:Operand}(ho:oi.op= .binOp .neq t x y t2){xs ys:Array Value}{b:Bool}(hx:ρ x= .agg xs)(hy:ρ y= .agg ys)(hg:P.eqGuardType P.depth t=false){w:World}
 (h:(Op.equalIn 10000 t (.agg xs) (.agg ys)).run P w= .ok b w):(execOp ρ oi).run P w= .ok (.value (.bool (!b))) w:=by
 unfold execOp
 simp only[ho,hx,hy,Sem.run_bind,run_eqGuard_agg w .neq t x y xs ys hg,run_neq_struct w t xs ys,h,Result.andThen_ok]
 rfl
end
section
open Go.RowKit Hf Lz
theorem Qwh(n:Nat)(hn:n<=1000000)(w:World):(Instr.makeSlice 22 (.int .i64 (n:Int)) (.int .i64 (n:Int))).run Tryz.prog w= .ok (.slice (some ⟨w.heap.size,0,none⟩) n n) (w.alloc (.cells (madeCells #[.int .u8 0] n) 5)):=by
 obtain⟨i0,hi,hi0,hi1,hi2⟩:=info_parts Tryz.info5W
 have h:=run_make (P:=Tryz.prog) w 22 5 i0 (.int .u8 0) Tryz.underlying22 hi hi0 .i64 .i64 (n:Int) (n:Int) (by omega) (by omega) (by rw[hi2];omega) (by omega)
 rw[Int.toNat_natCast,hi1,Nat.mul_one] at h
 exact h
theorem Xcy(w:World)(n:Nat)(hn:n<=1000000):Ri (w.alloc (.cells (madeCells #[.int .u8 0] n) 5)) .u8 (some ⟨w.heap.size,0,none⟩) n (List.replicate n 0):=by
 refine⟨by rw[List.length_replicate];exact Nat.le_refl _,by unfold maxLen;omega,fun _=>⟨w.heap.size,0,rfl,by simp,fun j hj=>?_⟩,fun j=>?_⟩
 ·rw[List.length_replicate] at hj
  rw[Nat.zero_add,Joins.cell_of_block (Qaj w _) j]
  simp[madeCells,hj,Nat.mod_one,List.getD]
 ·have:(List.replicate n (0:Int)).getD j 0=0:=by
   simp only[List.getD,List.getElem?_replicate]
   split<;>rfl
  rw[this];exact Qb8 _
theorem Ql5(bs:List Int)(hn:bs.length<=4200):(Qb6 bs).length<=bs.length+3:=by
 have hv:=Qdo (bs.length:Int) (by omega) (by omega)
 unfold Qb6 Qgi
 split<;>simp only[List.length_append,List.length_singleton]<;>omega
end
end Go.Proofs.YtibjlbcnapoblaaGreatDoor
