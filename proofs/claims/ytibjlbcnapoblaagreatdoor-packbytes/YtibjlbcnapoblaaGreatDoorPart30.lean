/- Contracts and facts. -/
import Derived.Test.YtibjlbcnapoblaaGreatDoorPart29
namespace Go.Proofs.YtibjlbcnapoblaaGreatDoor
set_option maxRecDepth 100000
set_option maxHeartbeats 6400000
section
open Go.RowKit
theorem Qt0(n:Nat)(l:List Int)(hl:l.length=n)(h:∀c∈l,0<=c∧c<=255):∃x:Nat,Qsm l=(x:Int)∧x<256^n:=by
 have:=Qvb l h
 obtain⟨x,hx⟩:=Int.eq_ofNat_of_zero_le this.1
 refine⟨x,hx,?_⟩
 have h2:=this.2
 rw[hx,hl] at h2
 exact_mod_cast h2
theorem Xlq{zs:List Int}(h:∀j,(Lit.int .u8 (zs.getD j 0)).wf=true)(p n:Nat):∀c∈(zs.drop p).take n,0<=c∧c<=255:=fun c hc=>by
 have h1:=List.mem_of_mem_drop (List.mem_of_mem_take hc)
 obtain⟨j,hj,rfl⟩:=List.getElem_of_mem h1
 have:=wf_u8 (h j)
 rw[show zs.getD j 0=zs[j] from by simp[List.getD,List.getElem?_eq_getElem hj]] at this
 exact this
theorem Rr.dig{w0 w:World}{g:Nat}{t:TypeId}{n k s:Int}{d:List Int}{ah:Value}{a:Option Addr}{cap:Nat}{zs:List Int}(h:Rr w0 w g t (opT n k d ah s) a cap zs)(e:List Int)(_he:e.length=32):Rr w0 (w.setRow g (Value.slice a zs.length cap::opT n k e ah s).toArray) g t (opT n k e ah s) a cap zs:=
 ⟨setRow_heap _ _ _ _ _ _ h.blk,h.row,below_setRow h.bel h.ge _,h.ge⟩
theorem Xhu{w0 w:World}{g:Nat}{n k s:Int}{d:List Int}{ah:Value}{a:Option Addr}{cap:Nat}{zs:List Int}(ad:Addr)(c:Nat)(h:Rr w0 w g 65 (opT n k d ah s) a cap zs)(hd:d.length=32)(e:List Int)(he:e.length=32)(hc:∀j,j<32->w.cell? (ad.add j)=some (.int .u8 (e.getD j 0))):
 (Builtin.copy_ #[22,22] 3 #[.slice (some ⟨g,3,none⟩) 32 32,.slice (some ad) 32 c]).run Tryz.prog w= .ok (.int .i64 32) (w.setRow g (Value.slice a zs.length cap::opT n k e ah s).toArray):=by
 have h1:=run_copy_row (P:=Tryz.prog) w 22 22 3 5 g 3 32 32 ad 32 c _ 65 (e.map (Value.int .u8)) Tryz.underlying22 (by kernel_rfl) h.blk (by rw[List.length_map,he];rfl) (fun j v hv=>by
  have hj:j<e.length:=by have:=(List.getElem?_eq_some_iff.1 hv).1;simpa using this
  rw[hc j (by omega),<-hv]
  simp[List.getD,List.getElem?_eq_getElem hj]) (by rw[List.length_map,he,Qn6 _ _ _ _ _ _ hd];decide) (fun v hv=>by obtain⟨z,_,rfl⟩:=List.mem_map.1 hv;rfl)
 rw[h1,List.length_map,he]
 congr 3
 unfold opT hdL
 simp[hd]
theorem Xc8(b off cap:Nat)(zs:List Int)(w:World)(hr:Ri w .u8 (some ⟨b,off,none⟩) cap zs)(h:44<=zs.length):Calls Tryz.prog 32 #[.slice (some ⟨b,off,none⟩) zs.length cap] w (Qgs (some ⟨b,off,none⟩) cap zs w):=by
 have b0:=Qbr w (.cells opZ 65)
 have e0:=Qbf w (.cells opZ 65)
 have b1:=Qbr (w.alloc (.cells opZ 65)) (.cells opZ 65)
 have e1:=Qbf (w.alloc (.cells opZ 65)) (.cells opZ 65)
 have s0:(w.alloc (.cells opZ 65)).heap.size=w.heap.size+1:=by simp
 rw[s0] at e1
 have HE0:Hid (((w.alloc (.cells opZ 65)).alloc (.cells opZ 65)).heap[w.heap.size]?=some (.cells opZ 65)):=by
  show _=_
  rw[b1.block _ (by rw[s0];omega)];exact e0
 have hroom:=hr.room
 have hmost:=hr.most
 unfold maxLen at hmost
 have HZ:Hid (∀j,(Lit.int .u8 (zs.getD j 0)).wf=true):=hr.fits
 have hq:¬(zs.length:Int)<44:=by omega
 have hq2:40<=cap:=by omega
 have hb0:Tryz.prog.built 65 []=some opZ:=by kernel_rfl
 have hb1:∀(L:Nat),Tryz.prog.built 65 [(0,.agg #[.slice (some ⟨b,off,none⟩) L cap]),(2,.slice (some ⟨b,off,none⟩) 40 cap)]=some (Value.slice (some ⟨b,off,none⟩) L cap::opT 0 0 z32 (.slice (some ⟨b,off,none⟩) 40 cap) 0).toArray:=fun L=>by kernel_rfl
 have hsz:opZ.size=37:=rfl
 have HR:=hid hr
 have HB1:=hid (Bn b0 b1)
 have HLEN:=hid h
 obtain⟨L,hL⟩:∃L,L=zs.length:=⟨_,rfl⟩
 have HL:=hid hL
 rw[<-hL] at hroom hq h|-
 obtain⟨X,hX⟩:∃X,X=(Value.slice (some ⟨b,off,none⟩) L cap::opT 0 0 z32 (.slice (some ⟨b,off,none⟩) 40 cap) 0).toArray:=⟨_,rfl⟩
 have hXs:X.size=37:=by rw[hX];rfl
 have hX1:X.all (·.oneCell')=true:=by rw[hX];exact Qlr _ _ _ _ _ _ _ _ _ _
 have hbX:∀W,(Instr.build 65 #[(0,.agg #[.slice (some ⟨b,off,none⟩) L cap]),(2,.slice (some ⟨b,off,none⟩) 40 cap)]).run Tryz.prog W= .ok (.agg X) W:=fun W=>run_build W 65 _ X (by rw[hX];exact hb1 L)
 have HX:=hid hX
 have HBX:=hid hbX
 have HXS:=hid hXs
 have HX1:=hid hX1
 clear hX hb1 hL hr b0 b1 e0 hb0 hbX hX1 hXs hsz hmost
 go_enter Tryz.func32,Tryz.ntmps32
 go_wp2_with (first
  | (refine Qad rfl 65 rfl (some 2) rfl opZ Tryz.zero65 w.heap.size rfl ?_)
  | (refine Qad rfl 65 rfl (some 4) rfl opZ Tryz.zero65 (w.heap.size+1) s0.symm ?_)
  | (refine Qot rfl 65 0 2 (.tmp 11) (.tmp 13) rfl (.agg #[.slice (some ⟨b,off,none⟩) L cap]) (.slice (some ⟨b,off,none⟩) 40 cap) (.agg X) rfl rfl (HBX.out _) ?_)
  | (refine wpList_store_rowTo rfl 65 _ _ rfl rfl (w.heap.size+1) X rfl rfl 65 _ e1 (by rw[HXS.out];exact Tryz.size65) (by rw[HXS.out];rfl) HX1.out ?_))
 have hR0:Rr w (((w.alloc (.cells opZ 65)).alloc (.cells opZ 65)).setRow (w.heap.size+1) X) (w.heap.size+1) 65 (opT 0 0 z32 (.slice (some ⟨b,off,none⟩) 40 cap) 0) (some ⟨b,off,none⟩) cap zs:=
  ⟨by rw[setRow_heap _ _ _ _ _ _ e1,HX.out,HL.out],HR.out,below_setRow HB1.out (Nat.le_succ _) _,Nat.le_succ _⟩
 have HZ0:Hid ((((w.alloc (.cells opZ 65)).alloc (.cells opZ 65)).setRow (w.heap.size+1) X).heap[w.heap.size]?=some (.cells opZ 65)):=by
  show _=_
  rw[setRow_other _ _ _ _ (by omega)];exact HE0.out
 have HR0:=hid hR0
 clear hR0 e1 HBX HX1 HXS HX HE0 HB1 s0
 generalize ((w.alloc (.cells opZ 65)).alloc (.cells opZ 65)).setRow (w.heap.size+1) X=W0 at *
 have HG:Hid (w.heap.size<w.heap.size+1):=Nat.lt_succ_self _
 generalize w.heap.size+1=g at *
 refine(Qfo w W0 g 65 _ b off cap 4 zs HR0.out (by have:=HLEN.out;omega)).mono ?_
 rintro _ W1 ⟨rfl,o1,c1,rfl,hr1⟩
 have HR1:=hid (HR0.out.put hr1)
 have HZ1:Hid ((W0.setCell ⟨g,0,none⟩ (.slice (some ⟨b,o1,none⟩) (zs.drop 4).length c1)).heap[w.heap.size]?=some (.cells opZ 65)):=(((Fg.refl g W0).put (i:=0) (.slice (some ⟨b,o1,none⟩) (zs.drop 4).length c1)).same _ (by have:=HG.out;omega)).trans HZ0.out
 have ht4:=(HR.out.take 4).text _ HR1.out.bel
 rw[show(zs.take 4).length=4 from by have:=HLEN.out;simp;omega] at ht4
 clear hr1 HR0 HZ0
 generalize W0.setCell ⟨g,0,none⟩ (.slice (some ⟨b,o1,none⟩) (zs.drop 4).length c1)=W1 at *
 generalize hst:strOfNums (zs.take 4)=st at *
 have HST:=hid hst
 clear hst
 go_wp2_with fail
 refine(Qgt 16 2 w W1 g 65 _ b o1 c1 (zs.drop 4) (.inl ⟨rfl,rfl⟩) HR1.out (by rw[List.length_drop];have:=HLEN.out;omega)).mono ?_
 rintro _ W2 ⟨rfl,hF2,o2,c2,hR2⟩
 obtain⟨n,hn,hn1⟩:=Qt0 2 ((zs.drop 4).take 2) (by simp;have:=HLEN.out;omega) (Xlq HZ.out 4 2)
 have HN:=hid hn
 rw[hn]
 rw[List.drop_drop] at hR2
 have q1:=hR2.cellT 0
 have u1:=Joins.unfrozen_of_block hR2.blk 1
 rw[show(opT 0 0 z32 (Value.slice (some ⟨b,off,none⟩) 40 cap) 0)[0]?=some (.int .i64 0) from rfl] at q1
 have HR3:=hid (hR2.set 0 (.int .i64 (n:Int)))
 rw[show(opT 0 0 z32 (Value.slice (some ⟨b,off,none⟩) 40 cap) 0).set 0 (.int .i64 (n:Int))=opT n 0 z32 (Value.slice (some ⟨b,off,none⟩) 40 cap) 0 from rfl] at HR3
 have HZ3:Hid ((W2.setCell ⟨g,1,none⟩ (.int .i64 (n:Int))).heap[w.heap.size]?=some (.cells opZ 65)):=((hF2.put (i:=1) (.int .i64 (n:Int))).same _ (by have:=HG.out;omega)).trans HZ1.out
 clear hR2 hF2 HR1 HZ1 ht4 hn
 go_wp2_with fail
 generalize W2.setCell ⟨g,1,none⟩ (.int .i64 (n:Int))=W3 at *
 clear q1 u1
 refine(Qgt 16 2 w W3 g 65 _ b o2 c2 (zs.drop (4+2)) (.inl ⟨rfl,rfl⟩) HR3.out (by rw[List.length_drop];have:=HLEN.out;omega)).mono ?_
 rintro _ W4 ⟨rfl,hF4,o4,c4,hR4⟩
 obtain⟨k,hk,hk1⟩:=Qt0 2 ((zs.drop (4+2)).take 2) (by simp;have:=HLEN.out;omega) (Xlq HZ.out (4+2) 2)
 have HK:=hid hk
 rw[hk]
 rw[List.drop_drop] at hR4
 change Rr w W4 g 65 _ _ c4 (zs.drop (6+2)) at hR4
 have q1:=hR4.cellT 1
 have u1:=Joins.unfrozen_of_block hR4.blk 2
 rw[show(opT n 0 z32 (Value.slice (some ⟨b,off,none⟩) 40 cap) 0)[1]?=some (.int .i64 0) from rfl] at q1
 have HR5:=hid (hR4.set 1 (.int .i64 (k:Int)))
 rw[show(opT n 0 z32 (Value.slice (some ⟨b,off,none⟩) 40 cap) 0).set 1 (.int .i64 (k:Int))=opT n k z32 (Value.slice (some ⟨b,off,none⟩) 40 cap) 0 from rfl] at HR5
 have HZ5:Hid ((W4.setCell ⟨g,2,none⟩ (.int .i64 (k:Int))).heap[w.heap.size]?=some (.cells opZ 65)):=((hF4.put (i:=2) (.int .i64 (k:Int))).same _ (by have:=HG.out;omega)).trans HZ3.out
 clear hR4 hF4 HR3 HZ3 hk
 go_wp2_with fail
 generalize W4.setCell ⟨g,2,none⟩ (.int .i64 (k:Int))=W5 at *
 clear q1 u1
 refine wp_region_held_drew (S:=fun _=>True) (by kernel_rfl) trivial (fun hS0=>?_)
 have HR6:=hid (HR5.out.drewN 1)
 have HZ6:Hid (W5.drew.heap[w.heap.size]?=some (.cells opZ 65)):=HZ5.out
 change Hid (Rr w W5.drew _ _ _ _ _ _) at HR6
 clear HR5 HZ5
 generalize W5.drew=v0 at *
 simp only[List.size_toArray,List.length_cons,List.length_nil,Nat.reduceAdd]
 refine Ord.tk (i:=0) (d:=26) (v:=?vA0) rfl rfl ?hA0 (by assumption) ?_
 case hA0=>intro w hSw;go_simp;try with_reducible rfl
 simp only[Ord.s1,Ord.s2,Ord.s3]
 refine Ord.tk (i:=1) (d:=27) (v:=?vA1) rfl rfl ?hA1 (by assumption) ?_
 case hA1=>intro w hSw;go_simp;try with_reducible rfl
 simp only[Ord.s1,Ord.s2,Ord.s3]
 refine Ord.tk (i:=2) (d:=28) (v:= .slice (some ⟨g,3,none⟩) 32 32) rfl rfl ?hA2 (by assumption) ?_
 case hA2=>intro w hSw;go_simp;try with_reducible rfl
 simp only[Ord.s1,Ord.s2,Ord.s3]
 refine Ord.tk (i:=3) (d:=29) (v:=?vA3) rfl rfl ?hA3 (by assumption) ?_
 case hA3=>intro w hSw;go_simp;try with_reducible rfl
 simp only[Ord.s1,Ord.s2,Ord.s3]
 refine wpAnyH_ready (rs:= [4]) (by as_aux_lemma=>kernel_rfl) (by simp) (AllReadyH.cons rfl (fun K hK=>?_) AllReadyH.nil)
 go_simp
 refine(Qfo w v0 g 65 _ b o4 c4 32 (zs.drop (6+2)) HR6.out (by rw[List.length_drop];have:=HLEN.out;omega)).mono ?_
 rintro _ v1 ⟨rfl,o7,c7,rfl,hr7⟩
 have hR7:=HR6.out.put hr7
 have HZ7:Hid ((v0.setCell ⟨g,0,none⟩ (.slice (some ⟨b,o7,none⟩) ((zs.drop (6+2)).drop 32).length c7)).heap[w.heap.size]?=some (.cells opZ 65)):=(((Fg.refl g v0).put (i:=0) (.slice (some ⟨b,o7,none⟩) ((zs.drop (6+2)).drop 32).length c7)).same _ (by have:=HG.out;omega)).trans HZ6.out
 generalize v0.setCell ⟨g,0,none⟩ (.slice (some ⟨b,o7,none⟩) ((zs.drop (6+2)).drop 32).length c7)=v1 at *
 obtain⟨dd,hdd⟩:∃dd,dd=(zs.drop (6+2)).take 32:=⟨_,rfl⟩
 have hdl:dd.length=32:=by rw[hdd];simp;have:=HLEN.out;omega
 have hcp:=Xhu ⟨b,o4,none⟩ c4 hR7 (by rfl) dd hdl (fun j hj=>by
  have h9:=HR6.out.row.later hR7.bel
  obtain⟨b',off',hb',_,hc'⟩:=h9.cells (by rw[List.length_drop];have:=HLEN.out;omega)
  injection hb' with hb'
  injection hb' with h1 h2
  subst h1 h2
  rw[Go.WideShapes.add_plain,hc' j (by rw[List.length_drop];have:=HLEN.out;omega),hdd,getD_take _ 32 j hj])
 have HR8:=hid (hR7.dig dd hdl)
 have HZ8:Hid ((v1.setRow g (Value.slice (some ⟨b,o7,none⟩) ((zs.drop (6+2)).drop 32).length c7::opT n k dd (.slice (some ⟨b,off,none⟩) 40 cap) 0).toArray).heap[w.heap.size]?=some (.cells opZ 65)):=(setRow_other _ _ _ _ (by have:=HG.out;omega)).trans HZ7.out
 have HDD:=hid hdd
 have HDL:=hid hdl
 generalize (Value.slice (some ⟨b,o7,none⟩) ((zs.drop (6+2)).drop 32).length c7::opT n k dd (.slice (some ⟨b,off,none⟩) 40 cap) 0).toArray=Y at *
 refine hK.out _ _ trivial (fun _=>?_)
 clear hK K hr7 hR7 hdd hdl HR6 HZ6 HZ7
 try simp only[Ord.s1,Ord.s2,Ord.s3]
 refine wpAnyH_ready (rs:= [5]) (by as_aux_lemma=>kernel_rfl) (by simp) (AllReadyH.cons rfl (fun K hK=>?_) AllReadyH.nil)
 go_simp
 refine hK.out _ _ trivial (fun _=>?_)
 clear hK K hcp
 try simp only[Ord.s1,Ord.s2,Ord.s3]
 refine wpAnyH_done (by as_aux_lemma=>kernel_rfl) ?_ _
 generalize v1.setRow g Y=W8 at *
 go_wp2_with fail
 refine(Qgt 32 4 w W8 g 65 _ b o7 c7 ((zs.drop (6+2)).drop 32) (.inr ⟨rfl,rfl⟩) HR8.out (by rw[List.length_drop,List.length_drop];have:=HLEN.out;omega)).mono ?_
 rintro _ W9 ⟨rfl,hF9,o9,c9,hR9⟩
 rw[List.drop_drop,List.drop_drop] at hR9
 rw[List.drop_drop]
 obtain⟨s,hs,hs1⟩:=Qt0 4 ((zs.drop (6+2+32)).take 4) (by simp;have:=HLEN.out;omega) (Xlq HZ.out (6+2+32) 4)
 have HS:=hid hs
 rw[hs]
 have q1:=hR9.cellT 35
 have u1:=Joins.unfrozen_of_block hR9.blk 36
 have hod:(opT n k dd (Value.slice (some ⟨b,off,none⟩) 40 cap) 0)=hdL n k dd++ [(Value.slice (some ⟨b,off,none⟩) 40 cap),.int .u32 0]:=rfl
 have hhl:(hdL n k dd).length=34:=by simp[hdL,HDL.out]
 rw[hod,List.getElem?_append_right (by omega),hhl,show([(Value.slice (some ⟨b,off,none⟩) 40 cap),.int .u32 0]:List Value)[35-34]?=some (.int .u32 0) from rfl] at q1
 have HR10:=hid (hR9.set 35 (.int .u32 (s:Int)))
 rw[hod,List.set_append_right _ _ (by omega),hhl,show([(Value.slice (some ⟨b,off,none⟩) 40 cap),.int .u32 0]:List Value).set (35-34) (.int .u32 (s:Int))= [(Value.slice (some ⟨b,off,none⟩) 40 cap),.int .u32 (s:Int)] from rfl] at HR10
 change Hid (Rr _ _ _ _ (opT n k dd (Value.slice (some ⟨b,off,none⟩) 40 cap) s) _ _ _) at HR10
 have HZ10:Hid ((W9.setCell ⟨g,36,none⟩ (.int .u32 (s:Int))).heap[w.heap.size]?=some (.cells opZ 65)):=((hF9.put (i:=36) (.int .u32 (s:Int))).same _ (by have:=HG.out;omega)).trans HZ8.out
 have hs2:(s:Int)<4294967296:=by omega
 have hs0:0<=(s:Int):=by omega
 have hwr:(s:Int)%4294967296=(s:Int):=by omega
 clear hR9 hF9 HR8 HZ8 hod hhl hs hs1
 generalize hsx:(s:Int)=sx at *
 have HSX:=hid hsx
 clear hs2 hs0 hsx
 have HB0:Hid (Tryz.prog.built 65 []=some opZ):=by show _=_;kernel_rfl
 have HSZ:Hid (opZ.size=37):=rfl
 by_cases hmk:zs.take 4= [83,67,72,75]
 ·have hst2:st=⟨#[83,67,72,75]⟩:=by rw[<-HST.out,hmk];decide +kernel
  subst hst2
  have HLD:Hid ((Instr.loadAt 53 (.pointer (some ⟨g,1,none⟩))).run Tryz.prog (W9.setCell ⟨g,36,none⟩ (.int .u32 sx))= .ok (.agg (hdL n k dd).toArray) (W9.setCell ⟨g,36,none⟩ (.int .u32 sx))):=HR10.out.headLoad HDL.out
  have HMK:=hid hmk
  clear hmk
  go_wp2_with (refine Qbn rfl 53 (.tmp 39) rfl _ _ rfl HLD.out ?_)
  refine(Xej n k dd _ (by omega) (by omega)).mono ?_
  rintro _ W11 ⟨rfl,hb11⟩
  have hk1:(W9.setCell ⟨g,36,none⟩ (.int .u32 sx)).heap.size<=W11.heap.size:=hb11.size
  have hgl:g<(W9.setCell ⟨g,36,none⟩ (.int .u32 sx)).heap.size:=HR10.out.lt
  have HZ11:Hid (W11.heap[w.heap.size]?=some (.cells opZ 65)):=(hb11.block _ (by have:=HG.out;omega)).trans HZ10.out
  have HR11:Hid (Rr w W11 g 65 (opT n k dd (Value.slice (some ⟨b,off,none⟩) 40 cap) sx) (some ⟨b,o9,none⟩) c9 (zs.drop (6+2+(32+4)))):=
   ⟨(hb11.block _ hgl).trans HR10.out.blk,HR10.out.row,Bn HR10.out.bel hb11,HR10.out.ge⟩
  clear hb11 HZ10 HR10 HLD q1 u1 hk1 hgl
  cases hmy:Xje n k with
  | false=>
    go_wp2_with (first
     | (refine wpList_buildTo rfl 65 #[] rfl (some 44) rfl opZ HB0.out ?_)
     | (refine wpList_store_rowTo rfl 65 _ _ rfl rfl w.heap.size opZ rfl rfl 65 _ HZ11.out (by rw[HSZ.out];exact Tryz.size65) rfl (Qlr none 0 0 0 0 z32 none 0 0 0) ?_))
    refine bodyPost_ret (Qaz rfl _ _ w.heap.size (.agg opZ) rfl (run_loadVar_row _ w.heap.size 65 65 opZ (0,0) _ (setRow_heap _ _ _ _ _ _ HZ11.out) Tryz.underlying65 rfl (by rw[HSZ.out];exact Tryz.size65))) rfl ?_
    unfold Qgs
    rw[show Qs7 zs=none from by unfold Qs7;rw[if_neg (fun h=>by
     have h2:=h.2.2
     rw[HN.out,show zs.drop 6=zs.drop (4+2) from rfl,HK.out,Int.toNat_natCast,Int.toNat_natCast,hmy] at h2
     cases h2)]]
    exact⟨below_setRow HR11.out.bel (Nat.le_refl _) _,rfl⟩
  | true=>
    have HMY:=hid hmy
    obtain⟨Z,hZ⟩:∃Z,Z=(Value.slice (some ⟨b,o9,none⟩) (zs.drop (6+2+(32+4))).length c9::opT n k dd (Value.slice (some ⟨b,off,none⟩) 40 cap) sx).toArray:=⟨_,rfl⟩
    have HZS:Hid (Z.size=37):=by show _=_;rw[hZ];exact Qn6 _ _ _ _ _ _ HDL.out
    have HZ1:Hid (Z.all (·.oneCell')=true):=by show _=_;rw[hZ];exact Qlr _ _ _ _ _ _ _ _ _ _
    have HBK:=hid HR11.out.blk
    rw[<-hZ] at HBK
    have HZZ:=hid hZ
    clear hZ hmy
    go_wp2_with (first
     | (refine wpList_load_row rfl 65 _ rfl g rfl 65 Z (0,0) _ HBK.out Tryz.underlying65 rfl (by rw[HZS.out];exact Tryz.size65) ?_)
     | (refine wpList_store_rowTo rfl 65 _ _ rfl rfl w.heap.size Z rfl rfl 65 _ HZ11.out (by rw[HZS.out];exact Tryz.size65) (by rw[HZS.out];rfl) HZ1.out ?_))
    refine bodyPost_ret (Qaz rfl _ _ w.heap.size (.agg Z) rfl (run_loadVar_row _ w.heap.size 65 65 Z (0,0) _ (setRow_heap _ _ _ _ _ _ HZ11.out) Tryz.underlying65 rfl (by rw[HZS.out];exact Tryz.size65))) rfl ?_
    unfold Qgs
    have ho:Qs7 zs=some (n,k,dd,s):=by
     unfold Qs7
     rw[HN.out,show zs.drop 6=zs.drop (4+2) from rfl,HK.out,show zs.drop 40=zs.drop (6+2+32) from rfl,HS.out,<-HSX.out,Int.toNat_natCast,Int.toNat_natCast,Int.toNat_natCast,if_pos ⟨HLEN.out,HMK.out,HMY.out⟩,HDD.out]
    rw[ho]
    refine⟨below_setRow HR11.out.bel (Nat.le_refl _) _,b,o9,c9,?_,HR11.out.row⟩
    rw[HZZ.out,<-HSX.out]
    rfl
 ·have hne:(st.toList == [83,67,72,75])=false:=by
   have h1:=str_eq (xs:=zs.take 4) (ys:= [83,67,72,75]) (HR.out.take 4).fits (fun j=>by
    match j with
    | 0=>rfl
    | 1=>rfl
    | 2=>rfl
    | 3=>rfl
    | j+4=>simp;exact Qb8 _)
   rw[HST.out,show strOfNums [83,67,72,75]=⟨#[83,67,72,75]⟩ from by decide +kernel] at h1
   rw[show [83,67,72,75]=(⟨#[83,67,72,75]⟩:ByteArray).toList from by decide +kernel,h1]
   exact beq_eq_false_iff_ne.2 hmk
  go_wp2_with (first
   | (refine wpList_buildTo rfl 65 #[] rfl (some 44) rfl opZ HB0.out ?_)
   | (refine wpList_store_rowTo rfl 65 _ _ rfl rfl w.heap.size opZ rfl rfl 65 _ HZ10.out (by rw[HSZ.out];exact Tryz.size65) rfl (Qlr none 0 0 0 0 z32 none 0 0 0) ?_))
  refine bodyPost_ret (Qaz rfl _ _ w.heap.size (.agg opZ) rfl (run_loadVar_row _ w.heap.size 65 65 opZ (0,0) _ (setRow_heap _ _ _ _ _ _ HZ10.out) Tryz.underlying65 rfl (by rw[HSZ.out];exact Tryz.size65))) rfl ?_
  unfold Qgs
  rw[show Qs7 zs=none from by unfold Qs7;rw[if_neg (fun h=>hmk h.2.1)]]
  exact⟨below_setRow HR10.out.bel (Nat.le_refl _) _,rfl⟩
theorem Xfh(a:Option Addr)(cap:Nat)(zs:List Int)(w:World)(hr:Ri w .u8 a cap zs):Calls Tryz.prog 32 #[.slice a zs.length cap] w (Qgs a cap zs w):=by
 by_cases h:zs.length<44
 ·exact Qxv a cap zs w h
 ·obtain⟨b,off,rfl,_,_⟩:=hr.cells (by omega)
  exact Xc8 b off cap zs w hr (by omega)
theorem Xjm{n k:Nat}(h:Xje n k=true):1<=n∧n<=4096∧1<=k∧k<=4100:=by
 unfold Xje at h
 simp at h
 omega
theorem Xic{zs:List Int}{n k s:Nat}{d:List Int}(h:Qs7 zs=some (n,k,d,s)):44<=zs.length∧1<=n∧n<=4096∧1<=k∧k<=4100∧d=(zs.drop 8).take 32:=by
 unfold Qs7 at h
 split at h
 ·rename_i hc
  simp only[Option.some.injEq,Prod.mk.injEq] at h
  obtain⟨rfl,rfl,rfl,_⟩:=h
  have:=Xjm hc.2.2
  exact⟨hc.1,by omega,by omega,by omega,by omega,rfl⟩
 ·cases h
def Xjy(zs:List Int):Int×List Int×Nat:=
 match Qs7 zs with
 | none=>(110,[],0)
 | some (n,k,d,s)=>if zs.length/512<Qdu k then (11,[],0)
   else if (Xde (zs.take 40) (zs.drop 44) n k d s).1=0 then (0,(Xde (zs.take 40) (zs.drop 44) n k d s).2,Qdu k) else ((Xde (zs.take 40) (zs.drop 44) n k d s).1,[],0)
def Xbf(r:Int×List Int×Nat)(w:World)(e:Ending)(w':World):Prop:=
 Below w.heap.size w w'∧((r.1≠0∧e= .returned (.tuple #[.slice none 0 0,.int .i64 0,.int .i64 r.1]))∨(r.1=0∧∃a c,e= .returned (.tuple #[.slice a r.2.1.length c,.int .i64 (r.2.2:Int),.int .i64 0])∧Ri w' .u8 a c r.2.1))
theorem Xjn(a:Option Addr)(cap:Nat)(zs:List Int)(w:World)(hr:Ri w .u8 a cap zs)(hn:zs.length<=100000)(hL:Sh.Laid w):Calls Tryz.prog 18 #[.slice a zs.length cap] w (Xbf (Xjy zs) w):=by
 have HOP:=hid (Xfh a cap zs w hr)
 unfold Qgs at HOP
 have HR:=hid hr
 have HL:=hid hL
 obtain⟨R,hR⟩:∃R,R=Xjy zs:=⟨_,rfl⟩
 have HRE:=hid hR
 obtain⟨L,hLe⟩:∃L,L=zs.length:=⟨_,rfl⟩
 have HLE:=hid hLe
 rw[<-hR]
 rw[<-hLe] at hn HOP|-
 unfold Xjy at HRE
 clear hr hR hLe hL
 cases ho:Qs7 zs with
 | none=>
   rw[ho] at HOP HRE
   dsimp only at HOP HRE
   clear ho
   have b0:=fun W:World=>Qbr W (.cells opZ 65)
   have e0:=fun W:World=>Qbf W (.cells opZ 65)
   have HSZ:Hid (opZ.size=37):=rfl
   have HB0:=hid b0
   have HE0:=hid e0
   clear b0 e0
   go_enter Tryz.func18,Tryz.ntmps18
   go_wp2_with fail
   refine HOP.out.mono ?_
   rintro _ W1 ⟨hb1,rfl⟩
   have HB1:=hid hb1
   clear hb1 HOP
   go_wp2_with (first
    | (refine Qad rfl 65 rfl (some 5) rfl opZ Tryz.zero65 W1.heap.size rfl ?_)
    | (refine wpList_store_rowTo rfl 65 _ _ rfl rfl W1.heap.size opZ rfl rfl 65 _ (HE0.out W1) (by rw[HSZ.out];exact Tryz.size65) rfl (Qlr none 0 0 0 0 z32 none 0 0 0) ?_))
   go_ret3
   refine⟨below_setRow (Bn HB1.out (HB0.out W1)) HB1.out.size _,.inl ?_⟩
   rw[HRE.out]
   exact⟨by decide,rfl⟩
 | some r=>
   obtain⟨n,k,d,s⟩:=r
   have hrg:=Xic ho
   rw[ho] at HOP HRE
   dsimp only at HOP HRE
   obtain⟨h44,h1n,hn4,h1k,hk4,hdd⟩:=hrg
   have hdl:d.length=32:=by rw[hdd];simp;omega
   have HDL:=hid hdl
   have HOT:=hid (fun(b o c x:Nat)=>Qn6 (.slice (some ⟨b,o,none⟩) x c) n k d (.slice a 40 cap) s hdl)
   have hbl:=(rfl:Qdu k=Qdu k)
   have hbk:Qdu k<=9:=by unfold Qdu;omega
   clear ho hdd hdl hbl
   rw[<-HLE.out] at h44 HRE
   go_enter Tryz.func18,Tryz.ntmps18
   go_wp2_with fail
   refine HOP.out.mono ?_
   rintro _ W1 ⟨hb1,b,o,c,rfl,hrd⟩
   have hXs:=Qn6 (.slice (some ⟨b,o,none⟩) (zs.drop 44).length c) n k d (.slice a 40 cap) s HDL.out
   have hX1:=Qlr (some ⟨b,o,none⟩) (zs.drop 44).length c n k d a 40 cap s
   obtain⟨X,hX⟩:∃X,X=(Value.slice (some ⟨b,o,none⟩) (zs.drop 44).length c::opT n k d (.slice a 40 cap) s).toArray:=⟨_,rfl⟩
   rw[<-hX] at hXs hX1|-
   have HXS:=hid hXs
   have HX1:=hid hX1
   have HX:=hid hX
   have e0:=Qbf W1 (.cells opZ 65)
   have b0:=Qbr W1 (.cells opZ 65)
   have HB1:=hid hb1
   have HRD:=hid hrd
   have HE0:=hid e0
   have HB0:=hid b0
   clear hXs hX1 hX e0 b0 hb1 hrd HOP HOT
   have HRR:Hid (Rr w ((W1.alloc (.cells opZ 65)).setRow W1.heap.size X) W1.heap.size 65 (opT n k d (.slice a 40 cap) s) (some ⟨b,o,none⟩) c (zs.drop 44)):=
    ⟨by rw[setRow_heap _ _ _ _ _ _ HE0.out,HX.out],HRD.out,below_setRow (Bn HB1.out HB0.out) HB1.out.size _,HB1.out.size⟩
   have HLH:=hid (HRR.out.headLoad HDL.out)
   have HQ:=hid (rfl:Qdu k=Qdu k)
   obtain⟨q,hq⟩:∃q,q=Qdu k:=⟨_,rfl⟩
   have HBW:Hid (∀W,Calls Tryz.prog 25 #[.agg (hdL n k d).toArray] W fun e w'=>e= .returned (.int .i64 (q:Int))∧Below W.heap.size W w'):=fun W=>by rw[hq];exact Qf1 n k d W (by omega)
   rw[<-hq] at hbk HRE
   have HQE:=hid hq
   clear hq HQ
   go_wp2_with (first
    | (refine Qad rfl 65 rfl (some 5) rfl opZ Tryz.zero65 W1.heap.size rfl ?_)
    | (refine wpList_store_rowTo rfl 65 _ _ rfl rfl W1.heap.size X rfl rfl 65 _ HE0.out (by rw[HXS.out];exact Tryz.size65) (by rw[HXS.out];rfl) HX1.out ?_)
    | (refine Qbn rfl 53 (.tmp 19) rfl _ _ rfl HLH.out ?_))
   clear HLH
   generalize (W1.alloc (.cells opZ 65)).setRow W1.heap.size X=W2 at *
   generalize W1.heap.size=g at *
   refine(HBW.out _).mono ?_
   rintro _ W3 ⟨rfl,hb3⟩
   have HR3:=hid (HRR.out.keepB hb3)
   clear hb3 HRR HE0 HB0 HX HXS HX1
   have hdv:(L:Int)/512=((L/512:Nat):Int):=by omega
   by_cases hsh:L/512<q
   ·have hshi:(L:Int)/512<(q:Int):=by omega
    clear hdv
    go_wp2_with fail
    go_ret3
    refine⟨HR3.out.bel,.inl ?_⟩
    rw[HRE.out,if_pos hsh]
    exact⟨by decide,rfl⟩
   ·have hshi:¬(L:Int)/512<(q:Int):=by omega
    clear hdv
    rw[if_neg hsh] at HRE
    have HCW:=hid (Qqt w W3 g b o c (zs.drop 44) (zs.take 40) d n k s a cap HR3.out (HR.out.take 40) (by have:=HLE.out;simp;omega) h1k hk4 (by rw[List.length_drop,<-HQE.out,<-HLE.out];omega) HDL.out h1n hn4 HL.out)
    generalize Xde (zs.take 40) (zs.drop 44) n k d s=cr at *
    unfold Qzw at HCW
    go_wp2_with fail
    refine HCW.out.mono ?_
    rintro _ W4 ⟨hb4,⟨a4,c4,z4,hR4⟩,⟨hne,rfl⟩ | ⟨h0,a5,c5,rfl,hr5⟩⟩
    ·have hnb:(cr.1 != 0)=true:=by rw[bne_iff_ne];exact hne
     have HB4:=hid hb4
     rw[if_neg hne] at HRE
     have HNE:=hid hne
     clear hb4 hR4 HCW hne
     generalize hc1:cr.1=x1 at *
     clear hc1
     go_wp2_with fail
     go_ret3
     refine⟨HB4.out,.inl ?_⟩
     rw[HRE.out]
     exact⟨HNE.out,rfl⟩
    ·rw[if_pos h0] at HRE
     have HR4:=hid hR4
     have HI5:=hid hr5
     obtain⟨L5,hL5⟩:∃L5,L5=cr.2.length:=⟨_,rfl⟩
     have HL5:=hid hL5
     rw[<-hL5]
     have HLH:=hid (hR4.headLoad HDL.out)
     clear hb4 hR4 HCW hr5 hL5 h0
     go_wp2_with (refine Qbn rfl 53 (.tmp 31) rfl _ _ rfl HLH.out ?_)
     refine(HBW.out _).mono ?_
     rintro _ W5 ⟨rfl,hb5⟩
     have HI6:=hid (HI5.out.later hb5)
     have HB6:=hid (Bn HR4.out.bel hb5)
     clear hb5 HI5 HR4 HLH
     go_wp2_with fail
     go_ret3
     refine⟨HB6.out,.inr ?_⟩
     rw[HRE.out]
     exact⟨rfl,a5,c5,by rw[<-HL5.out];rfl,HI6.out⟩
end
section
open Go.RowKit Hf Lz
theorem seg{x y z:List Int}(p n:Nat)(hx:x.length=p)(hy:y.length=n):((x++(y++z)).drop p).take n=y:=by rw[<-hx,List.drop_left,<-hy,List.take_left]
theorem Quv(n:Nat)(x:Nat)(h:(x:Int)<256^n):(Qsm (Sh.Wd.leL n x)).toNat=x:=by
 show(Sh.Wd.Qes (Sh.Wd.leL n x).reverse).toNat=x
 rw[Sh.Wd.Xb3,Int.emod_eq_of_lt (by omega) h,Int.toNat_natCast]
theorem Xaz(k:Nat):44+k<=512*Qdu k:=by unfold Qdu;omega
theorem Qpk(bs:List Int):(Qhn bs).length=512*Qdu (Qb6 bs).length:=by
 have h:=Xaz (Qb6 bs).length
 unfold Qhn
 simp only[List.length_append,List.length_replicate,Sh.Wd.Qbb,Qpm _ _ _ (Qgc bs)]
 omega
theorem Xhv(bs:List Int)(hc:isC bs.length=true)(t:List Int):Qs7 (Qhn bs++t)=some (bs.length,(Qb6 bs).length,Qf4 bs,Qoy (Qif bs.length (Qb6 bs).length (Qf4 bs)++Qb6 bs)):=by
 have hrg:=Qku hc
 have hel:=Ql5 bs (by omega)
 have hep:0<(Qb6 bs).length:=by unfold Qb6 Qgi;split<;>simp
 have hcl:=Qph (Qif bs.length (Qb6 bs).length (Qf4 bs)++Qb6 bs)
 have hdl:=Qgc bs
 have hpl:=Qpk bs
 have hbg:=Xaz (Qb6 bs).length
 obtain⟨C,hC⟩:∃C,C=Qoy (Qif bs.length (Qb6 bs).length (Qf4 bs)++Qb6 bs):=⟨_,rfl⟩
 have e:Qhn bs++t= [83,67,72,75]++(Sh.Wd.leL 2 bs.length++(Sh.Wd.leL 2 (Qb6 bs).length++(Qf4 bs++(Sh.Wd.leL 4 C++(Qb6 bs++(List.replicate (512*Qdu (Qb6 bs).length-44-(Qb6 bs).length) 0++t)))))):=by
  rw[hC];unfold Qhn Qif;simp only[List.append_assoc]
 rw[<-hC] at hcl|-
 have hlen:44<=(Qhn bs++t).length:=by rw[List.length_append,hpl];omega
 unfold Qs7
 generalize Qf4 bs=d at *
 generalize hE:(Qb6 bs).length=M at *
 generalize bs.length=L at *
 have l2:=fun x:Int=>Sh.Wd.Qbb 2 x
 have q4:(Qhn bs++t).take 4= [83,67,72,75]:=by rw[e];rfl
 have q6:((Qhn bs++t).drop 4).take 2=Sh.Wd.leL 2 L:=by rw[e];exact seg 4 2 rfl (l2 _)
 have q8:((Qhn bs++t).drop 6).take 2=Sh.Wd.leL 2 M:=by rw[e,<-List.append_assoc];exact seg 6 2 (by simp[l2]) (l2 _)
 have q40:((Qhn bs++t).drop 8).take 32=d:=by rw[e,<-List.append_assoc,<-List.append_assoc];exact seg 8 32 (by simp[l2]) hdl
 have q44:((Qhn bs++t).drop 40).take 4=Sh.Wd.leL 4 C:=by rw[e,<-List.append_assoc,<-List.append_assoc,<-List.append_assoc];exact seg 40 4 (by simp[l2,hdl]) (Sh.Wd.Qbb 4 _)
 rw[q4,q6,q8,q40,q44,Quv 2 L (by show(L:Int)<65536;omega),Quv 2 M (by show(M:Int)<65536;omega),Quv 4 C (by show(C:Int)<4294967296;omega)]
 rw[if_pos ⟨hlen,rfl,by unfold Xje;simp;omega⟩]
theorem Xi4(n:Nat):Xj2 (List.replicate n 0)=true:=by
 unfold Xj2
 rw[List.all_eq_true]
 intro x hx
 rw[List.eq_of_mem_replicate hx]
 rfl
theorem Xiq(bs:List Int)(h8:Qce bs)(hc:isC bs.length=true)(t:List Int):Xjy (Qhn bs++t)=(0,bs,Qdu (Qb6 bs).length):=by
 have hrg:=Qku hc
 have ho:=Xhv bs hc t
 have hro:=Xhx bs h8 (by omega)
 have hpl:=Qpk bs
 have hdl:=Qgc bs
 have hbg:=Xaz (Qb6 bs).length
 unfold Xjy
 rw[ho]
 dsimp only
 rw[if_neg (by rw[List.length_append,hpl];omega)]
 have e:Qhn bs++t=Qif bs.length (Qb6 bs).length (Qf4 bs)++(Sh.Wd.leL 4 (Qoy (Qif bs.length (Qb6 bs).length (Qf4 bs)++Qb6 bs))++(Qb6 bs++(List.replicate (512*Qdu (Qb6 bs).length-44-(Qb6 bs).length) 0++t))):=by
  unfold Qhn;simp only[List.append_assoc]
 have hhl:=Qpm bs.length (Qb6 bs).length (Qf4 bs) hdl
 have q40:(Qhn bs++t).take 40=Qif bs.length (Qb6 bs).length (Qf4 bs):=by rw[e,<-hhl,List.take_left]
 have q44:(Qhn bs++t).drop 44=Qb6 bs++(List.replicate (512*Qdu (Qb6 bs).length-44-(Qb6 bs).length) 0++t):=by
  rw[e,<-List.append_assoc,show 44=(Qif bs.length (Qb6 bs).length (Qf4 bs)++Sh.Wd.leL 4 (Qoy (Qif bs.length (Qb6 bs).length (Qf4 bs)++Qb6 bs))).length from by rw[List.length_append,hhl,Sh.Wd.Qbb],List.drop_left]
 rw[q40,q44]
 have hcn:Xde (Qif bs.length (Qb6 bs).length (Qf4 bs)) (Qb6 bs++(List.replicate (512*Qdu (Qb6 bs).length-44-(Qb6 bs).length) 0++t)) bs.length (Qb6 bs).length (Qf4 bs) (Qoy (Qif bs.length (Qb6 bs).length (Qf4 bs)++Qb6 bs))=(0,bs):=by
  unfold Xde
  rw[List.take_left,if_neg (fun h=>h rfl),List.drop_left,show(List.replicate (512*Qdu (Qb6 bs).length-44-(Qb6 bs).length) (0:Int)++t).take (512*Qdu (Qb6 bs).length-44-(Qb6 bs).length)=List.replicate (512*Qdu (Qb6 bs).length-44-(Qb6 bs).length) 0 from by
   have:=List.take_left (l₁:=List.replicate (512*Qdu (Qb6 bs).length-44-(Qb6 bs).length) (0:Int)) (l₂:=t)
   rwa[List.length_replicate] at this,Xi4,if_neg (by decide),hro]
  dsimp only
  rw[if_neg (fun h=>h rfl),if_neg (fun h=>h rfl)]
 rw[hcn,if_pos rfl]
end
section
open Go.RowKit Go.Shelf Lz
attribute [local go_sem] Oper.semAt_some
structure Lw (n:Nat) (v:Value) (z:Int) (W:World):Prop where
 b:W.heap[n]?=some (.cells #[v] 22 (0,0))
 at':W.heap[n+1]?=some (.cells #[.int .i64 0] 3 (0,0))
 res:Tb W (n+1+1) (0,0,0)
 tok:Tb W (n+1+1+1) (0,1,z)
theorem ck1{W W':World}{row:Option Nat}{B:Nat}{cs:Array Value}{t:TypeId}{m:Nat×Nat}(h:W.heap[B]?=some (.cells cs t m))(hg:W.grownBy W' row)(hr:∀r,row=some r->∃o:Obj,W.heap[r]?=some o∧o.isCells=false):W'.heap[B]?=some (.cells cs t m):=by
 refine(hg.block B (Array.getElem?_eq_some_iff.1 h).1 (fun e=>?_)).trans h
 obtain⟨o,ho,hc⟩:=hr B e.symm
 rw[h] at ho
 cases ho
 cases hc
theorem Lw.kept{n:Nat}{v:Value}{z:Int}{W W':World}{row:Option Nat}(h:Lw n v z W)(hg:W.grownBy W' row)(hr:∀r,row=some r->∃o:Obj,W.heap[r]?=some o∧o.isCells=false):Lw n v z W':=
 ⟨ck1 h.b hg hr,ck1 h.at' hg hr,ck1 h.res hg hr,ck1 h.tok hg hr⟩
abbrev Xkx (gf:Nat) (lb:Array Value) (n₀:Nat) (w:World):Prop:=
 SeqStopsK Fence.wide 9 Tryz.prog gf lb (fun x:Fin 0=> #[.int .i64 ((x.val:Nat):Int)]) (Below n₀) (fun ys=>ys= []) (fun pre=>pre <+: []) (0+1) w
theorem po1{W:World}{B D:Nat}{cs:Array Value}{t:TypeId}{m:Nat×Nat}{o:Obj}{o'':_}(h:W.heap[B]?=some (.cells cs t m))(hD:W.heap[D]?=some (.deferred o'')):(W.putObj D o).heap[B]?=some (.cells cs t m):=
 (World.putObj_heap_other (fun e=>by subst e;rw[h] at hD;cases hD)).trans h
theorem Xfl(z:Int)(g off cap:Nat)(w:World)(hg:g<w.heap.size)(hc:w.cell? ⟨g,off,none⟩=some (.int .u8 z))
 (gf:Nat) (lb:Array Value) (hen:∀args w,(callFunc gf args).run Tryz.prog w= .ok (.enter gf args) w) (hseq:∀W,Below w.heap.size w W->Xkx gf lb w.heap.size W) :
 Calls Tryz.prog 97 #[.slice (some ⟨g,off,none⟩) 1 cap,.int .i64 0,.func (.func gf) #[] lb] w fun e w'=>e= .returned (.agg (Qnk (0,1,z)))∧Below w.heap.size w w':=by
 have HS:=hid hseq
 have HEN:=hid hen
 have cq3:(((w.alloc (.cells #[.slice (some ⟨g,off,none⟩) 1 cap] 22)).alloc (.cells #[.int .i64 0] 3)).alloc (.cells #[.int .i64 0,.int .i64 0,.int .u8 0] 109)).cell? ⟨g,off,none⟩=some (.int .u8 z):=
  ((Bn (Bn (Qaa _ _) (Qaa _ _)) (Qaa _ _)).cell (p:=⟨g,off,none⟩) hg).trans hc
 clear hc hen hseq
 refine(callsIn_wide (n:=10)).1 ?_
 refine callsIn_of_wp_marks Tryz.func97 rfl trivial ?_ rfl
 simp only[Tryz.ntmps97,List.size_toArray,List.length_cons,List.length_nil,Nat.reduceAdd,Nat.reduceSub,Array.replicate_succ,Array.replicate_zero,List.push_toArray,List.append_toArray,List.nil_append,List.cons_append]
 gi_wp2
 try rw[show(min 1 258:Int)=1 from by decide]
 clear cq3
 obtain⟨W6,hW6⟩:∃W6,W6=(((((w.alloc (.cells #[.slice (some ⟨g,off,none⟩) 1 cap] 22)).alloc (.cells #[.int .i64 0] 3)).alloc (.cells #[.int .i64 0,.int .i64 0,.int .u8 0] 109)).alloc (.cells #[.int .i64 0,.int .i64 1,.int .u8 z] 109)).alloc (.cells #[.int .i64 1] 3)).alloc (.cells #[.int .i64 3] 3):=⟨_,rfl⟩
 rw[<-hW6]
 have hB6:Below w.heap.size w W6:=by rw[hW6];exact Bn (Bn (Bn (Bn (Bn (Qaa _ _) (Qaa _ _)) (Qaa _ _)) (Qaa _ _)) (Qaa _ _)) (Qaa _ _)
 have hz6:W6.heap.size=w.heap.size+1+1+1+1+1+1:=by rw[hW6];simp only[World.size_alloc]
 have hL6:Lw w.heap.size (.slice (some ⟨g,off,none⟩) 1 cap) z W6:=by
  subst hW6
  have e0:=Qaj w (.cells #[.slice (some ⟨g,off,none⟩) 1 cap] 22)
  have e1:=Qaj (w.alloc (.cells #[.slice (some ⟨g,off,none⟩) 1 cap] 22)) (.cells #[.int .i64 0] 3)
  have e2:=Qaj ((w.alloc (.cells #[.slice (some ⟨g,off,none⟩) 1 cap] 22)).alloc (.cells #[.int .i64 0] 3)) (.cells #[.int .i64 0,.int .i64 0,.int .u8 0] 109)
  have e3:=Qaj (((w.alloc (.cells #[.slice (some ⟨g,off,none⟩) 1 cap] 22)).alloc (.cells #[.int .i64 0] 3)).alloc (.cells #[.int .i64 0,.int .i64 0,.int .u8 0] 109)) (.cells #[.int .i64 0,.int .i64 1,.int .u8 z] 109)
  simp only[World.size_alloc] at e1 e2 e3
  exact⟨Qai _ _ (Qai _ _ (Qai _ _ (Qai _ _ (Qai _ _ e0)))),Qai _ _ (Qai _ _ (Qai _ _ (Qai _ _ e1))),Qai _ _ (Qai _ _ (Qai _ _ e2)),Qai _ _ (Qai _ _ e3)⟩
 clear hW6
 refine wpIn_rangeFunc_ownG rfl (by omega) (gf:=gf) (lb:=lb) rfl trivial HEN.out (HS.out W6 hB6) belowK_t (belowK_b (by omega)) (Below.refl _ _) (fun _=>rfl)
  (fun _ W=>Lw w.heap.size (.slice (some ⟨g,off,none⟩) 1 cap) z W∧Below w.heap.size w W)
  (fun _ _ _=>False)
  (OwnFrom.and (fun s A B row hs hg hr=>hs.kept hg (fun r e=>(hr r e).2)) (ownFrom_below (Nat.le_refl _) (by omega)))
  (fun c=>ownFrom_pure _ (fun _=>False))
  ⟨hL6,hB6⟩
  (fun x=> {tmps:= #[.slice (some ⟨g,off,none⟩) 1 cap,.int .i64 0,.func (.func gf) #[] lb,.pointer (some ⟨w.heap.size,0,none⟩),.pointer (some ⟨w.heap.size+1,0,none⟩),undef,.pointer (some ⟨w.heap.size+1+1,0,none⟩),.pointer (some ⟨w.heap.size+1+1+1,0,none⟩),.pointer (some ⟨w.heap.size+1+1+1+1,0,none⟩),.pointer (some ⟨w.heap.size+1+1+1+1+1,0,none⟩),.int .i64 ((x.val:Nat):Int),undef,.slice (some ⟨g,off,none⟩) 1 cap,.int .i64 0,.pointer (some ⟨g,off,none⟩),.int .u8 z,.agg #[.int .i64 0,.int .i64 1,.int .u8 z],.slice (some ⟨g,off,none⟩) 1 cap,.int .i64 1,.int .i64 0,.int .i64 1,.int .i64 1,.func (.func gf) #[] lb,.int .i64 ((x.val:Nat):Int),undef,undef,undef,undef,undef,undef,undef,undef,undef,undef,undef,undef,undef,undef,undef,undef,undef,undef,undef,undef,undef,undef,undef,undef,undef,undef,undef,undef,undef,undef,undef,undef,undef,undef,undef,undef],defers:= []}) ?assign ?body ?done ?stop
 case assign=>
  intro l x W K hK
  exact x.elim0
 case done=>
  rintro D ys W hD rfl ⟨hl,hb⟩ hK
  have f60:=hl.res.f 0
  have f61:=hl.res.f 1
  have f62:=hl.res.f 2
  have k60:=hl.res.c0
  have k61:=hl.res.c1
  have k62:=hl.res.c2
  have k70:=hl.tok.c0
  have k71:=hl.tok.c1
  have k72:=hl.tok.c2
  dsimp only at k70 k71 k72
  have HX:=hid (hl.res.set (0,1,z))
  have HXB:=hid (hl.res.bel hb (by omega) (0,1,z))
  have HXK:Hid ((Qna W (w.heap.size+1+1) (0,1,z)).heap[D]?=some (.deferred (some []))):=hl.res.other (fun e=>by rw[e] at hK;have:=hl.res;unfold Tb at this;rw[hK] at this;cases this) hK
  clear hl hb
  gi_wp2
  refine⟨by simp,.inl ⟨_,_,rfl,run_takeDeferred HXK.out,?_⟩⟩
  refine⟨_,results_cell_row (ty:=109) (cs:=Qnk (0,1,z)) rfl _ _ _ _ _ _ rfl (po1 HX.out HXK.out) Tryz.underlying109 rfl (by kernel_rfl),?_⟩
  exact⟨rfl,HXB.out.trans (belowK_b (w:=w) (Nat.le_refl _) _ D _ _ (by omega) HXK.out rfl rfl)⟩
 case stop=>
  rintro D c pre W hD hp h hK
  exact h.elim
 case body=>
  rintro l pre x W _ _
  exact x.elim0
theorem key1(v:Option Addr)(cap g:Nat)(x1 x2:Value)(w:World)(hblk:w.heap[g]?=some (.cells #[.slice v 1 cap,x1,x2] 187 (0,0))):
 Calls Tryz.prog 127 #[.pointer (some ⟨g,0,none⟩),.int .i64 0] w fun e w'=>e= .returned (.tuple #[.agg #[.int .u8 0,.int .u8 0,.int .u8 0,.int .u8 0],.bool false])∧Below w.heap.size w w':=by
 have c0:=Joins.cell_of_block (Qai _ (.cells #[.int .u8 0,.int .u8 0,.int .u8 0,.int .u8 0] 189) hblk) 0
 simp only[List.getElem?_toArray,List.getElem?_cons_zero] at c0
 clear hblk
 go_enter Tryz.func127,Tryz.ntmps127
 go_wp2
 refine bodyPost_ret (Qd9 (ty:=189) rfl _ _ w.heap.size _ rfl (Qlo (Qaj w _))) rfl ?_
 exact⟨rfl,Qaa _ _⟩
theorem Xlf(v:Option Addr)(cap g sB aB:Nat)(x1 x2:Value)(w W0:World)(hblk:w.heap[g]?=some (.cells #[.slice v 1 cap,x1,x2] 187 (0,0)))
 (hsB:w.cell? ⟨sB,0,none⟩=some (.pointer (some ⟨g,0,none⟩))) (haB:w.cell? ⟨aB,0,none⟩=some (.int .i64 0)) (hs:sB<w.heap.size) (ha:aB<w.heap.size) (hW0:Below w.heap.size w W0) :
 Xkx 126 #[.pointer (some ⟨sB,0,none⟩),.pointer (some ⟨aB,0,none⟩)] w.heap.size W0:=fun l J Jx W hW hJ _ _ h0=>by
 have hbW:Below w.heap.size w W:=Bn hW0 hW
 have HJ:=hid hJ
 have hs0:W.cell? ⟨sB,0,none⟩=some (.pointer (some ⟨g,0,none⟩)):=(hbW.cell (p:=⟨sB,0,none⟩) hs).trans hsB
 have ha0:W.cell? ⟨aB,0,none⟩=some (.int .i64 0):=(hbW.cell (p:=⟨aB,0,none⟩) ha).trans haB
 have HK:=hid (key1 v cap g x1 x2 W ((hbW.block _ (Array.getElem?_eq_some_iff.1 hblk).1).trans hblk))
 clear hsB haB hW hW0 hJ hblk
 refine callsIn_of_wp Tryz.func126 rfl trivial ?_ rfl
 simp only[Tryz.ntmps126,List.size_toArray,List.length_cons,List.length_nil,Nat.reduceAdd,Nat.reduceSub,Array.replicate_succ,Array.replicate_zero,List.push_toArray,List.append_toArray,List.nil_append,List.cons_append]
 gi_wp2_with fail
 refine⟨trivial,?_⟩
 refine(callsIn_wide.2 HK.out).mono ?_
 rintro _ w1 ⟨rfl,hb1⟩
 have hbA:=Qaa w1 (.cells #[.int .u8 0,.int .u8 0,.int .u8 0,.int .u8 0] 189)
 have hbb:=Bn hb1 hbA
 have HJ2:=hid (HJ.out [] W _ none h0 ⟨hbb.os,hbb.tape,hbb.output,hbb.size,fun k hk _=>hbb.block k hk⟩ (fun r e=>by cases e))
 clear HK hs0 ha0 hb1 hbA hbb
 gi_wp2
 refine bodyPost_ret (results_none rfl _ _ _) rfl ?_
 exact⟨⟨_,rfl⟩,.inl ⟨[],rfl,HJ2.out⟩⟩
theorem new1(v0:Option Addr)(cap:Nat)(w:World):
 Calls Tryz.prog 96 #[.slice v0 1 cap] w fun e w'=>∃g x1 x2,e= .returned (.pointer (some ⟨g,0,none⟩))∧w'.heap[g]?=some (.cells #[.slice v0 1 cap,x1,x2] 187 (0,0))∧Below w.heap.size w w':=by
 obtain⟨i0,hi,hz0,hz1,hz2⟩:=info_parts Tryz.info3Z
 have hmm:=@run_makeMap Tryz.prog
 go_enter Tryz.func96,Tryz.ntmps96
 go_wp2_with (first
  | (at_make;refine wpList_make_full _ rfl _ _ 112 rfl w.heap.size 3 i0 (.int .i64 0) 1 Tryz.underlying112 hi hz0 hz1 .i64 .i64 _ _ 1 rfl rfl (by first | rfl | omega) (by first | rfl | omega) ?b2 ?b3 ?b4 ?_))
 case b2=>rw[hz2];omega
 case b3=>unfold maxLen;omega
 case b4=>simp
 intro w5 hown0 hgrow
 have hB1:Below w.heap.size w w5:=(Qaa w _).grown hgrow (by simp) (fun k hk=>by cases hk)
 have HF:=hid (Qaj w5 (.cells #[.slice v0 1 cap,.map (some w.heap.size),.slice (some ⟨w.heap.size+1,0,none⟩) 1 1] 187))
 have HB:=hid (Bn hB1 (Qaa w5 (.cells #[.slice v0 1 cap,.map (some w.heap.size),.slice (some ⟨w.heap.size+1,0,none⟩) 1 1] 187)))
 clear hown0 hgrow hB1
 go_wp2
 go_ret
 exact⟨_,_,_,rfl,HF.out,HB.out⟩
theorem add1(v:Option Addr)(cap g:Nat)(x1 x2:Value)(w:World)(hblk:w.heap[g]?=some (.cells #[.slice v 1 cap,x1,x2] 187 (0,0))):
 Calls Tryz.prog 99 #[.pointer (some ⟨g,0,none⟩),.int .i64 0] w fun e w'=>(∃v,e= .returned v)∧Below w.heap.size w w':=by
 have HK:=hid (key1 v cap g x1 x2 w hblk)
 clear hblk
 go_enter Tryz.func99,Tryz.ntmps99
 go_wp2_with fail
 refine HK.out.mono ?_
 rintro _ w1 ⟨rfl,hb1⟩
 have HB1:=hid (Bn hb1 (Qaa w1 (.cells #[.int .u8 0,.int .u8 0,.int .u8 0,.int .u8 0] 189)))
 clear hb1 HK
 go_wp2
 go_end0
 exact⟨⟨_,rfl⟩,HB1.out⟩
theorem Xlw(z:Int):Qm4 [z]=([(0,1,z)],0):=by
 first | rfl | decide | (unfold Qm4;rw[if_neg (by simp)];rfl) | (unfold Qm4;rw[if_neg (by simp),Qej];rfl)
theorem Xjc(a:Option Addr)(cap:Nat)(z:Int)(w:World)(hr:Ri w .u8 a cap [z]):
 Calls Tryz.prog 65 #[.slice a 1 cap] w (Qga [z] w):=by
 unfold Qga
 rw[Xlw]
 obtain⟨i0,hi,hi0,hi1,hi2⟩:=info_parts Tryz.info109
 obtain⟨gb,off,rfl,hgw,hcc⟩:=hr.cells (by simp)
 have hc0:=hcc 0 (by simp)
 simp only[List.getD_cons_zero,Nat.add_zero] at hc0
 have HNEW:=hid (new1 (some ⟨gb,off,none⟩) cap w)
 clear hr hcc
 go_enter Tryz.func65,Tryz.ntmps65
 go_wp2_with fail
 refine HNEW.out.mono ?_
 rintro _ w0 ⟨g,x1,x2,rfl,hblk,hb0⟩
 have HB0:=hid hb0
 have HK0:=hid hblk
 clear HNEW hblk hb0
 go_wp2_with fail
 go_loopw [4,6] (fun x4 x6 wr=>Hid (Below w.heap.size w wr)∧((x6= .int .i64 0∧x4= .slice none 0 0∧Hid (wr=w0))∨(x6= .int .i64 1∧Hid (wr.ownsRow w.heap.size 109 3 x4 1 [.int .i64 0,.int .i64 1,.int .u8 z])))) (fun _ x6 _=>1-(intOf x6).toNat)
 case atStart=>exact⟨HB0,.inl ⟨rfl,rfl,rfl⟩⟩
 case round=>
  obtain⟨HB,⟨rfl,rfl,HW⟩ | ⟨rfl,HO⟩⟩:=hrel
  ·obtain rfl:=HW.out
   clear HB
   have hb:=Bn (Qaa wr (.cells #[.pointer (some ⟨g,0,none⟩)] 144)) (Qaa (wr.alloc (.cells #[.pointer (some ⟨g,0,none⟩)] 144)) (.cells #[.int .i64 0] 3))
   have e0:=Qai (wr.alloc (.cells #[.pointer (some ⟨g,0,none⟩)] 144)) (.cells #[.int .i64 0] 3) (Qaj wr (.cells #[.pointer (some ⟨g,0,none⟩)] 144))
   have e1:=Qaj (wr.alloc (.cells #[.pointer (some ⟨g,0,none⟩)] 144)) (.cells #[.int .i64 0] 3)
   rw[World.size_alloc] at e1
   have hsz:((wr.alloc (.cells #[.pointer (some ⟨g,0,none⟩)] 144)).alloc (.cells #[.int .i64 0] 3)).heap.size=wr.heap.size+1+1:=by simp only[World.size_alloc]
   have hlg:=Xfl z gb off cap ((wr.alloc (.cells #[.pointer (some ⟨g,0,none⟩)] 144)).alloc (.cells #[.int .i64 0] 3)) (by have:=HB0.out.size;omega) (((Bn HB0.out hb).cell (p:=⟨gb,off,none⟩) hgw).trans hc0)
    126 #[.pointer (some ⟨wr.heap.size,0,none⟩),.pointer (some ⟨wr.heap.size+1,0,none⟩)] (enters_of Tryz.func126 (by kernel_rfl) rfl)
    (fun W hW=>Xlf (some ⟨gb,off,none⟩) cap g wr.heap.size (wr.heap.size+1) x1 x2 _ W ((hb.block _ (Array.getElem?_eq_some_iff.1 HK0.out).1).trans HK0.out) (Joins.cell_of_block e0 0) (Joins.cell_of_block e1 0) (by omega) (by omega) hW)
   have HLG:=hid hlg
   have HB2:=hid hb
   clear hlg hb e0 e1 hsz
   go_wp2_with fail
   refine(Qnj g 0 wr).mono ?_
   rintro _ wz ⟨rfl,rfl⟩
   go_wp2_with fail
   refine HLG.out.mono ?_
   rintro _ w1 ⟨rfl,hb1⟩
   simp only[Qnk]
   have hbw1:=Bn HB2.out hb1
   have HNW:Hid (∀j u,(Qj5 (0,1,z))[j]?=some u->((w1.alloc (.cells #[.int .i64 0,.int .i64 1,.int .u8 z] 109)).alloc (.cells #[.int .i64 0,.int .i64 1,.int .u8 z] 109)).cell? (Addr.add ⟨w1.heap.size+1,0,none⟩ j)=some u):=fun j u h=>by
    have:=Qsu (w1.alloc (.cells #[.int .i64 0,.int .i64 1,.int .u8 z] 109)) (0,1,z) j u h
    simp only[World.size_alloc] at this
    exact this
   have eT:(w1.alloc (.cells #[.int .i64 0,.int .i64 1,.int .u8 z] 109)).heap[w1.heap.size]?=some (.cells #[.int .i64 0,.int .i64 1,.int .u8 z] 109 (0,0)):=Qaj _ _
   have hw1:w.heap.size<=w1.heap.size:=by have:=HB0.out.size;have:=hbw1.size;omega
   have ho0:(w1.alloc (.cells #[.int .i64 0,.int .i64 1,.int .u8 z] 109)).ownsRow w.heap.size 109 3 (.slice none 0 0) 0 []:=Qk4 _ _
   go_wp2_with (at_builtin;refine wpList_append_own _ rfl _ _ 81 rfl w.heap.size 109 i0 (.agg #[.int .i64 0,.int .i64 0,.int .u8 0]) 3 24 Tryz.underlying81 hi hi0 hi1 hi2 rfl (by decide) _ _ _ rfl (ho0.alloc _) ⟨w1.heap.size+1,0,none⟩ 1 1 (Qj5 (0,1,z)) rfl rfl HNW.out (Qod _) (by unfold maxLen;omega) (by omega) (by simp;omega) ?_)
   intro v' w3 hown3 hgrow3 _
   have e3:Tb w3 w1.heap.size (0,1,z):=(hgrow3.block w1.heap.size (by simp;omega) (fun e=>by cases e)).trans (Qai _ _ eT)
   have c1:=e3.c1
   dsimp only at c1
   have hbT:=Bn (Bn hbw1 (Qaa w1 (.cells #[.int .i64 0,.int .i64 1,.int .u8 z] 109))) (Qaa (w1.alloc (.cells #[.int .i64 0,.int .i64 1,.int .u8 z] 109)) (.cells #[.int .i64 0,.int .i64 1,.int .u8 z] 109))
   have HB3:Hid (Below w.heap.size w w3):=(Bn HB0.out hbT).grown hgrow3 (by simp;omega) (fun g hg=>by cases hg)
   have HO3:Hid (w3.ownsRow w.heap.size 109 3 v' 1 [.int .i64 0,.int .i64 1,.int .u8 z]):=hown3
   have HK3:Hid (w3.heap[g]?=some (.cells #[.slice (some ⟨gb,off,none⟩) 1 cap,x1,x2] 187 (0,0))):=by
    have hgl:=(Array.getElem?_eq_some_iff.1 HK0.out).1
    exact(hgrow3.block g (by have:=hbT.size;omega) (fun e=>by cases e)).trans ((hbT.block g hgl).trans HK0.out)
   clear hown3 hgrow3 e3 eT HNW ho0 hbT hbw1 hb1 HLG HB2 HK0 hw1
   go_wp2_with fail
   clear c1
   go_loopw [6,29] (fun y6 y29 wi=>Hid (Below w.heap.size w wi)∧Hid (wi.ownsRow w.heap.size 109 3 v' 1 [.int .i64 0,.int .i64 1,.int .u8 z])∧((y6= .int .i64 0∧y29= .int .i64 0∧Hid (wi=w3))∨(y6= .int .i64 1∧y29= .int .i64 1))) (fun _ y29 _=>1-(intOf y29).toNat)
   case atStart=>exact⟨HB3,HO3,.inl ⟨rfl,rfl,rfl⟩⟩
   case round=>
    obtain⟨HBi,HOi,⟨rfl,rfl,HWi⟩ | ⟨rfl,rfl⟩⟩:=hrel
    ·obtain rfl:=HWi.out
     have HA:=hid (add1 (some ⟨gb,off,none⟩) cap g x1 x2 wr HK3.out)
     clear HBi HOi HWi
     go_wp2_with fail
     refine HA.out.mono ?_
     rintro _ w5 ⟨⟨v,rfl⟩,hb5⟩
     have HO5:=hid (Qbx HO3.out hb5)
     have HB5:=hid (Bn HB3.out hb5)
     clear hb5 HA
     go_wp2_with fail
     exact⟨⟨HB5,HO5,.inr ⟨rfl,rfl⟩⟩,by decide⟩
    ·clear HB3 HO3 HK3
     go_wp2_with fail
     exact⟨⟨HBi,.inr ⟨rfl,HOi⟩⟩,by decide⟩
  ·go_wp2_with fail
   go_ret2
   exact⟨_,rfl,HO.out,HB.out⟩
end
end Go.Proofs.YtibjlbcnapoblaaGreatDoor
