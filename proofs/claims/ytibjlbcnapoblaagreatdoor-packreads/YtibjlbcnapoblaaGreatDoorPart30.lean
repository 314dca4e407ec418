/-
 The head with which bytes begin: open.
-/
import Derived.Test.YtibjlbcnapoblaaGreatDoorPart27
import Derived.Test.YtibjlbcnapoblaaGreatDoorPart29
import Derived.Test.YtibjlbcnapoblaaGreatDoorPart24
import Derived.Test.YtibjlbcnapoblaaGreatDoorPart22
import Derived.Test.YtibjlbcnapoblaaGreatDoorTie
import Derived.Test.YtibjlbcnapoblaaGreatDoorCards
import Derived.LaidMore
import Derived.Lib.LaidTab
import Derived.Stop.Joined
namespace Go.Proofs.YtibjlbcnapoblaaGreatDoor
set_option maxRecDepth 100000
set_option maxHeartbeats 6400000
section
open Go.RowKit
theorem Qjg(n:Nat)(l:List Int)(hl:l.length=n)(h:∀c∈l,0<=c∧c<=255):∃x:Nat,numL l=(x:Int)∧x<256^n:=by
 have:=Quj l h
 obtain⟨x,hx⟩:=Int.eq_ofNat_of_zero_le this.1
 refine⟨x,hx,?_⟩
 have h2:=this.2
 rw[hx,hl] at h2
 exact_mod_cast h2
theorem by16{zs:List Int}(h:∀j,(Lit.int .u8 (zs.getD j 0)).wf=true)(p n:Nat):∀c∈(zs.drop p).take n,0<=c∧c<=255:=fun c hc=>by
 have h1:=List.mem_of_mem_drop (List.mem_of_mem_take hc)
 obtain⟨j,hj,rfl⟩:=List.getElem_of_mem h1
 have:=wf_u8 (h j)
 rw[show zs.getD j 0=zs[j] from by simp[List.getD,List.getElem?_eq_getElem hj]] at this
 exact this
theorem Rr.dig{w0 w:World}{g:Nat}{t:TypeId}{n k s:Int}{d:List Int}{ah:Value}{a:Option Addr}{cap:Nat}{zs:List Int}(h:Rr w0 w g t (opT n k d ah s) a cap zs)(e:List Int)(_he:e.length=32):Rr w0 (w.setRow g (Value.slice a zs.length cap::opT n k e ah s).toArray) g t (opT n k e ah s) a cap zs:=
 ⟨setRow_heap _ _ _ _ _ _ h.blk,h.row,below_setRow h.bel h.ge _,h.ge⟩
theorem Xi1{w0 w:World}{g:Nat}{n k s:Int}{d:List Int}{ah:Value}{a:Option Addr}{cap:Nat}{zs:List Int}(ad:Addr)(c:Nat)(h:Rr w0 w g 65 (opT n k d ah s) a cap zs)(hd:d.length=32)(e:List Int)(he:e.length=32)(hc:∀j,j<32->w.cell? (ad.add j)=some (.int .u8 (e.getD j 0))):
 (Builtin.copy_ #[22,22] 3 #[.slice (some ⟨g,3,none⟩) 32 32,.slice (some ad) 32 c]).run Tryz.prog w= .ok (.int .i64 32) (w.setRow g (Value.slice a zs.length cap::opT n k e ah s).toArray):=by
 have h1:=run_copy_row (P:=Tryz.prog) w 22 22 3 5 g 3 32 32 ad 32 c _ 65 (e.map (Value.int .u8)) Tryz.underlying22 (by kernel_rfl) h.blk (by rw[List.length_map,he];rfl) (fun j v hv=>by
  have hj:j<e.length:=by have:=(List.getElem?_eq_some_iff.1 hv).1;simpa using this
  rw[hc j (by omega),<-hv]
  simp[List.getD,List.getElem?_eq_getElem hj]) (by rw[List.length_map,he,Qox _ _ _ _ _ _ hd];decide) (fun v hv=>by obtain⟨z,_,rfl⟩:=List.mem_map.1 hv;rfl)
 rw[h1,List.length_map,he]
 congr 3
 unfold opT hdL
 simp[hd]
theorem Qz0(b off cap:Nat)(zs:List Int)(w:World)(hr:Ri w .u8 (some ⟨b,off,none⟩) cap zs)(h:44<=zs.length):Calls Tryz.prog 32 #[.slice (some ⟨b,off,none⟩) zs.length cap] w (Qf8 (some ⟨b,off,none⟩) cap zs w):=by
 have b0:=Qbr w (.cells opZ 65)
 have e0:=Qbd w (.cells opZ 65)
 have b1:=Qbr (w.alloc (.cells opZ 65)) (.cells opZ 65)
 have e1:=Qbd (w.alloc (.cells opZ 65)) (.cells opZ 65)
 have s0:(w.alloc (.cells opZ 65)).heap.size=w.heap.size+1:=by simp
 rw[s0] at e1
 have HE0:Hid (((w.alloc (.cells opZ 65)).alloc (.cells opZ 65)).heap[w.heap.size]?=some (.cells opZ 65)):=by
  show _=_
  rw[b1.block _ (by rw[s0];omega)];exact e0
 have hroom:=hr.room
 have hmost:=hr.most
 unfold maxLen at hmost
 have HZ:Hid (∀j,(Lit.int .u8 (zs.getD j 0)).wf=true):=hr.fits
 have hq:¬(zs.length:Int)<44:=by omega
 have hq2:40<=cap:=by omega
 have hb0:Tryz.prog.built 65 []=some opZ:=by kernel_rfl
 have hb1:∀(L:Nat),Tryz.prog.built 65 [(0,.agg #[.slice (some ⟨b,off,none⟩) L cap]),(2,.slice (some ⟨b,off,none⟩) 40 cap)]=some (Value.slice (some ⟨b,off,none⟩) L cap::opT 0 0 z32 (.slice (some ⟨b,off,none⟩) 40 cap) 0).toArray:=fun L=>by kernel_rfl
 have hsz:opZ.size=37:=rfl
 have HR:=hid hr
 have HB1:=hid (Bn b0 b1)
 have HLEN:=hid h
 obtain⟨L,hL⟩:∃L,L=zs.length:=⟨_,rfl⟩
 have HL:=hid hL
 rw[<-hL] at hroom hq h|-
 obtain⟨X,hX⟩:∃X,X=(Value.slice (some ⟨b,off,none⟩) L cap::opT 0 0 z32 (.slice (some ⟨b,off,none⟩) 40 cap) 0).toArray:=⟨_,rfl⟩
 have hXs:X.size=37:=by rw[hX];rfl
 have hX1:X.all (·.oneCell')=true:=by rw[hX];exact Qk2 _ _ _ _ _ _ _ _ _ _
 have hbX:∀W,(Instr.build 65 #[(0,.agg #[.slice (some ⟨b,off,none⟩) L cap]),(2,.slice (some ⟨b,off,none⟩) 40 cap)]).run Tryz.prog W= .ok (.agg X) W:=fun W=>run_build W 65 _ X (by rw[hX];exact hb1 L)
 have HX:=hid hX
 have HBX:=hid hbX
 have HXS:=hid hXs
 have HX1:=hid hX1
 clear hX hb1 hL hr b0 b1 e0 hb0 hbX hX1 hXs hsz hmost
 go_enter Tryz.func32,Tryz.ntmps32
 go_wp2_with (first
  | (refine Qac rfl 65 rfl (some 2) rfl opZ Tryz.zero65 w.heap.size rfl ?_)
  | (refine Qac rfl 65 rfl (some 4) rfl opZ Tryz.zero65 (w.heap.size+1) s0.symm ?_)
  | (refine Qoe rfl 65 0 2 (.tmp 11) (.tmp 13) rfl (.agg #[.slice (some ⟨b,off,none⟩) L cap]) (.slice (some ⟨b,off,none⟩) 40 cap) (.agg X) rfl rfl (HBX.out _) ?_)
  | (refine wpList_store_rowTo rfl 65 _ _ rfl rfl (w.heap.size+1) X rfl rfl 65 _ e1 (by rw[HXS.out];exact Tryz.size65) (by rw[HXS.out];rfl) HX1.out ?_))
 have hR0:Rr w (((w.alloc (.cells opZ 65)).alloc (.cells opZ 65)).setRow (w.heap.size+1) X) (w.heap.size+1) 65 (opT 0 0 z32 (.slice (some ⟨b,off,none⟩) 40 cap) 0) (some ⟨b,off,none⟩) cap zs:=
  ⟨by rw[setRow_heap _ _ _ _ _ _ e1,HX.out,HL.out],HR.out,below_setRow HB1.out (Nat.le_succ _) _,Nat.le_succ _⟩
 have HZ0:Hid ((((w.alloc (.cells opZ 65)).alloc (.cells opZ 65)).setRow (w.heap.size+1) X).heap[w.heap.size]?=some (.cells opZ 65)):=by
  show _=_
  rw[setRow_other _ _ _ _ (by omega)];exact HE0.out
 have HR0:=hid hR0
 clear hR0 e1 HBX HX1 HXS HX HE0 HB1 s0
 generalize ((w.alloc (.cells opZ 65)).alloc (.cells opZ 65)).setRow (w.heap.size+1) X=W0 at *
 have HG:Hid (w.heap.size<w.heap.size+1):=Nat.lt_succ_self _
 generalize w.heap.size+1=g at *
 refine(Qfk w W0 g 65 _ b off cap 4 zs HR0.out (by have:=HLEN.out;omega)).mono ?_
 rintro _ W1 ⟨rfl,o1,c1,rfl,hr1⟩
 have HR1:=hid (HR0.out.put hr1)
 have HZ1:Hid ((W0.setCell ⟨g,0,none⟩ (.slice (some ⟨b,o1,none⟩) (zs.drop 4).length c1)).heap[w.heap.size]?=some (.cells opZ 65)):=(((Fg.refl g W0).put (i:=0) (.slice (some ⟨b,o1,none⟩) (zs.drop 4).length c1)).same _ (by have:=HG.out;omega)).trans HZ0.out
 have ht4:=(HR.out.take 4).text _ HR1.out.bel
 rw[show(zs.take 4).length=4 from by have:=HLEN.out;simp;omega] at ht4
 clear hr1 HR0 HZ0
 generalize W0.setCell ⟨g,0,none⟩ (.slice (some ⟨b,o1,none⟩) (zs.drop 4).length c1)=W1 at *
 generalize hst:strOfNums (zs.take 4)=st at *
 have HST:=hid hst
 clear hst
 go_wp2_with fail
 refine(Qgi 16 2 w W1 g 65 _ b o1 c1 (zs.drop 4) (.inl ⟨rfl,rfl⟩) HR1.out (by rw[List.length_drop];have:=HLEN.out;omega)).mono ?_
 rintro _ W2 ⟨rfl,hF2,o2,c2,hR2⟩
 obtain⟨n,hn,hn1⟩:=Qjg 2 ((zs.drop 4).take 2) (by simp;have:=HLEN.out;omega) (by16 HZ.out 4 2)
 have HN:=hid hn
 rw[hn]
 rw[List.drop_drop] at hR2
 have q1:=hR2.cellT 0
 have u1:=Joins.unfrozen_of_block hR2.blk 1
 rw[show(opT 0 0 z32 (Value.slice (some ⟨b,off,none⟩) 40 cap) 0)[0]?=some (.int .i64 0) from rfl] at q1
 have HR3:=hid (hR2.set 0 (.int .i64 (n:Int)))
 rw[show(opT 0 0 z32 (Value.slice (some ⟨b,off,none⟩) 40 cap) 0).set 0 (.int .i64 (n:Int))=opT n 0 z32 (Value.slice (some ⟨b,off,none⟩) 40 cap) 0 from rfl] at HR3
 have HZ3:Hid ((W2.setCell ⟨g,1,none⟩ (.int .i64 (n:Int))).heap[w.heap.size]?=some (.cells opZ 65)):=((hF2.put (i:=1) (.int .i64 (n:Int))).same _ (by have:=HG.out;omega)).trans HZ1.out
 clear hR2 hF2 HR1 HZ1 ht4 hn
 go_wp2_with fail
 generalize W2.setCell ⟨g,1,none⟩ (.int .i64 (n:Int))=W3 at *
 clear q1 u1
 refine(Qgi 16 2 w W3 g 65 _ b o2 c2 (zs.drop (4+2)) (.inl ⟨rfl,rfl⟩) HR3.out (by rw[List.length_drop];have:=HLEN.out;omega)).mono ?_
 rintro _ W4 ⟨rfl,hF4,o4,c4,hR4⟩
 obtain⟨k,hk,hk1⟩:=Qjg 2 ((zs.drop (4+2)).take 2) (by simp;have:=HLEN.out;omega) (by16 HZ.out (4+2) 2)
 have HK:=hid hk
 rw[hk]
 rw[List.drop_drop] at hR4
 change Rr w W4 g 65 _ _ c4 (zs.drop (6+2)) at hR4
 have q1:=hR4.cellT 1
 have u1:=Joins.unfrozen_of_block hR4.blk 2
 rw[show(opT n 0 z32 (Value.slice (some ⟨b,off,none⟩) 40 cap) 0)[1]?=some (.int .i64 0) from rfl] at q1
 have HR5:=hid (hR4.set 1 (.int .i64 (k:Int)))
 rw[show(opT n 0 z32 (Value.slice (some ⟨b,off,none⟩) 40 cap) 0).set 1 (.int .i64 (k:Int))=opT n k z32 (Value.slice (some ⟨b,off,none⟩) 40 cap) 0 from rfl] at HR5
 have HZ5:Hid ((W4.setCell ⟨g,2,none⟩ (.int .i64 (k:Int))).heap[w.heap.size]?=some (.cells opZ 65)):=((hF4.put (i:=2) (.int .i64 (k:Int))).same _ (by have:=HG.out;omega)).trans HZ3.out
 clear hR4 hF4 HR3 HZ3 hk
 go_wp2_with fail
 generalize W4.setCell ⟨g,2,none⟩ (.int .i64 (k:Int))=W5 at *
 clear q1 u1
 refine wp_region_held_drew (S:=fun _=>True) (by kernel_rfl) trivial (fun hS0=>?_)
 have HR6:=hid (HR5.out.drewN 1)
 have HZ6:Hid (W5.drew.heap[w.heap.size]?=some (.cells opZ 65)):=HZ5.out
 change Hid (Rr w W5.drew _ _ _ _ _ _) at HR6
 clear HR5 HZ5
 generalize W5.drew=v0 at *
 simp only[List.size_toArray,List.length_cons,List.length_nil,Nat.reduceAdd]
 refine Ord.tk (i:=0) (d:=26) (v:=?vA0) rfl rfl ?hA0 (by assumption) ?_
 case hA0=>intro w hSw;go_simp;try with_reducible rfl
 simp only[Ord.s1,Ord.s2,Ord.s3]
 refine Ord.tk (i:=1) (d:=27) (v:=?vA1) rfl rfl ?hA1 (by assumption) ?_
 case hA1=>intro w hSw;go_simp;try with_reducible rfl
 simp only[Ord.s1,Ord.s2,Ord.s3]
 refine Ord.tk (i:=2) (d:=28) (v:= .slice (some ⟨g,3,none⟩) 32 32) rfl rfl ?hA2 (by assumption) ?_
 case hA2=>intro w hSw;go_simp;try with_reducible rfl
 simp only[Ord.s1,Ord.s2,Ord.s3]
 refine Ord.tk (i:=3) (d:=29) (v:=?vA3) rfl rfl ?hA3 (by assumption) ?_
 case hA3=>intro w hSw;go_simp;try with_reducible rfl
 simp only[Ord.s1,Ord.s2,Ord.s3]
 refine wpAnyH_ready (rs:= [4]) (by as_aux_lemma=>kernel_rfl) (by simp) (AllReadyH.cons rfl (fun K hK=>?_) AllReadyH.nil)
 go_simp
 refine(Qfk w v0 g 65 _ b o4 c4 32 (zs.drop (6+2)) HR6.out (by rw[List.length_drop];have:=HLEN.out;omega)).mono ?_
 rintro _ v1 ⟨rfl,o7,c7,rfl,hr7⟩
 have hR7:=HR6.out.put hr7
 have HZ7:Hid ((v0.setCell ⟨g,0,none⟩ (.slice (some ⟨b,o7,none⟩) ((zs.drop (6+2)).drop 32).length c7)).heap[w.heap.size]?=some (.cells opZ 65)):=(((Fg.refl g v0).put (i:=0) (.slice (some ⟨b,o7,none⟩) ((zs.drop (6+2)).drop 32).length c7)).same _ (by have:=HG.out;omega)).trans HZ6.out
 generalize v0.setCell ⟨g,0,none⟩ (.slice (some ⟨b,o7,none⟩) ((zs.drop (6+2)).drop 32).length c7)=v1 at *
 obtain⟨dd,hdd⟩:∃dd,dd=(zs.drop (6+2)).take 32:=⟨_,rfl⟩
 have hdl:dd.length=32:=by rw[hdd];simp;have:=HLEN.out;omega
 have hcp:=Xi1 ⟨b,o4,none⟩ c4 hR7 (by rfl) dd hdl (fun j hj=>by
  have h9:=HR6.out.row.later hR7.bel
  obtain⟨b',off',hb',_,hc'⟩:=h9.cells (by rw[List.length_drop];have:=HLEN.out;omega)
  injection hb' with hb'
  injection hb' with h1 h2
  subst h1 h2
  rw[Go.WideShapes.add_plain,hc' j (by rw[List.length_drop];have:=HLEN.out;omega),hdd,getD_take _ 32 j hj])
 have HR8:=hid (hR7.dig dd hdl)
 have HZ8:Hid ((v1.setRow g (Value.slice (some ⟨b,o7,none⟩) ((zs.drop (6+2)).drop 32).length c7::opT n k dd (.slice (some ⟨b,off,none⟩) 40 cap) 0).toArray).heap[w.heap.size]?=some (.cells opZ 65)):=(setRow_other _ _ _ _ (by have:=HG.out;omega)).trans HZ7.out
 have HDD:=hid hdd
 have HDL:=hid hdl
 generalize (Value.slice (some ⟨b,o7,none⟩) ((zs.drop (6+2)).drop 32).length c7::opT n k dd (.slice (some ⟨b,off,none⟩) 40 cap) 0).toArray=Y at *
 refine hK.out _ _ trivial (fun _=>?_)
 clear hK K hr7 hR7 hdd hdl HR6 HZ6 HZ7
 try simp only[Ord.s1,Ord.s2,Ord.s3]
 refine wpAnyH_ready (rs:= [5]) (by as_aux_lemma=>kernel_rfl) (by simp) (AllReadyH.cons rfl (fun K hK=>?_) AllReadyH.nil)
 go_simp
 refine hK.out _ _ trivial (fun _=>?_)
 clear hK K hcp
 try simp only[Ord.s1,Ord.s2,Ord.s3]
 refine wpAnyH_done (by as_aux_lemma=>kernel_rfl) ?_ _
 generalize v1.setRow g Y=W8 at *
 go_wp2_with fail
 refine(Qgi 32 4 w W8 g 65 _ b o7 c7 ((zs.drop (6+2)).drop 32) (.inr ⟨rfl,rfl⟩) HR8.out (by rw[List.length_drop,List.length_drop];have:=HLEN.out;omega)).mono ?_
 rintro _ W9 ⟨rfl,hF9,o9,c9,hR9⟩
 rw[List.drop_drop,List.drop_drop] at hR9
 rw[List.drop_drop]
 obtain⟨s,hs,hs1⟩:=Qjg 4 ((zs.drop (6+2+32)).take 4) (by simp;have:=HLEN.out;omega) (by16 HZ.out (6+2+32) 4)
 have HS:=hid hs
 rw[hs]
 have q1:=hR9.cellT 35
 have u1:=Joins.unfrozen_of_block hR9.blk 36
 have hod:(opT n k dd (Value.slice (some ⟨b,off,none⟩) 40 cap) 0)=hdL n k dd++ [(Value.slice (some ⟨b,off,none⟩) 40 cap),.int .u32 0]:=rfl
 have hhl:(hdL n k dd).length=34:=by simp[hdL,HDL.out]
 rw[hod,List.getElem?_append_right (by omega),hhl,show([(Value.slice (some ⟨b,off,none⟩) 40 cap),.int .u32 0]:List Value)[35-34]?=some (.int .u32 0) from rfl] at q1
 have HR10:=hid (hR9.set 35 (.int .u32 (s:Int)))
 rw[hod,List.set_append_right _ _ (by omega),hhl,show([(Value.slice (some ⟨b,off,none⟩) 40 cap),.int .u32 0]:List Value).set (35-34) (.int .u32 (s:Int))= [(Value.slice (some ⟨b,off,none⟩) 40 cap),.int .u32 (s:Int)] from rfl] at HR10
 change Hid (Rr _ _ _ _ (opT n k dd (Value.slice (some ⟨b,off,none⟩) 40 cap) s) _ _ _) at HR10
 have HZ10:Hid ((W9.setCell ⟨g,36,none⟩ (.int .u32 (s:Int))).heap[w.heap.size]?=some (.cells opZ 65)):=((hF9.put (i:=36) (.int .u32 (s:Int))).same _ (by have:=HG.out;omega)).trans HZ8.out
 have hs2:(s:Int)<4294967296:=by omega
 have hs0:0<=(s:Int):=by omega
 have hwr:(s:Int)%4294967296=(s:Int):=by omega
 clear hR9 hF9 HR8 HZ8 hod hhl hs hs1
 generalize hsx:(s:Int)=sx at *
 have HSX:=hid hsx
 clear hs2 hs0 hsx
 have HB0:Hid (Tryz.prog.built 65 []=some opZ):=by show _=_;kernel_rfl
 have HSZ:Hid (opZ.size=37):=rfl
 by_cases hmk:zs.take 4= [83,67,72,75]
 ·have hst2:st=⟨#[83,67,72,75]⟩:=by rw[<-HST.out,hmk];decide +kernel
  subst hst2
  have HLD:Hid ((Instr.loadAt 53 (.pointer (some ⟨g,1,none⟩))).run Tryz.prog (W9.setCell ⟨g,36,none⟩ (.int .u32 sx))= .ok (.agg (hdL n k dd).toArray) (W9.setCell ⟨g,36,none⟩ (.int .u32 sx))):=HR10.out.headLoad HDL.out
  have HMK:=hid hmk
  clear hmk
  go_wp2_with (refine Qbn rfl 53 (.tmp 39) rfl _ _ rfl HLD.out ?_)
  refine(Xfy n k dd _ (by omega) (by omega)).mono ?_
  rintro _ W11 ⟨rfl,hb11⟩
  have hk1:(W9.setCell ⟨g,36,none⟩ (.int .u32 sx)).heap.size<=W11.heap.size:=hb11.size
  have hgl:g<(W9.setCell ⟨g,36,none⟩ (.int .u32 sx)).heap.size:=HR10.out.lt
  have HZ11:Hid (W11.heap[w.heap.size]?=some (.cells opZ 65)):=(hb11.block _ (by have:=HG.out;omega)).trans HZ10.out
  have HR11:Hid (Rr w W11 g 65 (opT n k dd (Value.slice (some ⟨b,off,none⟩) 40 cap) sx) (some ⟨b,o9,none⟩) c9 (zs.drop (6+2+(32+4)))):=
   ⟨(hb11.block _ hgl).trans HR10.out.blk,HR10.out.row,Bn HR10.out.bel hb11,HR10.out.ge⟩
  clear hb11 HZ10 HR10 HLD q1 u1 hk1 hgl
  cases hmy:mayB n k with
  | false=>
    go_wp2_with (first
     | (refine wpList_buildTo rfl 65 #[] rfl (some 44) rfl opZ HB0.out ?_)
     | (refine wpList_store_rowTo rfl 65 _ _ rfl rfl w.heap.size opZ rfl rfl 65 _ HZ11.out (by rw[HSZ.out];exact Tryz.size65) rfl (Qk2 none 0 0 0 0 z32 none 0 0 0) ?_))
    refine bodyPost_ret (Qaz rfl _ _ w.heap.size (.agg opZ) rfl (run_loadVar_row _ w.heap.size 65 65 opZ (0,0) _ (setRow_heap _ _ _ _ _ _ HZ11.out) Tryz.underlying65 rfl (by rw[HSZ.out];exact Tryz.size65))) rfl ?_
    unfold Qf8
    rw[show opnO zs=none from by unfold opnO;rw[if_neg (fun h=>by
     have h2:=h.2.2
     rw[HN.out,show zs.drop 6=zs.drop (4+2) from rfl,HK.out,Int.toNat_natCast,Int.toNat_natCast,hmy] at h2
     cases h2)]]
    exact⟨below_setRow HR11.out.bel (Nat.le_refl _) _,rfl⟩
  | true=>
    have HMY:=hid hmy
    obtain⟨Z,hZ⟩:∃Z,Z=(Value.slice (some ⟨b,o9,none⟩) (zs.drop (6+2+(32+4))).length c9::opT n k dd (Value.slice (some ⟨b,off,none⟩) 40 cap) sx).toArray:=⟨_,rfl⟩
    have HZS:Hid (Z.size=37):=by show _=_;rw[hZ];exact Qox _ _ _ _ _ _ HDL.out
    have HZ1:Hid (Z.all (·.oneCell')=true):=by show _=_;rw[hZ];exact Qk2 _ _ _ _ _ _ _ _ _ _
    have HBK:=hid HR11.out.blk
    rw[<-hZ] at HBK
    have HZZ:=hid hZ
    clear hZ hmy
    go_wp2_with (first
     | (refine wpList_load_row rfl 65 _ rfl g rfl 65 Z (0,0) _ HBK.out Tryz.underlying65 rfl (by rw[HZS.out];exact Tryz.size65) ?_)
     | (refine wpList_store_rowTo rfl 65 _ _ rfl rfl w.heap.size Z rfl rfl 65 _ HZ11.out (by rw[HZS.out];exact Tryz.size65) (by rw[HZS.out];rfl) HZ1.out ?_))
    refine bodyPost_ret (Qaz rfl _ _ w.heap.size (.agg Z) rfl (run_loadVar_row _ w.heap.size 65 65 Z (0,0) _ (setRow_heap _ _ _ _ _ _ HZ11.out) Tryz.underlying65 rfl (by rw[HZS.out];exact Tryz.size65))) rfl ?_
    unfold Qf8
    have ho:opnO zs=some (n,k,dd,s):=by
     unfold opnO
     rw[HN.out,show zs.drop 6=zs.drop (4+2) from rfl,HK.out,show zs.drop 40=zs.drop (6+2+32) from rfl,HS.out,<-HSX.out,Int.toNat_natCast,Int.toNat_natCast,Int.toNat_natCast,if_pos ⟨HLEN.out,HMK.out,HMY.out⟩,HDD.out]
    rw[ho]
    refine⟨below_setRow HR11.out.bel (Nat.le_refl _) _,b,o9,c9,?_,HR11.out.row⟩
    rw[HZZ.out,<-HSX.out]
    rfl
 ·have hne:(st.toList == [83,67,72,75])=false:=by
   have h1:=str_eq (xs:=zs.take 4) (ys:= [83,67,72,75]) (HR.out.take 4).fits (fun j=>by
    match j with
    | 0=>rfl
    | 1=>rfl
    | 2=>rfl
    | 3=>rfl
    | j+4=>simp;exact Qce _)
   rw[HST.out,show strOfNums [83,67,72,75]=⟨#[83,67,72,75]⟩ from by decide +kernel] at h1
   rw[show [83,67,72,75]=(⟨#[83,67,72,75]⟩:ByteArray).toList from by decide +kernel,h1]
   exact beq_eq_false_iff_ne.2 hmk
  go_wp2_with (first
   | (refine wpList_buildTo rfl 65 #[] rfl (some 44) rfl opZ HB0.out ?_)
   | (refine wpList_store_rowTo rfl 65 _ _ rfl rfl w.heap.size opZ rfl rfl 65 _ HZ10.out (by rw[HSZ.out];exact Tryz.size65) rfl (Qk2 none 0 0 0 0 z32 none 0 0 0) ?_))
  refine bodyPost_ret (Qaz rfl _ _ w.heap.size (.agg opZ) rfl (run_loadVar_row _ w.heap.size 65 65 opZ (0,0) _ (setRow_heap _ _ _ _ _ _ HZ10.out) Tryz.underlying65 rfl (by rw[HSZ.out];exact Tryz.size65))) rfl ?_
  unfold Qf8
  rw[show opnO zs=none from by unfold opnO;rw[if_neg (fun h=>hmk h.2.1)]]
  exact⟨below_setRow HR10.out.bel (Nat.le_refl _) _,rfl⟩
end
/-
 Head and Read.
-/
section
open Go.RowKit
theorem Xdh(a:Option Addr)(cap:Nat)(zs:List Int)(w:World)(hr:Ri w .u8 a cap zs):Calls Tryz.prog 32 #[.slice a zs.length cap] w (Qf8 a cap zs w):=by
 by_cases h:zs.length<44
 ·exact Qxw a cap zs w h
 ·obtain⟨b,off,rfl,_,_⟩:=hr.cells (by omega)
  exact Qz0 b off cap zs w hr (by omega)
theorem Xg2{n k:Nat}(h:mayB n k=true):1<=n∧n<=4096∧1<=k∧k<=4100:=by
 unfold mayB at h
 simp at h
 omega
theorem Qte{zs:List Int}{n k s:Nat}{d:List Int}(h:opnO zs=some (n,k,d,s)):44<=zs.length∧1<=n∧n<=4096∧1<=k∧k<=4100∧d=(zs.drop 8).take 32:=by
 unfold opnO at h
 split at h
 ·rename_i hc
  simp only[Option.some.injEq,Prod.mk.injEq] at h
  obtain⟨rfl,rfl,rfl,_⟩:=h
  have:=Xg2 hc.2.2
  exact⟨hc.1,by omega,by omega,by omega,by omega,rfl⟩
 ·cases h
def redO(zs:List Int):Int×List Int×Nat:=
 match opnO zs with
 | none=>(110,[],0)
 | some (n,k,d,s)=>if zs.length/512<blkN k then (11,[],0)
   else if (cntO (zs.take 40) (zs.drop 44) n k d s).1=0 then (0,(cntO (zs.take 40) (zs.drop 44) n k d s).2,blkN k) else ((cntO (zs.take 40) (zs.drop 44) n k d s).1,[],0)
def Qi0(r:Int×List Int×Nat)(w:World)(e:Ending)(w':World):Prop:=
 Below w.heap.size w w'∧((r.1≠0∧e= .returned (.tuple #[.slice none 0 0,.int .i64 0,.int .i64 r.1]))∨(r.1=0∧∃a c,e= .returned (.tuple #[.slice a r.2.1.length c,.int .i64 (r.2.2:Int),.int .i64 0])∧Ri w' .u8 a c r.2.1))
theorem Qzk(a:Option Addr)(cap:Nat)(zs:List Int)(w:World)(hr:Ri w .u8 a cap zs)(hn:zs.length<=100000)(hL:Sh.Laid w):Calls Tryz.prog 18 #[.slice a zs.length cap] w (Qi0 (redO zs) w):=by
 have HOP:=hid (Xdh a cap zs w hr)
 unfold Qf8 at HOP
 have HR:=hid hr
 have HL:=hid hL
 obtain⟨R,hR⟩:∃R,R=redO zs:=⟨_,rfl⟩
 have HRE:=hid hR
 obtain⟨L,hLe⟩:∃L,L=zs.length:=⟨_,rfl⟩
 have HLE:=hid hLe
 rw[<-hR]
 rw[<-hLe] at hn HOP|-
 unfold redO at HRE
 clear hr hR hLe hL
 cases ho:opnO zs with
 | none=>
   rw[ho] at HOP HRE
   dsimp only at HOP HRE
   clear ho
   have b0:=fun W:World=>Qbr W (.cells opZ 65)
   have e0:=fun W:World=>Qbd W (.cells opZ 65)
   have HSZ:Hid (opZ.size=37):=rfl
   have HB0:=hid b0
   have HE0:=hid e0
   clear b0 e0
   go_enter Tryz.func18,Tryz.ntmps18
   go_wp2_with fail
   refine HOP.out.mono ?_
   rintro _ W1 ⟨hb1,rfl⟩
   have HB1:=hid hb1
   clear hb1 HOP
   go_wp2_with (first
    | (refine Qac rfl 65 rfl (some 5) rfl opZ Tryz.zero65 W1.heap.size rfl ?_)
    | (refine wpList_store_rowTo rfl 65 _ _ rfl rfl W1.heap.size opZ rfl rfl 65 _ (HE0.out W1) (by rw[HSZ.out];exact Tryz.size65) rfl (Qk2 none 0 0 0 0 z32 none 0 0 0) ?_))
   go_ret3
   refine⟨below_setRow (Bn HB1.out (HB0.out W1)) HB1.out.size _,.inl ?_⟩
   rw[HRE.out]
   exact⟨by decide,rfl⟩
 | some r=>
   obtain⟨n,k,d,s⟩:=r
   have hrg:=Qte ho
   rw[ho] at HOP HRE
   dsimp only at HOP HRE
   obtain⟨h44,h1n,hn4,h1k,hk4,hdd⟩:=hrg
   have hdl:d.length=32:=by rw[hdd];simp;omega
   have HDL:=hid hdl
   have HOT:=hid (fun(b o c x:Nat)=>Qox (.slice (some ⟨b,o,none⟩) x c) n k d (.slice a 40 cap) s hdl)
   have hbl:=(rfl:blkN k=blkN k)
   have hbk:blkN k<=9:=by unfold blkN;omega
   clear ho hdd hdl hbl
   rw[<-HLE.out] at h44 HRE
   go_enter Tryz.func18,Tryz.ntmps18
   go_wp2_with fail
   refine HOP.out.mono ?_
   rintro _ W1 ⟨hb1,b,o,c,rfl,hrd⟩
   have hXs:=Qox (.slice (some ⟨b,o,none⟩) (zs.drop 44).length c) n k d (.slice a 40 cap) s HDL.out
   have hX1:=Qk2 (some ⟨b,o,none⟩) (zs.drop 44).length c n k d a 40 cap s
   obtain⟨X,hX⟩:∃X,X=(Value.slice (some ⟨b,o,none⟩) (zs.drop 44).length c::opT n k d (.slice a 40 cap) s).toArray:=⟨_,rfl⟩
   rw[<-hX] at hXs hX1|-
   have HXS:=hid hXs
   have HX1:=hid hX1
   have HX:=hid hX
   have e0:=Qbd W1 (.cells opZ 65)
   have b0:=Qbr W1 (.cells opZ 65)
   have HB1:=hid hb1
   have HRD:=hid hrd
   have HE0:=hid e0
   have HB0:=hid b0
   clear hXs hX1 hX e0 b0 hb1 hrd HOP HOT
   have HRR:Hid (Rr w ((W1.alloc (.cells opZ 65)).setRow W1.heap.size X) W1.heap.size 65 (opT n k d (.slice a 40 cap) s) (some ⟨b,o,none⟩) c (zs.drop 44)):=
    ⟨by rw[setRow_heap _ _ _ _ _ _ HE0.out,HX.out],HRD.out,below_setRow (Bn HB1.out HB0.out) HB1.out.size _,HB1.out.size⟩
   have HLH:=hid (HRR.out.headLoad HDL.out)
   have HQ:=hid (rfl:blkN k=blkN k)
   obtain⟨q,hq⟩:∃q,q=blkN k:=⟨_,rfl⟩
   have HBW:Hid (∀W,Calls Tryz.prog 25 #[.agg (hdL n k d).toArray] W fun e w'=>e= .returned (.int .i64 (q:Int))∧Below W.heap.size W w'):=fun W=>by rw[hq];exact Qhm n k d W (by omega)
   rw[<-hq] at hbk HRE
   have HQE:=hid hq
   clear hq HQ
   go_wp2_with (first
    | (refine Qac rfl 65 rfl (some 5) rfl opZ Tryz.zero65 W1.heap.size rfl ?_)
    | (refine wpList_store_rowTo rfl 65 _ _ rfl rfl W1.heap.size X rfl rfl 65 _ HE0.out (by rw[HXS.out];exact Tryz.size65) (by rw[HXS.out];rfl) HX1.out ?_)
    | (refine Qbn rfl 53 (.tmp 19) rfl _ _ rfl HLH.out ?_))
   clear HLH
   generalize (W1.alloc (.cells opZ 65)).setRow W1.heap.size X=W2 at *
   generalize W1.heap.size=g at *
   refine(HBW.out _).mono ?_
   rintro _ W3 ⟨rfl,hb3⟩
   have HR3:=hid (HRR.out.keepB hb3)
   clear hb3 HRR HE0 HB0 HX HXS HX1
   have hdv:(L:Int)/512=((L/512:Nat):Int):=by omega
   by_cases hsh:L/512<q
   ·have hshi:(L:Int)/512<(q:Int):=by omega
    clear hdv
    go_wp2_with fail
    go_ret3
    refine⟨HR3.out.bel,.inl ?_⟩
    rw[HRE.out,if_pos hsh]
    exact⟨by decide,rfl⟩
   ·have hshi:¬(L:Int)/512<(q:Int):=by omega
    clear hdv
    rw[if_neg hsh] at HRE
    have HCW:=hid (Qpy w W3 g b o c (zs.drop 44) (zs.take 40) d n k s a cap HR3.out (HR.out.take 40) (by have:=HLE.out;simp;omega) h1k hk4 (by rw[List.length_drop,<-HQE.out,<-HLE.out];omega) HDL.out h1n hn4 HL.out)
    generalize cntO (zs.take 40) (zs.drop 44) n k d s=cr at *
    unfold Qya at HCW
    go_wp2_with fail
    refine HCW.out.mono ?_
    rintro _ W4 ⟨hb4,⟨a4,c4,z4,hR4⟩,⟨hne,rfl⟩ | ⟨h0,a5,c5,rfl,hr5⟩⟩
    ·have hnb:(cr.1 != 0)=true:=by rw[bne_iff_ne];exact hne
     have HB4:=hid hb4
     rw[if_neg hne] at HRE
     have HNE:=hid hne
     clear hb4 hR4 HCW hne
     generalize hc1:cr.1=x1 at *
     clear hc1
     go_wp2_with fail
     go_ret3
     refine⟨HB4.out,.inl ?_⟩
     rw[HRE.out]
     exact⟨HNE.out,rfl⟩
    ·rw[if_pos h0] at HRE
     have HR4:=hid hR4
     have HI5:=hid hr5
     obtain⟨L5,hL5⟩:∃L5,L5=cr.2.length:=⟨_,rfl⟩
     have HL5:=hid hL5
     rw[<-hL5]
     have HLH:=hid (hR4.headLoad HDL.out)
     clear hb4 hR4 HCW hr5 hL5 h0
     go_wp2_with (refine Qbn rfl 53 (.tmp 31) rfl _ _ rfl HLH.out ?_)
     refine(HBW.out _).mono ?_
     rintro _ W5 ⟨rfl,hb5⟩
     have HI6:=hid (HI5.out.later hb5)
     have HB6:=hid (Bn HR4.out.bel hb5)
     clear hb5 HI5 HR4 HLH
     go_wp2_with fail
     go_ret3
     refine⟨HB6.out,.inr ?_⟩
     rw[HRE.out]
     exact⟨rfl,a5,c5,by rw[<-HL5.out];rfl,HI6.out⟩
end
/-
 Head.
-/
section
open Go.RowKit
theorem Qiy{P:Program}{fn:Func}{p u v:Tmp}{ty:TypeId}(h:fn.results= #[.cell p ty,.tmp u,.tmp v])(tmps:Array Value)(w:World):
 (results fn tmps).run P w=((asAddr (tmps.getD p undef)).run P w).andThen fun a w₁=>((loadVar ty a).run P w₁).andThen fun x w₂=> .ok (.tuple #[x,tmps.getD u undef,tmps.getD v undef]) w₂:=by
 simp only[results,h]
 simp[Sem.run_bind,Result.andThen]
theorem Qfo{P:Program}{fn:Func}{p u v:Tmp}{ty:TypeId}(h:fn.results= #[.cell p ty,.tmp u,.tmp v])(tmps:Array Value)(w:World)(g:Nat)(x:Value)(hp:tmps.getD p undef= .pointer (some ⟨g,0,none⟩))(hl:(loadVar ty ⟨g,0,none⟩).run P w= .ok x w):
 (results fn tmps).run P w= .ok (.tuple #[x,tmps.getD u undef,tmps.getD v undef]) w:=by
 rw[Qiy h,hp]
 simp[asAddr,hl]
def hedO(zs:List Int):List Int×Nat×Int:=
 match opnO zs with
 | none=>(z32,0,110)
 | some (_,k,d,_)=>(d,blkN k,0)
end
/-
 Plain facts: what is read of a chunk's blocks.
-/
section
open Go.RowKit Hf Lz
theorem seg{x y z:List Int}(p n:Nat)(hx:x.length=p)(hy:y.length=n):((x++(y++z)).drop p).take n=y:=by rw[<-hx,List.drop_left,<-hy,List.take_left]
theorem Qsa(n:Nat)(x:Nat)(h:(x:Int)<256^n):(numL (Sh.Wd.leL n x)).toNat=x:=by
 show(Sh.Wd.Qd9 (Sh.Wd.leL n x).reverse).toNat=x
 rw[Sh.Wd.Xa3,Int.emod_eq_of_lt (by omega) h,Int.toNat_natCast]
theorem Xbk(k:Nat):44+k<=512*blkN k:=by unfold blkN;omega
theorem Qsl(bs:List Int):(pakB bs).length=512*blkN (encB bs).length:=by
 have h:=Xbk (encB bs).length
 unfold pakB
 simp only[List.length_append,List.length_replicate,Sh.Wd.Qb1,Qow _ _ _ (Qft bs)]
 omega
theorem Xiq(bs:List Int)(hc:isC bs.length=true)(t:List Int):opnO (pakB bs++t)=some (bs.length,(encB bs).length,digL bs,crcN (hedB bs.length (encB bs).length (digL bs)++encB bs)):=by
 have hrg:=Qub hc
 have hel:=Qy1 bs (by omega)
 have hep:0<(encB bs).length:=by unfold encB codB;split<;>simp
 have hcl:=Qnq (hedB bs.length (encB bs).length (digL bs)++encB bs)
 have hdl:=Qft bs
 have hpl:=Qsl bs
 have hbg:=Xbk (encB bs).length
 obtain⟨C,hC⟩:∃C,C=crcN (hedB bs.length (encB bs).length (digL bs)++encB bs):=⟨_,rfl⟩
 have e:pakB bs++t= [83,67,72,75]++(Sh.Wd.leL 2 bs.length++(Sh.Wd.leL 2 (encB bs).length++(digL bs++(Sh.Wd.leL 4 C++(encB bs++(List.replicate (512*blkN (encB bs).length-44-(encB bs).length) 0++t)))))):=by
  rw[hC];unfold pakB hedB;simp only[List.append_assoc]
 rw[<-hC] at hcl|-
 have hlen:44<=(pakB bs++t).length:=by rw[List.length_append,hpl];omega
 unfold opnO
 generalize digL bs=d at *
 generalize hE:(encB bs).length=M at *
 generalize bs.length=L at *
 have l2:=fun x:Int=>Sh.Wd.Qb1 2 x
 have q4:(pakB bs++t).take 4= [83,67,72,75]:=by rw[e];rfl
 have q6:((pakB bs++t).drop 4).take 2=Sh.Wd.leL 2 L:=by rw[e];exact seg 4 2 rfl (l2 _)
 have q8:((pakB bs++t).drop 6).take 2=Sh.Wd.leL 2 M:=by rw[e,<-List.append_assoc];exact seg 6 2 (by simp[l2]) (l2 _)
 have q40:((pakB bs++t).drop 8).take 32=d:=by rw[e,<-List.append_assoc,<-List.append_assoc];exact seg 8 32 (by simp[l2]) hdl
 have q44:((pakB bs++t).drop 40).take 4=Sh.Wd.leL 4 C:=by rw[e,<-List.append_assoc,<-List.append_assoc,<-List.append_assoc];exact seg 40 4 (by simp[l2,hdl]) (Sh.Wd.Qb1 4 _)
 rw[q4,q6,q8,q40,q44,Qsa 2 L (by show(L:Int)<65536;omega),Qsa 2 M (by show(M:Int)<65536;omega),Qsa 4 C (by show(C:Int)<4294967296;omega)]
 rw[if_pos ⟨hlen,rfl,by unfold mayB;simp;omega⟩]
theorem Xh3(n:Nat):zerB (List.replicate n 0)=true:=by
 unfold zerB
 rw[List.all_eq_true]
 intro x hx
 rw[List.eq_of_mem_replicate hx]
 rfl
theorem Xg5(bs:List Int)(h8:Qb8 bs)(hc:isC bs.length=true)(t:List Int):redO (pakB bs++t)=(0,bs,blkN (encB bs).length):=by
 have hrg:=Qub hc
 have ho:=Xiq bs hc t
 have hro:=Xi0 bs h8 (by omega)
 have hpl:=Qsl bs
 have hdl:=Qft bs
 have hbg:=Xbk (encB bs).length
 unfold redO
 rw[ho]
 dsimp only
 rw[if_neg (by rw[List.length_append,hpl];omega)]
 have e:pakB bs++t=hedB bs.length (encB bs).length (digL bs)++(Sh.Wd.leL 4 (crcN (hedB bs.length (encB bs).length (digL bs)++encB bs))++(encB bs++(List.replicate (512*blkN (encB bs).length-44-(encB bs).length) 0++t))):=by
  unfold pakB;simp only[List.append_assoc]
 have hhl:=Qow bs.length (encB bs).length (digL bs) hdl
 have q40:(pakB bs++t).take 40=hedB bs.length (encB bs).length (digL bs):=by rw[e,<-hhl,List.take_left]
 have q44:(pakB bs++t).drop 44=encB bs++(List.replicate (512*blkN (encB bs).length-44-(encB bs).length) 0++t):=by
  rw[e,<-List.append_assoc,show 44=(hedB bs.length (encB bs).length (digL bs)++Sh.Wd.leL 4 (crcN (hedB bs.length (encB bs).length (digL bs)++encB bs))).length from by rw[List.length_append,hhl,Sh.Wd.Qb1],List.drop_left]
 rw[q40,q44]
 have hcn:cntO (hedB bs.length (encB bs).length (digL bs)) (encB bs++(List.replicate (512*blkN (encB bs).length-44-(encB bs).length) 0++t)) bs.length (encB bs).length (digL bs) (crcN (hedB bs.length (encB bs).length (digL bs)++encB bs))=(0,bs):=by
  unfold cntO
  rw[List.take_left,if_neg (fun h=>h rfl),List.drop_left,show(List.replicate (512*blkN (encB bs).length-44-(encB bs).length) (0:Int)++t).take (512*blkN (encB bs).length-44-(encB bs).length)=List.replicate (512*blkN (encB bs).length-44-(encB bs).length) 0 from by
   have:=List.take_left (l₁:=List.replicate (512*blkN (encB bs).length-44-(encB bs).length) (0:Int)) (l₂:=t)
   rwa[List.length_replicate] at this,Xh3,if_neg (by decide),hro]
  dsimp only
  rw[if_neg (fun h=>h rfl),if_neg (fun h=>h rfl)]
 rw[hcn,if_pos rfl]
end
/-
 alive, and cut.
-/
section
open Go.RowKit Hf Lz
theorem Xio:encB [97]= [0,1,97]:=by decide +kernel
theorem Xko:isC ([97]:List Int).length=true:=by decide
theorem Xkt:(pakB [97]).length=512:=by rw[Qsl,Xio];rfl
theorem a_8:Qb8 [97]:=fun j=>by
 match j with
 | 0=>rfl
 | j+1=>simp;exact Qce _
theorem Xj4:(pakB [97]).take 8= [83,67,72,75,1,0,3,0]:=by
 unfold pakB hedB
 rw[Xio]
 rfl
theorem Xkv:strOfNums [83,67,72,75,1,0,3,0]=⟨#[83,67,72,75,1,0,3,0]⟩:=by decide +kernel
theorem Xkr:strOfNums [97]=⟨#[97]⟩:=by decide +kernel
theorem Xhz(bs:List Int)(h8:Qb8 bs)(hn:bs.length<=10000)(w:World):Ri (w.alloc (.cells (u8A bs) 5)) .u8 (some ⟨w.heap.size,0,none⟩) bs.length bs:=by
 refine⟨Nat.le_refl _,by unfold maxLen;omega,fun _=>⟨w.heap.size,0,rfl,by simp,fun j hj=>?_⟩,h8⟩
 rw[Nat.zero_add,Joins.cell_of_block (Qbd w _) j]
 simp[u8A,List.getD,List.getElem?_eq_getElem hj]
theorem Xjk(bs:List Int)(h8:Qb8 bs)(hn:bs.length<=4096):∀j,(Lit.int .u8 ((encB bs).getD j 0)).wf=true:=by
 obtain⟨e,w',_,⟨_,_,_,_,h⟩,_⟩:=Qqw _ _ bs _ (Xhz bs h8 (by omega) default) (by omega) []
 exact h.fits
theorem Xke(bs:List Int)(h8:Qb8 bs)(hn:bs.length<=4096):∀j,(Lit.int .u8 ((pakB bs).getD j 0)).wf=true:=by
 unfold pakB
 have hd8:∀j,(Lit.int .u8 ((digL bs).getD j 0)).wf=true:=fun j=>Qbf (Qty bs j).1 (Qty bs j).2
 refine Qnb (Qnb (Qnb (Qz8 _ _ _ hd8) (Qzo 4 _)) (Xjk bs h8 hn)) (fun j=>?_)
 have:(List.replicate (512*blkN (encB bs).length-44-(encB bs).length) (0:Int)).getD j 0=0:=by
  simp only[List.getD,List.getElem?_replicate]
  split<;>rfl
 rw[this];exact Qce _
theorem Xc5(a:Option Addr)(cap n:Nat)(zs:List Int)(w:World)(hr:Ri w .u8 a cap zs)(hn:n<=10000):
 Calls Tryz.prog 9 #[.slice a zs.length cap,.int .i64 (n:Int)] w fun e w'=>e= .returned (.slice a (zs.take n).length cap)∧w'=w:=by
 have hroom:=hr.room
 by_cases h:n<zs.length
 ·obtain⟨b,off,rfl,_,_⟩:=hr.cells (by omega)
  have hl:(zs.take n).length=n:=by simp;omega
  rw[hl]
  generalize zs.length=L at *
  have h1:(n:Int)<(L:Int):=by omega
  have h2:n<=cap:=by omega
  clear hr hl
  go_enter Tryz.func9,Tryz.ntmps9
  go_wp2
  go_ret
  exact⟨rfl,rfl⟩
 ·have hl:(zs.take n).length=zs.length:=by simp;omega
  rw[hl]
  generalize zs.length=L at *
  have h1:¬(n:Int)<(L:Int):=by omega
  clear hr hl
  go_enter Tryz.func9,Tryz.ntmps9
  go_wp2
  go_ret
  exact⟨rfl,rfl⟩
theorem Xep(w:World)(hL:Sh.Laid w):Calls Tryz.prog 15 #[] w fun e w'=>e= .returned (.bool true)∧Below w.heap.size w w':=by
 have kc:=Joins.run_convert_bytes_const_at (P:=Tryz.prog) w 22 5 #[.int .u8 97] 1 1 w.heap.size rfl Tryz.underlying22 Tryz.underlying5
 have hb0:=Qbr w (.cells #[.int .u8 97] 5 (1,2))
 have e0:=Qbd w (.cells #[.int .u8 97] 5 (1,2))
 have hri:Ri (w.alloc (.cells #[.int .u8 97] 5 (1,2))) .u8 (some ⟨w.heap.size,0,none⟩) 1 [97]:=by
  refine⟨Nat.le_refl _,by unfold maxLen;omega,fun _=>⟨w.heap.size,0,rfl,by simp,fun j hj=>?_⟩,a_8⟩
  have:j=0:=by simp at hj;omega
  subst this
  exact Joins.cell_of_block e0 0
 have HBY:Hid (Calls Tryz.prog 10 #[.slice (some ⟨w.heap.size,0,none⟩) 1 1] (w.alloc (.cells #[.int .u8 97] 5 (1,2))) (Xie [97] (w.alloc (.cells #[.int .u8 97] 5 (1,2))))):=Xd3 _ _ [97] _ hri (by decide) (hL.later hb0)
 unfold Xie at HBY
 have HB0:=hid hb0
 have HL:=hid hL
 obtain⟨P,hP⟩:∃P,P=pakB [97]:=⟨_,rfl⟩
 rw[<-hP] at HBY
 have HPL:Hid (P.length=512):=by show _=_;rw[hP];exact Xkt
 have HP8:Hid (∀j,(Lit.int .u8 (P.getD j 0)).wf=true):=by rw[hP];exact Xke [97] a_8 (by decide)
 have HRD:Hid (redO P=(0,[97],1)):=by
  have:=Xg5 [97] a_8 Xko []
  rw[List.append_nil,Xio,<-hP] at this
  exact this
 have HTK:Hid (strOfNums (P.take 8)=⟨#[83,67,72,75,1,0,3,0]⟩):=by show _=_;rw[hP,Xj4,Xkv]
 clear hb0 e0 hri hL hP
 go_enter Tryz.func15,Tryz.ntmps15
 go_wp2_with fail
 refine HBY.out.mono ?_
 rintro _ W1 ⟨hb1,⟨h,_⟩ | ⟨_,v,rfl,ho⟩⟩
 ·cases h
 obtain⟨a1,c1,rfl,hr1⟩:=Ri.own ho HP8.out
 have HB1:=hid (Bn HB0.out hb1)
 have HRP:=hid (Qzk a1 c1 P W1 hr1 (by rw[HPL.out];decide) (HL.out.later HB1.out))
 unfold Qi0 at HRP
 rw[HRD.out] at HRP
 have HI1:=hid hr1
 have hroom:=hr1.room
 rw[HPL.out] at HRP hroom|-
 clear hb1 ho hr1 HBY kc
 go_wp2_with fail
 refine HRP.out.mono ?_
 rintro _ W2 ⟨hb2,⟨h,_⟩ | ⟨_,a2,c2,rfl,hr2⟩⟩
 ·exact absurd rfl h
 have HB2:=hid (Bn HB1.out hb2)
 have t1:=(HI1.out.take 8).text W2 hb2
 have t2:(convert 22 9 (.slice a2 1 c2)).run Tryz.prog W2= .ok (.string (strOfNums [97])) W2:=hr2.text W2 (Below.refl _ _)
 rw[HTK.out,show(P.take 8).length=8 from by have:=HPL.out;simp;omega] at t1
 dsimp only
 rw[Xkr] at t2
 have h8:8<=c1:=by omega
 clear hb2 hr2 HRP HRD HI1
 go_wp2_with fail
 go_ret
 exact⟨rfl,HB2.out⟩
end
/-
 What the rows' condition on the program's two tables gives.
-/
section
open Go.ChangeShapes Go.WideShapes Go.ChangeAt Go.RowKit Sh.Sha
def Xcn:List (String×DataW Unit):= [("saltern/sha.start",Rows.laid_saltern_sha_start),("saltern/sha.constants",Rows.laid_saltern_sha_constants)]
theorem own:ownKnob Tryz.prog.godebug=none:=by kernel_rfl
theorem Xkf:Tryz.prog.globalNamed "saltern/sha.start" = some 0:=by kernel_rfl
theorem Xj8:Tryz.prog.globalNamed "saltern/sha.constants" = some 1:=by kernel_rfl
theorem Xka:(Tryz.prog.globals[0]?).map (·.type)=some 95:=by kernel_rfl
theorem Xjr:(Tryz.prog.globals[1]?).map (·.type)=some 138:=by kernel_rfl
theorem Tryz.cells56:Tryz.prog.cellsOf 56=1:=by kernel_rfl
theorem Tryz.cells95:Tryz.prog.cellsOf 95=8:=by kernel_rfl
theorem Tryz.cells138:Tryz.prog.cellsOf 138=64:=by kernel_rfl
theorem Xew(os:Os)(args:Array Value):laidMetH Tryz.prog Xcn ((World.doorLaid Tryz.prog 400 os).forCall (fun _ _=>0) ⟨#[],args,[]⟩).memory:=
 laidMetH_of_parts3 (fuel:=8) (laidMet_of_run' 8 (by kernel_rfl) (by kernel_rfl)) (by kernel_rfl) (by kernel_rfl)
theorem Xim{W:World}(h:laidMetH Tryz.prog Xcn W):Sh.Laid W:=by
 rw[MakeChecks.laidMetH_plain _ _ _ (by kernel_rfl)] at h
 obtain⟨ps,⟨g0,t0,cs0,f0,p0,q0,hg0,ht0,hv0,hd0,⟨g1,t1,cs1,f1,p1,q1,hg1,ht1,hv1,hd1,_,_⟩,_⟩,_,_⟩:=h
 obtain rfl:=Option.some.inj (Xkf.symm.trans hg0)
 obtain rfl:=Option.some.inj (Xj8.symm.trans hg1)
 obtain rfl:=Option.some.inj (Xka.symm.trans ht0)
 obtain rfl:=Option.some.inj (Xjr.symm.trans ht1)
 have e0:=Lib.cells_of_tab (zs:=Sh.ints Sh.Sha.start.list) Tryz.underlying95 Tryz.underlying56 Tryz.cells56 Tryz.cells95 hd0
 have e1:=Lib.cells_of_tab (zs:=Sh.ints Sh.Sha.kL) Tryz.underlying138 Tryz.underlying56 Tryz.cells56 Tryz.cells138 hd1
 have c0:∀i,W.cell? ⟨0,i,none⟩=((Sh.ints Sh.Sha.start.list).map fun z=>Value.int .u32 z)[i]?:=fun i=>by
  have:=World.var?_cell hg0 hv0 i
  rw[this,<-e0];simp
 have c1:∀i,W.cell? ⟨1,i,none⟩=((Sh.ints Sh.Sha.kL).map fun z=>Value.int .u32 z)[i]?:=fun i=>by
  have:=World.var?_cell hg1 hv1 i
  rw[this,<-e1];simp
 refine⟨fun i hi=>?_,fun i hi=>?_,?_⟩
 ·rw[c1 i]
  simp[Sh.ints,List.getD,List.getElem?_eq_getElem (show i<Sh.Sha.kL.length from hi)]
 ·rw[c0 i]
  simp[Sh.ints,List.getD,List.getElem?_eq_getElem (show i<Sh.Sha.start.list.length from hi)]
 ·have:=World.block_lt_of_cell? W ⟨1,0,none⟩ (c1 0)
  exact this
end
end Go.Proofs.YtibjlbcnapoblaaGreatDoor
