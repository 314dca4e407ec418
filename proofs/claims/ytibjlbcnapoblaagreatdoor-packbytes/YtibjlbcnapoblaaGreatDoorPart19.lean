/- Contracts and facts. -/
import Derived.Test.YtibjlbcnapoblaaGreatDoorPart18
import Derived.Test.YtibjlbcnapoblaaGreatDoorPart17
namespace Go.Proofs.YtibjlbcnapoblaaGreatDoor
set_option maxRecDepth 100000
set_option maxHeartbeats 6400000
section
open Go.RowKit Lz Hf
def Qim(ls cs:List Int)(s:Nat)(st:List Int×Nat):List Int×Nat:=Qni (cs.getD s 0).toNat (ls.getD s 0).toNat st
theorem Xfw(L:List Int)(f b:Nat):(Xg2 L f b).1.length<=L.length+1:=by
 unfold Xg2;split<;>simp
theorem Qo7(x:Nat):∀(n:Nat) (s:List Int×Nat),(Qni x n s).1.length<=s.1.length+n
 | 0,s=>Nat.le_refl _
 | n+1,s=>by
   have h1:=Qo7 x n (Xg2 s.1 s.2 (x/2^n%2))
   have h2:=Xfw s.1 s.2 (x/2^n%2)
   rw[Qni];omega
theorem Qnh(g:Nat)(L:List Int)(f:Nat)(w0 w:World)(v:Value)(hW:Wt w0.heap.size g w L f v)(hb:Below w0.heap.size w0 w)(hB:w0.heap.size<=g)(hL:L.length<=4000000)
 (a1 a2:Option Addr) (c1 c2:Nat) (ls cs:List Int) (n s:Nat) (r1:Ri w0 .i64 a1 c1 ls) (r2:Ri w0 .u16 a2 c2 cs) (n1:ls.length=n) (n2:cs.length=n) (hs:s<n) (hl:∀j,0<=ls.getD j 0∧ls.getD j 0<=15) :
 Calls Tryz.prog 134 #[.pointer (some ⟨g,0,none⟩),.agg #[.slice a1 n c1,.slice a2 n c2],.int .i64 (s:Int)] w fun e w'=>e= .returned (.tuple #[])∧(∃v',Wt w0.heap.size g w' (Qim ls cs s (L,f)).1 (Qim ls cs s (L,f)).2 v')∧Below w0.heap.size w0 w'∧Fr g w w':=by
 obtain⟨b1,o1,rfl,hb1,hc1⟩:=r1.cells (by omega)
 obtain⟨b2,o2,rfl,hb2,hc2⟩:=r2.cells (by omega)
 have hm1:=r1.room
 have hm2:=r2.room
 have hq2:=wf_u16 (r2.fits s)
 have hq1:=hl s
 rw[n1] at hm1
 rw[n2] at hm2
 have hbx:=Qab w (.cells #[.slice (some ⟨b1,o1,none⟩) n c1,.slice (some ⟨b2,o2,none⟩) n c2] 157)
 have ebx:=Qag w (.cells #[.slice (some ⟨b1,o1,none⟩) n c1,.slice (some ⟨b2,o2,none⟩) n c2] 157)
 have hbw:Below w0.heap.size w0 (w.alloc (.cells #[.slice (some ⟨b1,o1,none⟩) n c1,.slice (some ⟨b2,o2,none⟩) n c2] 157)):=Bn hb hbx
 have HFX:=hid (Fr.of_below (g:=g) hbx).drew
 have k1:=(hbw.cell (p:=⟨b1,o1+s,none⟩) hb1).trans (hc1 s (by omega))
 have k2:=(hbw.cell (p:=⟨b2,o2+s,none⟩) hb2).trans (hc2 s (by omega))
 have HW:=hid (hW.alloc (.cells #[.slice (some ⟨b1,o1,none⟩) n c1,.slice (some ⟨b2,o2,none⟩) n c2] 157)).drew
 have HBW:=hid hbw.drew
 obtain⟨x,hx⟩:=Int.eq_ofNat_of_zero_le hq2.1
 obtain⟨ln,hln⟩:=Int.eq_ofNat_of_zero_le hq1.1
 have HSY:Hid (Qim ls cs s (L,f)=Qni x ln (L,f)):=by show _=_;unfold Qim;rw[hx,hln];rfl
 have HPUT:=hid (Qvc w0.heap.size g x ln L f w0 _ v HW.out HBW.out hB (by omega) (by omega) hL)
 rw[hln] at k1
 rw[hx] at k2
 have hx2:x<65536:=by omega
 have hsn:(s:Int)<(n:Int):=by omega
 clear hc1 hc2 hb1 hb2 hb hbx hbw hln hx hq1 hq2 hl n1 n2 hW hB hL r1 r2
 have hmo:Tryz.prog.follows .mixedOrders=true:=by kernel_rfl
 go_enter Tryz.func134,Tryz.ntmps134
 go_wp2_with fail
 generalize w.alloc (.cells #[.slice (some ⟨b1,o1,none⟩) n c1,.slice (some ⟨b2,o2,none⟩) n c2] 157)=W at *
 have e0:=Joins.cell_of_block ebx 0
 have e1:=Joins.cell_of_block ebx 1
 simp only[List.getElem?_toArray,List.getElem?_cons_zero,List.getElem?_cons_succ] at e0 e1
 clear ebx
 go_still_tail 12,hmo
 change wpList _ _ _ _ _ W.drew
 rw[show IntKind.i64.wrap (x:Int)=(x:Int) from by rw[IntKind.wrap_i64];omega]
 go_wp2_with fail
 go_at_call 135
 refine HPUT.out.mono ?_
 rintro _ w1 ⟨rfl,hv,hb1,hfr⟩
 have HV:=hid hv
 have HFR:=hid (HFX.out.trans hfr)
 clear hfr
 have HB1:=hid hb1
 clear hv hb1 HPUT
 go_wp2
 go_end0
 exact⟨rfl,by rw[HSY.out];exact HV.out,HB1.out,HFR.out⟩
def Xdy(ls cs ds es:List Int)(t:Tkz)(st:List Int×Nat):List Int×Nat:=
 if t.1=0 then Qim ls cs (Qff t).toNat st else Qni t.1.toNat (Qfy t.1).toNat (Qim ds es (Qfy t.1).toNat (Qim ls cs (Qff t).toNat st))
theorem Qkb(ls cs:List Int)(hl:∀j,0<=ls.getD j 0∧ls.getD j 0<=15)(s:Nat)(st:List Int×Nat):(Qim ls cs s st).1.length<=st.1.length+15:=by
 have h1:=Qo7 (cs.getD s 0).toNat (ls.getD s 0).toNat st
 have h2:=hl s
 unfold Qim;omega
theorem Xcb{W:World}{B:Nat}{u v:Value}(h:W.heap[B]?=some (.cells #[u,v] 157 (0,0))):(Instr.loadAt 157 (.pointer (some ⟨B,0,none⟩))).run Tryz.prog W= .ok (.agg #[u,v]) W:=
 Qdv W B 157 157 _ _ _ h Tryz.underlying157 rfl (by kernel_rfl)
theorem Wt.later{B g:Nat}{w w':World}{L:List Int}{f:Nat}{v:Value}(h:Wt B g w L f v)(hb:Below w.heap.size w w'):Wt B g w' L f v:=
 ⟨(hb.block g h.lt).trans h.blk,Qbx h.row hb,h.u8,h.fl,h.any⟩
theorem Xeg{W:World}{B:Nat}{d n x:Int}(h:W.heap[B]?=some (.cells #[.int .i64 d,.int .i64 n,.int .u8 x] 109 (0,0))):(Instr.loadAt 109 (.pointer (some ⟨B,0,none⟩))).run Tryz.prog W= .ok (.agg #[.int .i64 d,.int .i64 n,.int .u8 x]) W:=
 Qdv W B 109 109 _ _ _ h Tryz.underlying109 rfl (by kernel_rfl)
theorem Xa4(g:Nat)(L:List Int)(f:Nat)(w0 w:World)(v:Value)(hW:Wt w0.heap.size g w L f v)(hb:Below w0.heap.size w0 w)(hB:w0.heap.size<=g)(hL:L.length+30<=4000000)
 (a1 a2 a3 a4:Option Addr) (c1 c2 c3 c4:Nat) (ls cs ds es:List Int) (r1:Ri w0 .i64 a1 c1 ls) (r2:Ri w0 .u16 a2 c2 cs) (r3:Ri w0 .i64 a3 c3 ds) (r4:Ri w0 .u16 a4 c4 es) (n1:ls.length=511) (n2:cs.length=511) (n3:ds.length=13) (n4:es.length=13)
 (hl:∀j,0<=ls.getD j 0∧ls.getD j 0<=15) (hd:∀j,0<=ds.getD j 0∧ds.getD j 0<=15) (t:Tkz) (ht:Qew t=0) (h8:0<=t.2.2∧t.2.2<=255) :
 Calls Tryz.prog 106 #[.pointer (some ⟨g,0,none⟩),.agg (zC t),.agg #[.slice a1 511 c1,.slice a2 511 c2],.agg #[.slice a3 13 c3,.slice a4 13 c4]] w fun e w'=>e= .returned (.tuple #[])∧(∃v',Wt w0.heap.size g w' (Xdy ls cs ds es t (L,f)).1 (Xdy ls cs ds es t (L,f)).2 v')∧Below w0.heap.size w0 w'∧Fr g w w':=by
 have htwo:=Qf9 ht h8
 have HSW:=hid (fun W=>Qlx t W (by rcases htwo with h | h;exact Or.inl h.1;exact Or.inr ⟨h.2.2.1,h.2.2.2.1⟩) h8)
 have hsr:0<=Qff t∧Qff t<511:=by rcases htwo with h | h;exact h.2;exact h.2.2.2.2
 obtain⟨s,hs⟩:=Int.eq_ofNat_of_zero_le hsr.1
 rw[hs] at HSW
 have HP1:Hid (∀W,Wt w0.heap.size g W L f v->Below w0.heap.size w0 W->Calls Tryz.prog 134 #[.pointer (some ⟨g,0,none⟩),.agg #[.slice a1 511 c1,.slice a2 511 c2],.int .i64 (s:Int)] W fun e w'=>e= .returned (.tuple #[])∧(∃v',Wt w0.heap.size g w' (Qim ls cs s (L,f)).1 (Qim ls cs s (L,f)).2 v')∧Below w0.heap.size w0 w'∧Fr g W w'):=
  fun W h1 h2=>Qnh g L f w0 W v h1 h2 hB (by omega) a1 a2 c1 c2 ls cs 511 s r1 r2 n1 n2 (by omega) hl
 have hd2:t.1=0∨(1<=t.1∧t.1<=4096):=by rcases htwo with h | h;exact Or.inl h.1;exact Or.inr ⟨h.1,h.2.1⟩
 have HTP:Hid (Xdy ls cs ds es t (L,f)=if t.1=0 then Qim ls cs s (L,f) else Qni t.1.toNat (Qfy t.1).toNat (Qim ds es (Qfy t.1).toNat (Qim ls cs s (L,f)))):=by show _=_;unfold Xdy;rw[hs];rfl
 have HLN1:=hid (Qkb ls cs hl s (L,f))
 have HP2:Hid (∀(q:Nat) (M:List Int) (fm:Nat) (W:World) (v1:Value),q<13->M.length<=L.length+15->Wt w0.heap.size g W M fm v1->Below w0.heap.size w0 W->Calls Tryz.prog 134 #[.pointer (some ⟨g,0,none⟩),.agg #[.slice a3 13 c3,.slice a4 13 c4],.int .i64 (q:Int)] W fun e w'=>e= .returned (.tuple #[])∧(∃v',Wt w0.heap.size g w' (Qim ds es q (M,fm)).1 (Qim ds es q (M,fm)).2 v')∧Below w0.heap.size w0 w'∧Fr g W w'):=
  fun q M fm W v1 hq hM h1 h2=>Qnh g M fm w0 W v1 h1 h2 hB (by omega) a3 a4 c3 c4 ds es 13 q r3 r4 n3 n4 hq hd
 have HLN2:Hid (∀q (M:List Int) fm,M.length<=L.length+15->(Qim ds es q (M,fm)).1.length<=4000000):=fun q M fm h=>by
  have:=Qkb ds es hd q (M,fm)
  simp only at this
  omega
 have HP3:=hid (fun(x n:Nat) (M:List Int) fm W v1 (h:M.length<=4000000) (hx:x<65536) (hn:n<=15) h1 h2=>Qvc w0.heap.size g x n M fm w0 W v1 h1 h2 hB hx hn h)
 clear htwo hsr hs ht h8 r1 r2 r3 r4 n1 n2 n3 n4 hl hd hL
 obtain⟨d,n,x⟩:=t
 unfold zC at *
 dsimp only at *
 obtain⟨u2,hu2⟩:∃u,u=Value.agg #[.slice a1 511 c1,.slice a2 511 c2]:=⟨_,rfl⟩
 have b1:=Qab w (.cells #[.int .i64 d,.int .i64 n,.int .u8 x] 109)
 have e1:=Qag w (.cells #[.int .i64 d,.int .i64 n,.int .u8 x] 109)
 have s1:(w.alloc (.cells #[.int .i64 d,.int .i64 n,.int .u8 x] 109)).heap.size=w.heap.size+1:=by simp
 have b2:=Qab (w.alloc (.cells #[.int .i64 d,.int .i64 n,.int .u8 x] 109)) (.cells #[.slice a1 511 c1,.slice a2 511 c2] 157)
 have e2:=Qag (w.alloc (.cells #[.int .i64 d,.int .i64 n,.int .u8 x] 109)) (.cells #[.slice a1 511 c1,.slice a2 511 c2] 157)
 have s2:((w.alloc (.cells #[.int .i64 d,.int .i64 n,.int .u8 x] 109)).alloc (.cells #[.slice a1 511 c1,.slice a2 511 c2] 157)).heap.size=w.heap.size+1+1:=by simp
 have b3:=Qab ((w.alloc (.cells #[.int .i64 d,.int .i64 n,.int .u8 x] 109)).alloc (.cells #[.slice a1 511 c1,.slice a2 511 c2] 157)) (.cells #[.slice a3 13 c3,.slice a4 13 c4] 157)
 have e3:=Qag ((w.alloc (.cells #[.int .i64 d,.int .i64 n,.int .u8 x] 109)).alloc (.cells #[.slice a1 511 c1,.slice a2 511 c2] 157)) (.cells #[.slice a3 13 c3,.slice a4 13 c4] 157)
 rw[s1] at e2
 rw[s2] at e3
 have e1':=(b3.block w.heap.size (by omega)).trans ((b2.block w.heap.size (by omega)).trans e1)
 have e2':=(b3.block (w.heap.size+1) (by omega)).trans e2
 have HFA:=hid (Fr.of_below (g:=g) (Bn (Bn b1 b2) b3))
 have HWA:=hid (((hW.alloc (.cells #[.int .i64 d,.int .i64 n,.int .u8 x] 109)).alloc (.cells #[.slice a1 511 c1,.slice a2 511 c2] 157)).alloc (.cells #[.slice a3 13 c3,.slice a4 13 c4] 157))
 have HBA:=hid (Bn hb (Bn (Bn b1 b2) b3))
 have HGW:=hid hW.lt
 clear b1 b2 b3 e1 e2 s1 s2 hW hb hu2
 have HNB:Hid (∀(u v:Value) (cs:Array Value) fr,some (Obj.cells #[u,v] 157 (0,0))≠some (.cells cs 5 fr)):=fun u v cs fr e=>by injection e with e;injection e with _ e;cases e
 have HNT:Hid (∀(cs:Array Value) fr,some (Obj.cells #[.int .i64 d,.int .i64 n,.int .u8 x] 109 (0,0))≠some (.cells cs 5 fr)):=fun cs fr e=>by injection e with e;injection e with _ e;cases e
 go_enter Tryz.func106,Tryz.ntmps106
 go_wp2_with fail
 generalize ((w.alloc (.cells #[.int .i64 d,.int .i64 n,.int .u8 x] 109)).alloc (.cells #[.slice a1 511 c1,.slice a2 511 c2] 157)).alloc (.cells #[.slice a3 13 c3,.slice a4 13 c4] 157)=WA at *
 have HSZ:Hid (w.heap.size+1+1<WA.heap.size):=(Array.getElem?_eq_some_iff.1 e3).1
 refine wp_region_held_drew (S:=fun W=>W.heap[w.heap.size]?=some (.cells #[.int .i64 d,.int .i64 n,.int .u8 x] 109 (0,0))∧W.heap[w.heap.size+1]?=some (.cells #[.slice a1 511 c1,.slice a2 511 c2] 157 (0,0))∧W.heap[w.heap.size+1+1]?=some (.cells #[.slice a3 13 c3,.slice a4 13 c4] 157 (0,0))) (by kernel_rfl) ⟨e1',e2',e3⟩ (fun hS=>?_)
 have HWD:=hid HWA.out.drew
 have HBD:=hid HBA.out.drew
 have HFD:=hid HFA.out.drew
 have HSD:Hid (w.heap.size+1+1<WA.drew.heap.size):=HSZ.out
 clear HWA HBA HFA HSZ e1' e2' e3
 generalize WA.drew=wD at *
 refine Ord.tk (i:=0) (d:=9) (v:=?v0) rfl rfl ?h0 hS ?_
 case h0=>intro w hSw;go_simp;try with_reducible rfl
 simp only[Ord.s1,Ord.s2,Ord.s3]
 refine Ord.tk (i:=1) (d:=10) (v:= .agg #[.slice a1 511 c1,.slice a2 511 c2]) rfl rfl ?h1 hS ?_
 case h1=>intro W hW;exact Qf5 rfl rfl (Xcb hW.2.1)
 simp only[Ord.s1,Ord.s2,Ord.s3]
 refine Ord.tk (i:=2) (d:=11) (v:= .agg #[.int .i64 d,.int .i64 n,.int .u8 x]) rfl rfl ?h2 hS ?_
 case h2=>intro W hW;exact Qf5 rfl rfl (Xeg hW.1)
 simp only[Ord.s1,Ord.s2,Ord.s3]
 refine wpAnyH_ready (rs:= [3]) (by as_aux_lemma=>kernel_rfl) (by simp) (AllReadyH.cons rfl (fun K hK=>?_) AllReadyH.nil)
 go_simp
 refine(HSW.out wD).mono ?_
 rintro _ w1 ⟨rfl,hb1⟩
 have hS1:w1.heap[w.heap.size]?=some (.cells #[.int .i64 d,.int .i64 n,.int .u8 x] 109 (0,0))∧w1.heap[w.heap.size+1]?=some (.cells #[.slice a1 511 c1,.slice a2 511 c2] 157 (0,0))∧w1.heap[w.heap.size+1+1]?=some (.cells #[.slice a3 13 c3,.slice a4 13 c4] 157 (0,0)):=
  ⟨(hb1.block _ (by have:=HSD.out;omega)).trans hS.1,(hb1.block _ (by have:=HSD.out;omega)).trans hS.2.1,(hb1.block _ HSD.out).trans hS.2.2⟩
 have HW1:=hid (HWD.out.later hb1)
 have HB1:=hid (Bn HBD.out hb1)
 have HF1:=hid (HFD.out.trans (Fr.of_below hb1))
 have HS1:Hid (w.heap.size+1+1<w1.heap.size):=Nat.lt_of_lt_of_le HSD.out hb1.size
 refine hK.out _ _ hS1 (fun _=>?_)
 clear hK K hb1 HSD HWD HBD HFD hS HSW
 refine wpAnyH_ready (rs:= [4]) (by as_aux_lemma=>kernel_rfl) (by simp) (AllReadyH.cons rfl (fun K hK=>?_) AllReadyH.nil)
 go_simp
 refine(HP1.out w1 HW1.out HB1.out).mono ?_
 rintro _ w2 ⟨rfl,⟨v2,hW2⟩,hb2,hf2⟩
 have hS2:w2.heap[w.heap.size]?=some (.cells #[.int .i64 d,.int .i64 n,.int .u8 x] 109 (0,0))∧w2.heap[w.heap.size+1]?=some (.cells #[.slice a1 511 c1,.slice a2 511 c2] 157 (0,0))∧w2.heap[w.heap.size+1+1]?=some (.cells #[.slice a3 13 c3,.slice a4 13 c4] 157 (0,0)):=by
  have h1:=HS1.out
  have h2:=HGW.out
  refine⟨(hf2.same _ (by omega) (by omega) (by rw[hS1.1];exact HNT.out)).trans hS1.1,(hf2.same _ (by omega) (by omega) (by rw[hS1.2.1];exact HNB.out _ _)).trans hS1.2.1,(hf2.same _ (by omega) (by omega) (by rw[hS1.2.2];exact HNB.out _ _)).trans hS1.2.2⟩
 have HW2:=hid hW2
 have HB2:=hid hb2
 have HF2:=hid (HF1.out.trans hf2)
 have HS2:=hid hS2
 refine hK.out _ _ hS2 (fun _=>?_)
 clear hK K hW2 hb2 hf2 hS1 HW1 HB1 HF1 HS1 HP1 hS2
 refine wpAnyH_done (by as_aux_lemma=>kernel_rfl) ?_ _
 have m0:=Joins.cell_of_block HS2.out.1 0
 simp only[List.getElem?_toArray,List.getElem?_cons_zero] at m0
 rcases hd2 with hd2 | ⟨hd3,hd4⟩
 ·subst hd2
  rw[if_pos rfl] at HTP
  clear HP2 HP3
  go_wp2
  go_end0
  exact⟨rfl,⟨v2,by rw[HTP.out];exact HW2.out⟩,HB2.out,HF2.out⟩
 ·rw[if_neg (by omega)] at HTP
  have HDW:=hid (Qid d w2 hd3 hd4)
  have hdr:=Qgl hd3 hd4
  obtain⟨q,hq⟩:=Int.eq_ofNat_of_zero_le hdr.1
  obtain⟨dn,hdn⟩:=Int.eq_ofNat_of_zero_le (show 0<=d by omega)
  rw[hq] at HDW HTP
  rw[hdn] at HTP
  have hq13:q<13:=by omega
  have hpos:0<d:=by omega
  have hdn2:dn<65536:=by omega
  clear hdr hq
  have p0:=Joins.cell_of_block HS2.out.2.2 0
  have p1:=Joins.cell_of_block HS2.out.2.2 1
  simp only[List.getElem?_toArray,List.getElem?_cons_zero,List.getElem?_cons_succ] at p0 p1
  have HLM:Hid ((Qim ls cs s (L,f)).1.length<=L.length+15):=HLN1.out
  have HC2:=hid (HP2.out q (Qim ls cs s (L,f)).1 (Qim ls cs s (L,f)).2 w2 v2 hq13 HLM.out HW2.out HB2.out)
  have HLQ:=hid (HLN2.out q (Qim ls cs s (L,f)).1 (Qim ls cs s (L,f)).2 HLM.out)
  generalize Qim ls cs s (L,f)=M at *
  obtain⟨M1,M2⟩:=M
  dsimp only at *
  clear HP2 HLN1 HLN2 HLM HW2 HB2
  have HDN:=hid hdn
  have HS3:=hid HS2.out
  clear hdn
  go_wp2_with fail
  go_at_call 130
  refine HDW.out.mono ?_
  rintro _ w3 ⟨rfl,hw⟩
  obtain rfl:=hw.symm
  clear hw HDW m0
  go_wp2_with fail
  go_at_call 134
  refine HC2.out.mono ?_
  rintro _ w4 ⟨rfl,⟨v4,hW4⟩,hb4,hf4⟩
  have h1:w.heap.size+1+1<w2.heap.size:=(Array.getElem?_eq_some_iff.1 HS2.out.2.2).1
  have hX:=(hf4.same w.heap.size (by omega) (by have:=HGW.out;omega) (by rw[HS2.out.1];exact HNT.out)).trans HS2.out.1
  have m0:=Joins.cell_of_block hX 0
  simp only[List.getElem?_toArray,List.getElem?_cons_zero] at m0
  have HF4:=hid (HF2.out.trans hf4)
  have HC3:=hid (HP3.out dn q (Qim ds es q (M1,M2)).1 (Qim ds es q (M1,M2)).2 w4 v4 HLQ.out hdn2 (by omega) hW4 hb4)
  clear hW4 hb4 hf4 h1 hX HC2 HF2 HS2 HS3 p0 p1 HP3
  rw[HDN.out] at m0|-
  go_wp2_with fail
  go_at_call 135
  refine HC3.out.mono ?_
  rintro _ w5 ⟨rfl,hW5,hb5,hf5⟩
  have HW5:=hid hW5
  have HB5:=hid hb5
  have HF5:=hid (HF4.out.trans hf5)
  clear hW5 hb5 hf5 HC3 HF4
  go_wp2
  go_end0
  exact⟨rfl,by rw[HDN.out,HTP.out];exact HW5.out,HB5.out,HF5.out⟩
end
section
open Go.RowKit Hf
structure Fa (g:Nat) (w w':World):Prop where
 size:w.heap.size<=w'.heap.size
 same:∀i,i<w.heap.size->i≠g->w'.heap[i]?=w.heap[i]?
theorem Fa.refl(g:Nat)(w:World):Fa g w w:=⟨Nat.le_refl _,fun _ _ _=>rfl⟩
theorem Fa.trans{g:Nat}{a b c:World}(h:Fa g a b)(k:Fa g b c):Fa g a c:=⟨Nat.le_trans h.size k.size,fun i hi hn=>(k.same i (Nat.lt_of_lt_of_le hi h.size) hn).trans (h.same i hi hn)⟩
theorem Fg.fa{g:Nat}{w w':World}(h:Fg g w w'):Fa g w w':=⟨Nat.le_of_eq h.size.symm,fun i _ hn=>h.same i hn⟩
theorem Fa.alloc(g:Nat)(w:World)(o:Obj):Fa g w (w.alloc o):=⟨by simp,fun i hi _=>Below.heap_alloc w o i hi⟩
theorem Fa.new{g k:Nat}{w w':World}(h:Fa g w w')(hk:w.heap.size<=k)(i:Nat)(x:Value):Fa g w (w'.setCell ⟨k,i,none⟩ x):=
 ⟨by simpa using h.size,fun j hj hn=>(Below.heap_setCell w' ⟨k,i,none⟩ x j (by show j≠k;omega)).trans (h.same j hj hn)⟩
theorem Fa.cell{g:Nat}{w w':World}(h:Fa g w w')(p:Addr)(hp:p.block<w.heap.size)(hn:p.block≠g):w'.cell? p=w.cell? p:=World.cell?_of_block (h.same _ hp hn)
theorem Fa.below{g:Nat}{w w':World}(h:Below w.heap.size w w'):Fa g w w':=⟨h.size,fun i hi _=>h.block i hi⟩
theorem Qjj{w:World}{p:Addr}{x:Value}(h:w.cell? p=some x):p.block<w.heap.size:=by
 unfold World.cell? at h
 by_cases c:p.block<w.heap.size
 ·exact c
 ·have:w.heap[p.block]?=none:=by simpa using c
  simp[this] at h
theorem Th.later{g:Nat}{w w':World}{v:Value}{T:Tr}(h:Th g w v T)(hf:Fa g w w'):Th g w' v T:=by
 obtain⟨gt,cap,h1,h2,h3,h4⟩:=h.ex
 exact⟨gt,cap,h1,h2,h3,fun i b hi hb=>(hf.cell ⟨gt,i*2+b,none⟩ (Qjj (h4 i b hi hb)) h2).trans (h4 i b hi hb)⟩
theorem Rr.keep{w0 w w':World}{g:Nat}{t:TypeId}{tl:List Value}{a:Option Addr}{cap:Nat}{zs:List Int}(h:Rr w0 w g t tl a cap zs)(hg:w'.heap[g]?=w.heap[g]?)(hb:Below w0.heap.size w0 w'):Rr w0 w' g t tl a cap zs:=⟨hg.trans h.blk,h.row,hb,h.ge⟩
theorem Rk.keep{w0 w w':World}{g:Nat}{s:Bst}(h:Rk w0 w g s)(hg:w'.heap[g]?=w.heap[g]?)(hb:Below w0.heap.size w0 w'):Rk w0 w' g s:=by
 obtain⟨h1,h2,a,cap,h3⟩:=h
 exact⟨h1,h2,a,cap,h3.keep hg hb⟩
theorem Rk.bel{w0 w:World}{g:Nat}{s:Bst}(h:Rk w0 w g s):Below w0.heap.size w0 w:=by obtain⟨_,_,_,_,q⟩:=h;exact q.bel
theorem Rk.lt{w0 w:World}{g:Nat}{s:Bst}(h:Rk w0 w g s):g<w.heap.size:=by obtain⟨_,_,_,_,q⟩:=h;exact(Array.getElem?_eq_some_iff.1 q.blk).1
theorem Rk.alloc{w0 w:World}{g:Nat}{s:Bst}(h:Rk w0 w g s)(o:Obj):Rk w0 (w.alloc o) g s:=h.keep (Below.heap_alloc w o g h.lt) (h.bel.alloc h.bel.size o)
theorem Fa.row{g k:Nat}{w w':World}(h:Fa g w w')(hk:w.heap.size<=k)(cs:Array Value):Fa g w (w'.setRow k cs):=
 ⟨by simpa [World.setRow] using h.size,fun j hj hn=>(setRow_other w' k j cs (by omega)).trans (h.same j hj hn)⟩
theorem Rk.row{w0 w:World}{g k:Nat}{s:Bst}(h:Rk w0 w g s)(hk:k≠g)(h0:w0.heap.size<=k)(cs:Array Value):Rk w0 (w.setRow k cs) g s:=h.keep (setRow_other w k g cs (fun e=>hk e.symm)) (below_setRow h.bel h0 cs)
def Qgo:Nat->Nat->Bst->Option (Nat×Bst)
 | 0,d,s=>some (d,s)
 | k+1,d,s=>match Qpr s with
   | none=>none
   | some (b,s')=>Qgo k (2*d+b) s'
def Qyq(T1 T2:Tr)(s:Bst):Option (Tkz×Bst):=
 match Xdw T1 s with
 | none=>none
 | some (x,s1)=>if x<256 then some ((0,1,x),s1) else
   match Xdw T2 s1 with
   | none=>none
   | some (y,s2)=>match Qgo y.toNat 1 s2 with
     | none=>none
     | some (d,s3)=>some (((d:Int),x-252,0),s3)
theorem Xfi(T:Tr)(B:Int)(hB:∀i b,b<2-> -B<=ent T i b):∀f i s x s',Qsk T f i s=some (x,s')->0<=x∧x<B:=by
 intro f
 induction f with
 | zero=>intro i s x s' h;simp[Qsk] at h
 | succ f ih=>
   intro i s x s' h
   rw[Qsk] at h
   cases hb:Qpr s with
   | none=>rw[hb] at h;simp at h
   | some bs=>
     obtain⟨b,s2⟩:=bs
     rw[hb] at h
     dsimp only at h
     by_cases h0:ent T i b=0
     ·rw[if_pos h0] at h;cases h
     ·rw[if_neg h0] at h
      by_cases h1:ent T i b<0
      ·rw[if_pos h1] at h
       simp only[Option.some.injEq,Prod.mk.injEq] at h
       have:=hB i b (Qgw hb).1
       omega
      ·rw[if_neg h1] at h
       exact ih _ _ _ _ h
theorem Qj7(T:Tr)(B:Int)(hB:∀i b,b<2-> -B<=ent T i b)(s:Bst)(x:Int)(s':Bst)(h:Xdw T s=some (x,s')):0<=x∧x<B:=Xfi T B hB _ _ _ _ _ h
def Xax(w0 w:World)(g:Nat)(r:Option (Tkz×Bst))(e:Ending)(w':World):Prop:=
 match r with
 | none=>e= .panicked Qd4∧Fa g w w'∧Below w0.heap.size w0 w'
 | some (t,s')=>e= .returned (.agg (zC t))∧Rk w0 w' g s'∧Fa g w w'
theorem Qzg(w0 w:World)(g:Nat)(s:Bst)(v1 v2:Value)(T1 T2:Tr)(h:Rk w0 w g s)(hT1:Th g w v1 T1)(hk1:Tkk T1)(hT2:Th g w v2 T2)(hk2:Tkk T2)(h13:∀i b,b<2-> -13<=ent T2 i b):
 Calls Tryz.prog 159 #[.pointer (some ⟨g,0,none⟩),v1,v2] w (Xax w0 w g (Qyq T1 T2 s)):=by
 have hgl:=h.lt
 have hw0:=h.bel.size
 have e0:=Qag w (.cells #[.int .i64 0,.int .i64 0,.int .u8 0] 109)
 have HF0:=hid (Fa.alloc g w (.cells #[.int .i64 0,.int .i64 0,.int .u8 0] 109))
 have HS1:=hid (Qr8 w0 (w.alloc (.cells #[.int .i64 0,.int .i64 0,.int .u8 0] 109)) g s v1 T1 (h.alloc _) (hT1.later HF0.out) hk1)
 have HT2:=hid (hT2.later HF0.out)
 have HK2:=hid hk2
 have HR1:=hid (fun x s'=>Qj7 T1 100000 hk1.low s x s')
 have HR2:=hid (fun s x s'=>Qj7 T2 13 h13 s x s')
 clear h hT1 hT2 hk1 hk2 h13
 obtain⟨R,hR⟩:∃R,R=Qyq T1 T2 s:=⟨_,rfl⟩
 rw[<-hR]
 unfold Qyq at hR
 have HR:=hid hR
 clear hR
 go_enter Tryz.func159,Tryz.ntmps159
 go_wp2_with fail
 refine HS1.out.mono ?_
 intro e w1 he
 unfold Qu2 at he
 cases hs1:Xdw T1 s with
 | none=>
   rw[hs1] at he HR
   obtain⟨rfl,h1,h2⟩:=he
   have hR:=HR.out
   dsimp only at hR
   subst hR
   exact⟨rfl,rfl,HF0.out.trans h1.fa,h2⟩
 | some xs=>
   obtain⟨x,s1⟩:=xs
   rw[hs1] at he HR
   obtain⟨rfl,hq1,hf1⟩:=he
   obtain⟨hx0,hx1⟩:=HR1.out x s1 hs1
   have e1:=(hf1.same w.heap.size (by omega)).trans e0
   have c0:=Joins.cell_of_block e1 0
   have c1:=Joins.cell_of_block e1 1
   have c2:=Joins.cell_of_block e1 2
   have u0:=Joins.unfrozen_of_block e1 0
   have u1:=Joins.unfrozen_of_block e1 1
   have u2:=Joins.unfrozen_of_block e1 2
   simp only[List.getElem?_toArray,List.getElem?_cons_zero,List.getElem?_cons_succ] at c0 c1 c2
   dsimp only at HR
   by_cases hx:x<256
   ·rw[if_pos hx] at HR
    obtain⟨n,rfl⟩:=Int.eq_ofNat_of_zero_le hx0
    have hR:=HR.out
    subst hR
    have q59:(Tryz.prog.info? 109).map (·.size)=some (#[Value.int .i64 0,Value.int .i64 1,Value.int .u8 (n:Int)]:Array Value).size:=by kernel_rfl
    have o59:(#[Value.int .i64 0,Value.int .i64 1,Value.int .u8 (n:Int)]:Array Value).all (·.oneCell')=true:=by simp[Value.oneCell']
    go_wp2_with (refine wpList_store_rowTo rfl 109 _ _ rfl rfl w.heap.size #[.int .i64 0,.int .i64 1,.int .u8 (n:Int)] rfl rfl 109 _ e1 q59 rfl o59 ?_)
    refine bodyPost_ret (results_cell_row (p:=6) (ty:=109) rfl _ _ w.heap.size 109 #[.int .i64 0,.int .i64 1,.int .u8 (n:Int)] (0,0) _ rfl (setRow_heap _ _ _ _ _ _ e1) Tryz.underlying109 rfl (by kernel_rfl)) rfl ?_
    exact⟨rfl,hq1.row (by omega) hw0 _,(HF0.out.trans hf1.fa).row (Nat.le_refl _) _⟩
   ·rw[if_neg hx] at HR
    have E1:=hid e1
    have HX0:=hid hx0
    have HX1:=hid hx1
    have HGL:=hid hgl
    have HW0:=hid hw0
    have HQ1:=hid hq1
    have HF1:=hid hf1
    clear c0 c1 c2 u0 u1 u2 e0 e1 hx0 hx1 hgl hw0 hq1 hf1 hs1
    have HS2:=hid (Qr8 w0 w1 g s1 v2 T2 HQ1.out (HT2.out.keep HF1.out) HK2.out)
    have HFA:=hid (HF0.out.trans HF1.out.fa)
    go_wp2_with fail
    refine HS2.out.mono ?_
    intro e w2 he
    unfold Qu2 at he
    cases hs2:Xdw T2 s1 with
    | none=>
      rw[hs2] at he HR
      obtain⟨rfl,h1,h2⟩:=he
      have hR:=HR.out
      dsimp only at hR
      subst hR
      exact⟨rfl,rfl,HFA.out.trans h1.fa,h2⟩
    | some ys=>
      obtain⟨y,s2⟩:=ys
      rw[hs2] at he HR
      obtain⟨rfl,hq2,hf2⟩:=he
      obtain⟨hy0,hy1⟩:=HR2.out s1 y s2 hs2
      obtain⟨m,rfl⟩:=Int.eq_ofNat_of_zero_le hy0
      have hm:m<13:=by omega
      dsimp only at HR
      rw[Int.toNat_natCast] at HR
      have HE2:=hid ((hf2.same w.heap.size (by have:=HGL.out;omega)).trans E1.out)
      have HF2:=hid (HFA.out.trans hf2.fa)
      have HQ2:=hid hq2
      clear hq2 hf2 hs2 hy0 hy1 HS2 HQ1 HF1 HFA E1 HT2
      go_wp2_with fail
      go_loopw [8,20] (fun d i wr=>∃(d' k:Nat) (s':Bst),d= .int .i64 (d':Int)∧i= .int .i64 (k:Int)∧k<=m∧d'<2^(k+1)∧Hid (Rk w0 wr g s')∧Hid (Fa g w wr)∧Hid (wr.heap[w.heap.size]?=some (.cells #[.int .i64 0,.int .i64 0,.int .u8 0] 109 (0,0)))∧Hid (Qgo (m-k) d' s'=Qgo m 1 s2)) (fun _ i _=>m-(intOf i).toNat)
      case atStart=>exact⟨1,0,s2,rfl,rfl,by omega,by decide,HQ2,HF2,HE2,rfl⟩
      case round=>
       obtain⟨d',k,s',rfl,rfl,hk,hd,HQ,HF,HE,HD⟩:=hrel
       clear HQ2 HF2 HE2
       by_cases hlt:k<m
       ·have hki:(k:Int)<(m:Int):=by omega
        have h13:2^(k+1)<=2^13:=Nat.pow_le_pow_right (by decide) (by omega)
        have hd2:d'<8192:=Nat.lt_of_lt_of_le hd h13
        have HB:=hid (Qkq w0 wr g s' HQ.out)
        have HDD:=hid hd
        clear h13 hd
        go_wp2_with fail
        refine HB.out.mono ?_
        intro e w3 he
        unfold Qh4 at he
        have HDR:Hid (Qgo (m-k) d' s'=match Qpr s' with | none=>none | some (b,s'')=>Qgo (m-(k+1)) (2*d'+b) s''):=by
         show _=_
         rw[show m-k=(m-(k+1))+1 from by omega,Qgo]
        cases hb:Qpr s' with
        | none=>
          rw[hb] at he HDR
          obtain⟨rfl,hw⟩:=he
          obtain rfl:=hw.symm
          have hR:=HR.out
          rw[<-HD.out,HDR.out] at hR
          dsimp only at hR
          subst hR
          exact⟨rfl,rfl,HF.out,HQ.out.bel⟩
        | some bs=>
          obtain⟨b,s3⟩:=bs
          rw[hb] at he HDR
          obtain⟨rfl,hq3,hf3⟩:=he
          obtain⟨hb2,_⟩:=Qgw hb
          have hor:bits .or .i64 ((d':Int)*2) (b:Int)=((2*d'+b:Nat):Int):=by
           rw[show(d':Int)*2=((2*d':Nat):Int) from by omega,Qyg (2*d') b (by omega) (by omega)]
           have:=Nat.two_pow_add_eq_or_of_lt (i:=1) (b:=b) (by omega) d'
           rw[Nat.pow_one] at this
           rw[<-this]
          have hpw:2^(k+1+1)=2^(k+1)*2:=Nat.pow_succ ..
          have HPW:Hid (2*d'+b<2^(k+1+1)):=by have:=HDD.out;show _<_;omega
          have HQ3:=hid hq3
          have HF3:=hid (HF.out.trans hf3.fa)
          have HE3:=hid ((hf3.same w.heap.size (by have:=HGL.out;omega)).trans HE.out)
          have HD3:Hid (Qgo (m-(k+1)) (2*d'+b) s3=Qgo m 1 s2):=by have:=HDR.out;rw[HD.out] at this;exact this.symm
          clear hq3 hf3 hpw HDR HD HE HF HQ HB hb hb2 HDD
          obtain⟨dd,hdd⟩:∃n,n=2*d'+b:=⟨_,rfl⟩
          rw[<-hdd] at hor HD3 HPW
          clear hdd
          go_wp2_with fail
          exact⟨⟨dd,k+1,s3,rfl,rfl,by omega,HPW.out,HQ3,HF3,HE3,HD3⟩,by simp only[intOf];omega⟩
       ·have hkm:k=m:=by omega
        subst hkm
        have hxw:wrap64 (x-252)=x-252:=Qit (by have:=HX0.out;omega) (by have:=HX1.out;omega)
        have hR:=HR.out
        rw[<-HD.out,Nat.sub_self,Qgo] at hR
        dsimp only at hR
        subst hR
        have q59:(Tryz.prog.info? 109).map (·.size)=some (#[Value.int .i64 (d':Int),Value.int .i64 (x-252),Value.int .u8 0]:Array Value).size:=by kernel_rfl
        have o59:(#[Value.int .i64 (d':Int),Value.int .i64 (x-252),Value.int .u8 0]:Array Value).all (·.oneCell')=true:=by simp[Value.oneCell']
        go_wp2_with (refine wpList_store_rowTo rfl 109 _ _ rfl rfl w.heap.size #[.int .i64 (d':Int),.int .i64 (x-252),.int .u8 0] rfl rfl 109 _ HE.out q59 rfl o59 ?_)
        refine bodyPost_ret (results_cell_row (p:=6) (ty:=109) rfl _ _ w.heap.size 109 #[.int .i64 (d':Int),.int .i64 (x-252),.int .u8 0] (0,0) _ rfl (setRow_heap _ _ _ _ _ _ HE.out) Tryz.underlying109 rfl (by kernel_rfl)) rfl ?_
        exact⟨rfl,HQ.out.row (by have:=HGL.out;omega) HW0.out _,HF.out.row (Nat.le_refl _) _⟩
end
section
open Go.RowKit
theorem Qs2(n:Nat)(hn:n<4294967296):bits .and .u64 (n:Int) 4294967295=(n:Int):=by
 rw[show(4294967295:Int)=((4294967295:Nat):Int) from rfl,u64_and_nat n 4294967295 (by omega) (by omega)]
 have:=Nat.and_two_pow_sub_one_of_lt_two_pow (x:=n) (n:=32) (by omega)
 rw[show 2^32-1=4294967295 from rfl] at this
 rw[this]
theorem Qyk(n:Nat)(hn:n<=100000)(w:World):Calls Tryz.prog 181 #[.int .u64 1,.int .u64 (n:Int)] w fun e w'=>e= .returned (.tuple #[.int .u64 0,.int .u64 (n:Int)])∧w'=w:=by
 have h1:=Qs2 n (by omega)
 have h2:bits .and .u64 1 4294967295=1:=Qs2 1 (by decide)
 have h3:(n:Int)/2^32=0:=by omega
 have h4:(n:Int)/4294967296=0:=by omega
 have h5:bits .and .u64 0 4294967295=0:=Qs2 0 (by decide)
 go_enter Tryz.func181,Tryz.ntmps181
 go_wp2
 go_ret2
 exact⟨rfl,rfl⟩
theorem Xfy(n:Nat)(hn:n<=100000)(w:World):Calls Tryz.prog 177 #[.int .u64 1,.int .u64 (n:Int)] w fun e w'=>e= .returned (.tuple #[.int .u64 0,.int .u64 (n:Int)])∧w'=w:=by
 have HM:=hid (Qyk n hn w)
 go_enter Tryz.func177,Tryz.ntmps177
 go_wp2_with fail
 refine HM.out.mono ?_
 rintro _ w1 ⟨rfl,hw⟩
 obtain rfl:=hw.symm
 clear HM hw
 go_wp2_with fail
 go_ret2
 exact⟨rfl,rfl⟩
def Qtt(z:Int)(n k:Nat):List Int:=List.replicate k z++List.replicate (n-k) 0
theorem Qlk(z:Int)(n k:Nat)(h:k<=n):(Qtt z n k).length=n:=by simp[Qtt];omega
theorem Qz0(z:Int)(n:Nat):Qtt z n n=List.replicate n z:=by simp[Qtt]
theorem Qlg(z:Int)(n k m:Nat):splice ((Qtt z n k).map (Value.int .i64)) k (List.replicate m (Value.int .i64 z))=(Qtt z n (k+m)).map (Value.int .i64):=by
 unfold splice Qtt
 simp only[List.map_append,List.map_replicate,List.length_replicate]
 rw[List.take_append_of_le_length (by simp),List.take_of_length_le (by simp),List.drop_append,List.drop_of_length_le (by simp),List.nil_append,List.drop_replicate]
 rw[<-List.append_assoc,List.replicate_append_replicate]
 congr 2
 simp
 omega
theorem Quu(g n:Nat)(z:Int)(w:World)(hc:w.cell? ⟨g,0,none⟩=some (.int .i64 z))(hn:n<=1000):
 Calls Tryz.prog 170 #[.slice (some ⟨g,0,none⟩) 1 1,.int .i64 (n:Int)] w fun e w'=>e= .returned (.slice (some ⟨w.heap.size,0,none⟩) n n)∧w'.heap[w.heap.size]?=some (.cells ((List.replicate n z).map (Value.int .i64)).toArray 3 (0,0))∧Below w.heap.size w w':=by
 obtain⟨i0,hi,hz0,hz1,hz2⟩:=info_parts Tryz.info3'
 have HM:=hid (Xfy n (by omega) w)
 have HC:=hid hc
 have hnn:¬(n:Int)<0:=by omega
 have hbig:(n:Int)<18446744073709551616:=by omega
 have HGL:=hid (Qjj hc)
 have HN:=hid hn
 clear hc hn
 go_enter Tryz.func170,Tryz.ntmps170
 go_wp2_with fail
 refine HM.out.mono ?_
 rintro _ w1 ⟨rfl,hw⟩
 obtain rfl:=hw.symm
 clear HM hw
 clear hbig hnn
 have hb9:decide ((9223372036854775807:Int)<(n:Int))=false:=by have:=HN.out;simp;omega
 have hb8:decide ((9223372036854775807:Nat)<n)=false:=by have:=HN.out;simp;omega
 have hb7:wrap64 (n:Int)=(n:Int):=by have:=HN.out;exact Qit (by omega) (by omega)
 go_wp2_with (at_make;refine wpList_make_full _ rfl _ _ 112 rfl w.heap.size 3 i0 (.int .i64 0) 1 Tryz.underlying112 hi hz0 hz1 .i64 .i64 _ _ n rfl rfl (by have:=HN.out;first | rfl | omega) (by have:=HN.out;first | rfl | omega) ?b2 ?b3 ?b4 ?_)
 case b2=>have:=HN.out;rw[hz2];omega
 case b3=>have:=HN.out;unfold maxLen;omega
 case b4=>exact Nat.le_refl _
 intro w2 hown0 hgrow
 have HB2:Hid (Below w.heap.size w w2):=(Below.refl _ _).grown hgrow (Nat.le_refl _) (fun k hk=>by cases hk)
 have HG2:Hid (w2.heap[w.heap.size]?=some (.cells ((Qtt z n 0).map (Value.int .i64)).toArray 3 (0,0))):=by
  rw[toList_madeCells_one] at hown0
  rcases hown0.2 with ⟨h,_⟩ | ⟨g',cap',cur,h1,_,h3,_,_,h6,h7⟩
  ·cases h
  ·simp only[Value.slice.injEq,Option.some.injEq,Addr.mk.injEq] at h1
   obtain⟨⟨rfl,_,_⟩,_,rfl⟩:=h1
   show _=_
   rw[h3]
   have e:cur=((Qtt z n 0).map (Value.int .i64)).toArray:=by
    apply Array.toList_inj.1
    rw[List.take_of_length_le (by rw[Array.length_toList,h6];exact Nat.le_refl _)] at h7
    rw[h7]
    simp[Qtt]
   rw[e]
 have HC2:Hid (w2.cell? ⟨g,0,none⟩=some (.int .i64 z)):=(HB2.out.cell (p:=⟨g,0,none⟩) HGL.out).trans HC.out
 clear hown0 hgrow
 obtain⟨k0,hk0⟩:∃k,k=Nat.min 1 n:=⟨_,rfl⟩
 have hk1:k0<=n:=by rw[hk0];exact Nat.min_le_right _ _
 have hk2:k0=0->n=0:=by rw[hk0];intro h;unfold Nat.min at h;omega
 have hk3:k0<=1:=by rw[hk0];exact Nat.min_le_left _ _
 have HCC1:Hid ((List.replicate k0 (Value.int .i64 z)).length=Nat.min 1 n):=by show _=_;rw[List.length_replicate,hk0]
 have HCC2:Hid (0<(List.replicate k0 (Value.int .i64 z)).length->(some (⟨w.heap.size,0,none⟩:Addr))=some ⟨w.heap.size,0,none⟩∧∃ad,(some (⟨g,0,none⟩:Addr))=some ad∧∀j v,(List.replicate k0 (Value.int .i64 z))[j]?=some v->w2.cell? (ad.add j)=some v):=by
  intro hp
  refine⟨rfl,_,rfl,fun j v hj=>?_⟩
  rw[List.getElem?_replicate] at hj
  split at hj
  ·have:j=0:=by omega
   subst this
   rw[Go.WideShapes.add_plain,<-hj]
   exact HC2.out
  ·cases hj
 have HCC3:Hid (0+(List.replicate k0 (Value.int .i64 z)).length<=((Qtt z n 0).map (Value.int .i64)).length):=by
  show _<=_
  rw[List.length_replicate,List.length_map,Qlk z n 0 (by omega)];omega
 have HCC4:Hid (∀v∈List.replicate k0 (Value.int .i64 z),v.oneCell'=true):=by intro v hv;rw[List.eq_of_mem_replicate hv];rfl
 have HK0:=hid hk0
 have HK2:=hid hk2
 clear hk0 hk2
 go_wp2_with (refine wpList_copy_splice rfl _ _ 112 112 rfl 3 Tryz.underlying112 (by kernel_rfl) (some ⟨w.heap.size,0,none⟩) (some ⟨g,0,none⟩) n n 1 1 rfl rfl w.heap.size 0 ((Qtt z n 0).map (Value.int .i64)) 3 HG2.out (List.replicate k0 (.int .i64 z)) HCC1.out HCC2.out HCC3.out HCC4.out w.heap.size w HB2.out (Nat.le_refl _) ?_)
 intro w3 HG3 hB3
 rw[Qlg z n 0 k0,Nat.zero_add] at HG3
 have HB3:=hid hB3
 clear HG2 HB2 HC2 hB3 HC HCC1 HCC2 HCC3 HCC4
 go_wp2_with fail
 go_loopw [8] (fun x wr=>∃k:Nat,x= .int .i64 (k:Int)∧k<=n∧Hid (k=0->n=0)∧Hid (wr.heap[w.heap.size]?=some (.cells ((Qtt z n k).map (Value.int .i64)).toArray 3 (0,0)))∧Hid (Below w.heap.size w wr)) (fun x _=>n-(intOf x).toNat)
 case atStart=>exact⟨k0,rfl,hk1,HK2,HG3,HB3⟩
 case round=>
  obtain⟨k,rfl,hk,HK,HG,HB⟩:=hrel
  clear HG3 HB3 HK2 HK0 hk3
  by_cases hlt:k<n
  ·have hki:(k:Int)<(n:Int):=by omega
   have hkl:(k:Int)<=(n:Int):=by omega
   have hk0:¬(k:Int)<0:=by omega
   have hnk:¬n=k:=by omega
   go_wp2_with fail
   refine wp_region_held_drew (S:=fun _=>True) (by kernel_rfl) trivial (fun hS=>?_)
   refine Ord.tk (i:=0) (d:=38) (v:=?v0) rfl rfl ?h0 trivial ?_
   case h0=>intro w hSw;go_simp;try with_reducible rfl
   simp only[Ord.s1,Ord.s2,Ord.s3]
   refine Ord.tk (i:=1) (d:=39) (v:=?v1) rfl rfl ?h1 trivial ?_
   case h1=>intro w hSw;go_simp;try with_reducible rfl
   simp only[Ord.s1,Ord.s2,Ord.s3]
   refine Ord.tk (i:=2) (d:=40) (v:=?v2) rfl rfl ?h2 trivial ?_
   case h2=>intro w hSw;go_simp;try with_reducible rfl
   simp only[Ord.s1,Ord.s2,Ord.s3]
   refine Ord.tk (i:=3) (d:=41) (v:=?v3) rfl rfl ?h3 trivial ?_
   case h3=>intro w hSw;go_simp;try with_reducible rfl
   simp only[Ord.s1,Ord.s2,Ord.s3]
   refine Ord.tk (i:=4) (d:=42) (v:=?v4) rfl rfl ?h4 trivial ?_
   case h4=>intro w hSw;go_simp;try with_reducible rfl
   simp only[Ord.s1,Ord.s2,Ord.s3]
   refine Ord.tk (i:=5) (d:=43) (v:=?v5) rfl rfl ?h5 trivial ?_
   case h5=>intro w hSw;go_simp;try with_reducible rfl
   simp only[Ord.s1,Ord.s2,Ord.s3]
   refine Ord.tk (i:=6) (d:=44) (v:=?v6) rfl rfl ?h6 trivial ?_
   case h6=>intro w hSw;go_simp;try with_reducible rfl
   simp only[Ord.s1,Ord.s2,Ord.s3]
   obtain⟨m,hm⟩:∃m,m=Nat.min k (n-k):=⟨_,rfl⟩
   have hmn:k+m<=n:=by have h:Nat.min k (n-k)<=n-k:=Nat.min_le_right k (n-k);rw[<-hm] at h;omega
   have hm0:0<m:=by have hk':¬k=0:=fun e=>by have:=HK.out e;omega
                    rw[hm];exact Nat.lt_min.2 ⟨by omega,by omega⟩
   have hmk:m<=k:=by rw[hm];exact Nat.min_le_left _ _
   have hG:=HG.out
   have HBD:=hid HB.out.drew
   refine wpAnyH_ready (rs:= [7]) (by as_aux_lemma=>kernel_rfl) (by simp) (AllReadyH.cons rfl (fun K hK=>?_) AllReadyH.nil)
   refine step_copy_splice rfl _ _ 112 112 rfl 3 Tryz.underlying112 (by kernel_rfl) (some ⟨w.heap.size,k,none⟩) (some ⟨w.heap.size,0,none⟩) (n-k) (n-k) k n rfl rfl w.heap.size k ((Qtt z n k).map (Value.int .i64)) 3 hG (List.replicate m (.int .i64 z)) ?c1 ?c2 ?c3 ?c4 w.heap.size w HBD.out (Nat.le_refl _) ?_
   case c1=>rw[List.length_replicate,hm]
   case c2=>
    intro _
    refine⟨rfl,_,rfl,fun j v hj=>?_⟩
    rw[List.getElem?_replicate] at hj
    split at hj
    ·rename_i hjm
     rw[Go.WideShapes.add_plain,Nat.zero_add,<-hj]
     refine(Joins.cell_of_block (w:=wr.drew) hG j).trans ?_
     simp only[List.getElem?_toArray,Qtt,List.map_append,List.map_replicate]
     rw[List.getElem?_append_left (by simp;omega),List.getElem?_replicate,if_pos (by omega)]
    ·cases hj
   case c3=>rw[List.length_replicate,List.length_map,Qlk z n k hk];exact hmn
   case c4=>intro v hv;rw[List.eq_of_mem_replicate hv];rfl
   intro w4 HG4 hB4
   rw[Qlg z n k m] at HG4
   have HB4:=hid hB4
   refine hK.out _ _ trivial (fun _=>?_)
   clear hK K hG HBD hB4
   have HM2:=hid hm
   clear hm
   refine Ord.tk (i:=8) (d:=46) (v:=?v8) rfl rfl ?h8 trivial ?_
   case h8=>intro w hSw;go_simp;try with_reducible rfl
   simp only[Ord.s1,Ord.s2,Ord.s3]
   refine Ord.tk (i:=9) (d:=8) (v:=?v9) rfl rfl ?h9 trivial ?_
   case h9=>intro w hSw;go_simp;try with_reducible rfl
   simp only[Ord.s1,Ord.s2,Ord.s3]
   refine wpAnyH_done (by as_aux_lemma=>kernel_rfl) ?_ _
   go_wp2_with fail
   have hwr:IntKind.i64.wrap ((k:Int)+(m:Int))=((k+m:Nat):Int):=by
    have:=HN.out
    rw[IntWalk.i64_in _ ⟨by omega,by omega⟩];omega
   rw[hwr]
   exact⟨⟨k+m,rfl,hmn,fun h=>by omega,HG4,HB4⟩,by simp only[intOf];omega⟩
  ·have:k=n:=by omega
   subst this
   go_wp2_with fail
   go_ret
   have hG:=HG.out
   rw[Qz0] at hG
   exact⟨rfl,hG,HB.out⟩
end
end Go.Proofs.YtibjlbcnapoblaaGreatDoor
