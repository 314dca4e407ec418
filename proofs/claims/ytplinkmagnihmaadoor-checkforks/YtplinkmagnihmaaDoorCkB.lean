/-
  A mark's bytes but for its MAC: the contract of check's body.
-/
import Derived.Test.YtplinkmagnihmaaDoorShJe
import Derived.Test.YtplinkmagnihmaaDoorCkA
namespace Go.Proofs.YtplinkmagnihmaaDoor
open Go.ChangeShapes Go.WideShapes Go.ChangeAt Go.RowKit Go.Deep Go.Lib
def bodB(m:Mrk):List Int:=(([77,m.1]++vint m.2.1.1)++vint m.2.1.2.1)++m.2.1.2.2
structure Wm (w W:World) (m:Mrk) (v:Value) (A:List Int):Prop where
 own:W.ownsRow (w.heap.size+1) 5 1 v A.length (A.map (Value.int .u8))
 box:W.heap[w.heap.size]?=some (.cells (mkV m).toArray 45)
 bel:Below w.heap.size w W
theorem Wm.ge{w W:World}{m:Mrk}{v:Value}{A:List Int}(h:Wm w W m v A):w.heap.size+1<=W.heap.size:=blk_lt h.box
theorem Wm.later{w W W':World}{m:Mrk}{v:Value}{A:List Int}(h:Wm w W m v A)(hb:Below W.heap.size W W'):Wm w W' m v A:=⟨own_later h.own hb,blk_later h.box hb,Bn h.bel hb⟩
theorem Wm.app{w W W':World}{m:Mrk}{v v':Value}{A Z:List Int}(h:Wm w W m v A)(ho:W'.ownsRow (w.heap.size+1) 5 1 v' (A++Z).length ((A++Z).map (Value.int .u8)))(hb:Below (w.heap.size+1) W W'):Wm w W' m v' (A++Z):=
 ⟨ho,(hb.block _ (Nat.lt_succ_self _)).trans h.box,h.bel.trans (hb.mono (Nat.le_succ _))⟩
theorem Wm.start(w:World)(m:Mrk)(x y:Int):Wm w ((w.alloc (.cells (mkV m).toArray 45)).alloc (.cells #[.int .u8 x,.int .u8 y] 5)) m (.slice (some ⟨w.heap.size+1,0,none⟩) 2 2) [x,y]:=by
 have s:(w.alloc (.cells (mkV m).toArray 45)).heap.size=w.heap.size+1:=by simp
 refine⟨⟨rfl,.inr ⟨w.heap.size+1,2,#[.int .u8 x,.int .u8 y],rfl,Nat.le_refl _,?_,Nat.le_refl _,by unfold maxLen;omega,rfl,rfl⟩⟩,heap_old _ _ (heap_alc w _),Bn (bel_alc _ _) (bel_alc _ _)⟩
 have:=heap_alc (w.alloc (.cells (mkV m).toArray 45)) (.cells #[.int .u8 x,.int .u8 y] 5)
 rw[s] at this
 exact this
theorem mk_ri{w:World}{b o:Nat}{m:Mrk}(hb:b<w.heap.size)(h:w.rangeAt b o (mkV m))(hk:HOk m.2.1):Ri w .u8 (some ⟨b,o+3,none⟩) 32 m.2.1.2.2:=
 ⟨by rw[hk.len];omega,by unfold maxLen;omega,fun _=>⟨b,o+3,rfl,hb,fun j hj=>by
  have:=hd_chain (mk_hd h) j (.int .u8 (m.2.1.2.2.getD j 0)) (by rw[List.getElem?_map,List.getElem?_eq_getElem hj];simp[List.getD,List.getElem?_eq_getElem hj])
  rw[show o+3+j=o+1+2+j from by omega]
  exact this⟩,hk.u8⟩
theorem may_parts2{m:Mrk}(h:mayM m=true):(0<=m.1∧m.1<=1)∧(0<=m.2.1.1∧m.2.1.1<=1073741824)∧(0<=m.2.1.2.1∧m.2.1.2.1<=1073741824):=by
 unfold mayM headB at h
 rw[Bool.and_eq_true,Bool.or_eq_true,Bool.or_eq_true,Bool.and_eq_true,decide_eq_true_eq,decide_eq_true_eq,decide_eq_true_eq,decide_eq_true_eq,decide_eq_true_eq] at h
 obtain⟨h1,h2⟩:=h
 refine⟨by omega,?_⟩
 rcases h2 with h2 | h2
 ·rw[h2]
  unfold hdZ
  simp
 ·omega
set_option maxHeartbeats 3200000 in
set_option maxRecDepth 100000 in
theorem body_word(m:Mrk)(w:World)(h:MOk m)(hm:mayM m=true):
 Calls Tryd.prog 50 #[.agg (mkV m).toArray] w fun e w'=>∃v,e= .returned v∧w'.ownsRow w.heap.size 5 1 v (bodB m).length ((bodB m).map (Value.int .u8))∧Below w.heap.size w w':=by
 obtain⟨⟨hs0,hs1⟩,⟨hn0,hn1⟩,⟨hk0,hk1⟩⟩:=may_parts2 hm
 have H0:=hid (Wm.start w m 77 m.1)
 have HV1:=hid (fun V=>varint_ri m.2.1.1 V (by omega) (by omega))
 have HV2:=hid (fun V=>varint_ri m.2.1.2.1 V (by omega) (by omega))
 have HL1:=hid (vint10 m.2.1.1)
 have HL2:=hid (vint10 m.2.1.2.1)
 have HMO:=hid h
 have hbx:=heap_alc w (.cells (mkV m).toArray 45)
 have c0:=mk_site (blk_range hbx)
 have r1:=mk_hd (blk_range H0.out.box)
 have c1:=hd_seq r1
 clear h hm hbx r1
 obtain⟨BB,hBB⟩:∃BB,BB=bodB m:=⟨_,rfl⟩
 rw[<-hBB]
 have HBB:Hid ((([77,m.1]++vint m.2.1.1)++vint m.2.1.2.1)++m.2.1.2.2=BB):=hBB.symm
 clear hBB
 obtain⟨s,hs⟩:∃s,s=m.1:=⟨_,rfl⟩
 obtain⟨n,hn⟩:∃n,n=m.2.1.1:=⟨_,rfl⟩
 obtain⟨k,hk⟩:∃k,k=m.2.1.2.1:=⟨_,rfl⟩
 rw[<-hs] at hs0 hs1 c0 H0 c1 HBB
 rw[<-hn] at hn0 hn1 HV1 HL1 c1 HBB
 rw[<-hk] at hk0 hk1 HV2 HL2 HBB
 have HKK:=hid hk
 clear hs hn hk
 go_enter Tryd.func50,Tryd.ntmps50
 go_wp2_with fail
 refine(HV1.out _).mono ?_
 rintro _ W1 ⟨a1,c1',rfl,hr1,hb1⟩
 have H1:=hid (H0.out.later hb1)
 have R1:=hid hr1
 clear hr1 hb1 H0 HV1 c0 c1
 go_wp2_with (at_builtin;refine own_app _ rfl _ _ rfl (w.heap.size+1) _ [77,s] rfl H1.out.own a1 c1' (vint n) rfl R1.out (by have:=HL1.out;simp;omega) H1.out.ge ?_)
 intro v2 W2 ho2 hb2
 have H2:=hid (H1.out.app (Z:=vint n) (by simpa using ho2) hb2)
 have c2:=hd_epoch (mk_hd (blk_range H2.out.box))
 rw[<-HKK.out] at c2
 clear ho2 hb2 H1 R1
 generalize hA2: [77,s]++vint n=A2 at *
 have HA2:=hid hA2
 have HN2:Hid (A2.length<=12):=by show _<=_;rw[<-hA2];have:=HL1.out;simp;omega
 clear hA2
 go_wp2_with fail
 refine(HV2.out _).mono ?_
 rintro _ W3 ⟨a3,c3,rfl,hr3,hb3⟩
 have H3:=hid (H2.out.later hb3)
 have R3:=hid hr3
 clear hr3 hb3 H2 HV2 c2
 go_wp2_with (at_builtin;refine own_app _ rfl _ _ rfl (w.heap.size+1) _ A2 rfl H3.out.own a3 c3 (vint k) rfl R3.out (by have:=HL2.out;have:=HN2.out;omega) H3.out.ge ?_)
 intro v4 W4 ho4 hb4
 have H4:=hid (H3.out.app (Z:=vint k) (by simpa using ho4) hb4)
 have R4:=hid (mk_ri (blk_lt H4.out.box) (blk_range H4.out.box) HMO.out.hd)
 have HPL:=hid HMO.out.hd.len
 clear ho4 hb4 H3 R3
 generalize hA4:A2++vint k=A4 at *
 have HA4:=hid hA4
 have HN4:Hid (A4.length<=22):=by show _<=_;rw[<-hA4];have:=HL2.out;have:=HN2.out;simp;omega
 clear hA4
 go_wp2_with (at_builtin;refine own_app _ rfl _ _ rfl (w.heap.size+1) _ A4 rfl H4.out.own (some ⟨w.heap.size,3,none⟩) 32 m.2.1.2.2 (by rw[HPL.out];rfl) R4.out (by have:=HPL.out;have:=HN4.out;omega) H4.out.ge ?_)
 intro v5 W5 ho5 hb5
 have H5:=hid (H4.out.app (Z:=m.2.1.2.2) (by simpa using ho5) hb5)
 clear ho5 hb5 H4 R4
 go_wp2
 go_ret
 have HE:A4++m.2.1.2.2=BB:=HBB.out
 rw[<-HE]
 exact⟨_,rfl,own_base H5.out.own (Nat.le_succ _),H5.out.bel⟩
theorem bodB_len{m:Mrk}(h:MOk m):(bodB m).length<=54:=by
 unfold bodB
 have h1:=vint10 m.2.1.1
 have h2:=vint10 m.2.1.2.1
 rw[List.length_append,List.length_append,List.length_append,h.hd.len]
 simp
 omega
theorem bodB_u8{m:Mrk}(h:MOk m)(hm:mayM m=true):∀z∈bodB m,(Lit.int .u8 z).wf=true:=by
 obtain⟨⟨hs0,hs1⟩,⟨hn0,hn1⟩,⟨hk0,hk1⟩⟩:=may_parts2 hm
 unfold bodB
 refine app_u8 (app_u8 (app_u8 (fun z hz=>?_) (vint_mem _ hn0 (by omega))) (vint_mem _ hk0 (by omega))) (mem_u8 h.hd.u8)
 rcases List.mem_cons.1 hz with rfl | hz
 ·exact wf_mk_u8 (by omega) (by omega)
 ·rw[List.mem_singleton.1 hz];exact wf_mk_u8 (by omega) (by omega)
end Go.Proofs.YtplinkmagnihmaaDoor
