/- Contracts and facts. -/
import Derived.Test.YtibjlbcnapoblaaGreatDoorPart36
namespace Go.Proofs.YtibjlbcnapoblaaGreatDoor
set_option maxRecDepth 100000
set_option maxHeartbeats 6400000
section
open Go.RowKit Hf Lz
theorem Qvj{w:World}{a:Option Addr}{cap:Nat}{l:List Tkz}(hr:Rt w a cap l)(hn:l.length<=65536)(hz:(Qcd l).2=0):∀j,0<=(Qb2 l).getD j 0∧(Qb2 l).getD j 0<=255:=by
 obtain⟨e,w',_,⟨_,h⟩,_⟩:=Qoa a cap l w hr hn []
 rw[if_pos hz] at h
 obtain⟨a',c',_,h2⟩:=h
 exact fun j=>wf_u8 (h2.fits j)
theorem Xcj{w:World}{a:Option Addr}{cap:Nat}{l:List Tkz}(hr:Rt w a cap l)(hn:l.length<=20000)(hz:(Qcd l).2=0):(Qb2 l).length<=200000:=by
 have htok:∀j,j<l.length->((l.getD j tk0).1=0∨1<=(l.getD j tk0).1)∧(l.getD j tk0).1<=4096:=fun j hj=>by
  have h8:=wf_u8 (hr.fits j hj).2.2
  rcases Qf9 (Qgv hz j hj) h8 with h | h
  ·exact⟨Or.inl h.1,by omega⟩
  ·exact⟨Or.inr h.1,h.2.1⟩
 have hd:=Xbs l (fun j hj=>(htok j hj).1) (Qvj hr (by omega) hz)
 have hKL:(Qev (Qau l l.length)).length=511:=by rw[Qa5,Qa7]
 have hDL:(Qev (Qar l l.length)).length=13:=by rw[Qa5,Qa2]
 have hKA:=Qe2 (Qau l l.length) (by rw[Qa7];omega) (fun j=>by have:=Qe6 l l.length j;omega)
 have hDA:=Qe2 (Qar l l.length) (by rw[Qa2];omega) (fun j=>by have:=Qec l l.length j;omega)
 have hKS:(lsF l).length=(Qev (Qau l l.length)).length∧Qaq (lsF l)=true:=Qfk (Qev (Qau l l.length)) (by omega) (Qc3 hKA).2
 have hDS:(dsF l).length=(Qev (Qar l l.length)).length∧Qaq (dsF l)=true:=Qfk (Qev (Qar l l.length)) (by omega) (Qc3 hDA).2
 have h1:=Qhe (lsF l) (by omega)
 have h2:=Qhe (dsF l) (by omega)
 have h3:=Qkd (l.length:Int) (by omega) (by omega)
 have h4:=Qou (lsF l) (dsF l) (fun j=>((Qd7 hKS.2).2 j).2) (fun j=>((Qd7 hDS.2).2 j).2) l (fun j hj=>(htok j hj).2) l.length (Nat.le_refl _)
 rw[<-hd]
 unfold Qfq Qpp
 rw[List.length_append,List.length_append,List.length_append,Qbh]
 omega
theorem Xc7(w:World)(x:Int):(w.alloc (.cells #[.int .u8 x] 5)).ownsRow w.heap.size 5 1 (.slice (some ⟨w.heap.size,0,none⟩) 1 1) [x].length ([x].map (Value.int .u8)):=
 ⟨rfl,.inr ⟨w.heap.size,1,#[.int .u8 x],rfl,Nat.le_refl _,Qag w _,Nat.le_refl _,by unfold maxLen;omega,rfl,rfl⟩⟩
theorem Xe7(a:Option Addr)(cap:Nat)(bs:List Int)(w:World)(hr:Ri w .u8 a cap bs)(hn:bs.length<=4200):
 Calls Tryz.prog 29 #[.slice a bs.length cap] w (Qgb bs w):=by
 have HTK:=hid (Qx4 a cap bs w hr)
 have hO:Qm4 bs=(Qgh bs,0):=by unfold Qm4;rw[if_neg (by omega)]
 have HFT:=hid (Qut bs hr.fits)
 have HTS:=hid (Qk7 bs (by omega))
 have HR:=hid hr
 have hu8:∀j,0<=bs.getD j 0∧bs.getD j 0<=255:=fun j=>wf_u8 (hr.fits j)
 have HU:=hid hu8
 unfold Qga at HTK
 rw[hO] at HTK HFT
 clear hr hu8
 unfold Qgb Qb6
 obtain⟨len,hl⟩:∃n,n=bs.length:=⟨_,rfl⟩
 have HL:=hid hl
 rw[<-hl] at HTK hn|-
 obtain⟨l,hll⟩:∃l,l=(Qgh bs).map toZ:=⟨_,rfl⟩
 have HLL:=hid hll
 rw[<-hll] at HTS|-
 clear hl hll hO
 generalize hE:(if (Qb2 l).length<len then Qgi 1 len (Qb2 l) else Qgi 0 len bs)=E
 have HE:=hid hE
 clear hE
 have HVL:=hid (Qkd (len:Int) (by omega) (by omega))
 have HVU:=hid (Qhs (len:Int) (by omega) (by omega))
 go_enter Tryz.func29,Tryz.ntmps29
 go_wp2_with fail
 refine HTK.out.mono ?_
 rintro _ w1 ⟨v,rfl,ho,hb⟩
 obtain⟨a1,c1,rfl,hrt⟩:=Rt.own ho HFT.out
 have HB1:=hid hb
 rw[<-HLL.out] at hrt
 have HRT:=hid hrt
 have e1:(Qgh bs).length=l.length:=by rw[HLL.out,List.length_map]
 have hl2:l.length<=20000:=by have:=HTS.out.1;have:=HL.out;omega
 have HPK:Hid (∀V,Below w1.heap.size w1 V->Calls Tryz.prog 47 #[.slice a1 l.length c1] V (Qk0 l V)):=fun V hV=>Xcg a1 c1 l V (HRT.out.later hV) hl2 (fun hz=>Qvj HRT.out (by omega) hz)
 have HPL:=hid (Xcj hrt hl2 HTS.out.2)
 unfold Qk0 at HPK
 rw[HTS.out.2] at HPK
 dsimp only
 rw[e1]
 clear hb hrt ho e1 HTK HFT hl2 HRT
 generalize l.length=ll at *
 go_wp2_with fail
 refine(Qpl (len:Int) w1 (by omega) (by omega)).mono ?_
 rintro _ w2 ⟨x2,y2,rfl,hr2,hb2⟩
 have HB2:=hid hb2
 have HR2:=hid hr2
 have HRB:=hid (HR.out.later (Bn HB1.out hb2))
 clear hb2 hr2
 have HO3:=hid (Xc7 w2 0)
 have HA3:=hid (Qab w2 (.cells #[.int .u8 0] 5))
 have HCD:Hid (∀f:Nat,∀z,Qgi f len z= [(f:Int)]++Qe0 (len:Int)++z):=fun f z=>rfl
 generalize Qe0 (len:Int)=VI at *
 have HR3:=hid (HR2.out.later HA3.out)
 have h3:=HA3.out.size
 go_wp2_with (at_builtin;refine Qch _ rfl _ _ rfl w2.heap.size _ [0] rfl HO3.out x2 y2 VI rfl HR3.out (by have:=HVL.out;simp;omega) h3 ?_)
 intro v4 w4 ho4 hg4
 have HB4:=hid (HA3.out.grown hg4 h3 (fun j hj=>(HO3.out.lt j hj).1))
 have HO4:Hid (w4.ownsRow w2.heap.size 5 1 v4 ([0]++VI).length (([0]++VI).map (Value.int .u8))):=by
  show World.ownsRow _ _ _ _ _ _ _
  first | exact ho4 | (simp only[List.length_append,List.map_append,List.length_cons,List.length_nil,List.map_cons,List.map_nil] at ho4|-;exact ho4) | simpa [Nat.add_comm] using ho4
 have HRB4:=hid (HRB.out.later HB4.out)
 have h4:=HB4.out.size
 have HLN4:Hid (([0]++VI).length+bs.length<=10000000):=by show _<=_;have:=HVL.out;have:=HL.out;simp;omega
 rw[<-HL.out] at HLN4
 clear ho4 hg4 HO3 HA3 HR3 h3
 generalize hX0: [0]++VI=X0 at *
 have HX0:=hid hX0
 clear hX0
 have HL2:=HL
 go_wp2_with (at_builtin;refine Qch _ rfl _ _ rfl w2.heap.size _ X0 rfl HO4.out a cap bs (by rw[<-HL2.out];rfl) HRB4.out (by rw[<-HL2.out];exact HLN4.out) h4 ?_)
 intro v5 w5 ho5 hg5
 have HB5:=hid (HB4.out.grown hg5 h4 (fun j hj=>(HO4.out.lt j hj).1))
 have HO5:Hid (w5.ownsRow w2.heap.size 5 1 v5 (Qgi 0 len bs).length ((Qgi 0 len bs).map (Value.int .u8))):=by
  show World.ownsRow _ _ _ _ _ _ _
  rw[HCD.out 0 bs]
  rw[show([((0:Nat):Int)]++VI)=X0 from HX0.out]
  first | exact ho5 | (simp only[List.length_append,List.map_append] at ho5|-;exact ho5)
 clear ho5 hg5 HO4 HB4 HRB4 h4 HLN4
 have HUB:Hid (∀f:Nat,f<=255->∀z,(∀j,0<=z.getD j 0∧z.getD j 0<=255)->∀j,0<=(Qgi f len z).getD j 0∧(Qgi f len z).getD j 0<=255):=fun f hf z hz=>Qs4 f len z hf (by omega) hz
 have HB15:=hid (Bn HB2.out HB5.out)
 obtain⟨x5,y5,rfl,hr5⟩:=Ri.own HO5.out (fun j=>Qa8 (HUB.out 0 (by omega) bs HU.out j).1 (HUB.out 0 (by omega) bs HU.out j).2)
 have HR5:=hid hr5
 have HV5:=hid (HR2.out.later HB5.out)
 clear hr5 HO5 HB5 HRB HB2 HR2
 generalize hS:Qgi 0 len bs=ST at *
 have HST:=hid hS
 clear hS
 obtain⟨sl,hsl⟩:∃n,n=ST.length:=⟨_,rfl⟩
 have HSL:=hid hsl
 rw[<-hsl]
 clear hsl
 go_wp2_with fail
 refine(HPK.out w5 HB15.out).mono ?_
 rintro _ w6 ⟨hb6,hp⟩
 rw[if_pos trivial] at hp
 obtain⟨x6,y6,rfl,hr6⟩:=hp
 have HB16:=hid (Bn HB15.out hb6)
 have HV6:=hid (HV5.out.later hb6)
 have HR56:=hid (HR5.out.later hb6)
 have HR6:=hid hr6
 have HPU:Hid (∀j,0<=(Qb2 l).getD j 0∧(Qb2 l).getD j 0<=255):=fun j=>wf_u8 (hr6.fits j)
 clear hb6 hr6 HPK HB15 HV5 HR5
 generalize Qb2 l=PB at *
 have HO7:=hid (Xc7 w6 1)
 have HA7:=hid (Qab w6 (.cells #[.int .u8 1] 5))
 have HR7:=hid (HV6.out.later HA7.out)
 have h7:=HA7.out.size
 go_wp2_with (at_builtin;refine Qch _ rfl _ _ rfl w6.heap.size _ [1] rfl HO7.out x2 y2 VI rfl HR7.out (by have:=HVL.out;simp;omega) h7 ?_)
 intro v8 w8 ho8 hg8
 have HB8:=hid (HA7.out.grown hg8 h7 (fun j hj=>(HO7.out.lt j hj).1))
 have HO8:Hid (w8.ownsRow w6.heap.size 5 1 v8 ([1]++VI).length (([1]++VI).map (Value.int .u8))):=by
  show World.ownsRow _ _ _ _ _ _ _
  first | exact ho8 | (simp only[List.length_append,List.map_append,List.length_cons,List.length_nil,List.map_cons,List.map_nil] at ho8|-;exact ho8) | simpa [Nat.add_comm] using ho8
 have HRB8:=hid (HR6.out.later HB8.out)
 have h8:=HB8.out.size
 have HLN8:Hid (([1]++VI).length+PB.length<=10000000):=by show _<=_;have:=HVL.out;have:=HPL.out;simp;omega
 clear ho8 hg8 HO7 HA7 HR7 h7
 generalize hX1: [1]++VI=X1 at *
 have HX1:=hid hX1
 clear hX1
 go_wp2_with (at_builtin;refine Qch _ rfl _ _ rfl w6.heap.size _ X1 rfl HO8.out x6 y6 PB rfl HRB8.out HLN8.out h8 ?_)
 intro v9 w9 ho9 hg9
 have HB9:=hid (HB8.out.grown hg9 h8 (fun j hj=>(HO8.out.lt j hj).1))
 have HO9:Hid (w9.ownsRow w6.heap.size 5 1 v9 (Qgi 1 len PB).length ((Qgi 1 len PB).map (Value.int .u8))):=by
  show World.ownsRow _ _ _ _ _ _ _
  rw[HCD.out 1 PB]
  rw[show([((1:Nat):Int)]++VI)=X1 from HX1.out]
  first | exact ho9 | (simp only[List.length_append,List.map_append] at ho9|-;exact ho9)
 obtain⟨x9,y9,rfl,hr9⟩:=Ri.own HO9.out (fun j=>Qa8 (HUB.out 1 (by omega) PB HPU.out j).1 (HUB.out 1 (by omega) PB HPU.out j).2)
 have HR9:=hid hr9
 have HR59:=hid (HR56.out.later HB9.out)
 have HBF:=hid (Bn HB1.out (Bn HB16.out HB9.out))
 have HLC:Hid ((Qgi 1 len PB).length=1+VI.length+PB.length∧ST.length=1+VI.length+len):=by
  constructor
  ·rw[HCD.out];simp;omega
  ·rw[<-HST.out,HCD.out,HL.out];simp;omega
 clear ho9 hg9 HO8 HB8 HRB8 h8 HLN8 hr9 HO9 HB9 HR56 HB16 HV6 HR6 HPU
 have HST2:Hid (Qgi 0 len bs=ST):=HST
 by_cases hlt:PB.length<len
 ·have HE1:Hid (E=Qgi 1 len PB):=by show _=_;rw[<-HE.out,if_pos hlt]
  obtain⟨pl,hpl⟩:∃n,n=(Qgi 1 len PB).length:=⟨_,rfl⟩
  have HPL2:=hid hpl
  have hcmp:(pl:Int)<(sl:Int):=by have:=HLC.out;have:=HSL.out;omega
  rw[<-hpl]
  clear hpl HE
  go_wp2_with fail
  go_ret2
  exact⟨HBF.out,x9,y9,by rw[HE1.out,<-HPL2.out];rfl,by rw[HE1.out];exact HR9.out⟩
 ·have HE1:Hid (E=ST):=by show _=_;rw[<-HE.out,if_neg hlt]
  obtain⟨pl,hpl⟩:∃n,n=(Qgi 1 len PB).length:=⟨_,rfl⟩
  have hcmp:¬(pl:Int)<(sl:Int):=by have:=HLC.out;have:=HSL.out;omega
  rw[<-hpl]
  clear hpl HE
  go_wp2_with fail
  go_ret2
  exact⟨HBF.out,x5,y5,by rw[HE1.out,<-HSL.out];rfl,by rw[HE1.out];exact HR59.out⟩
end
section
end
section
open Go.ChangeShapes Go.WideShapes Go.RowKit Hf Lz
theorem Xge(a1 a2:Option Addr)(c1 c2:Nat)(x y:List Int)(w:World)(h1:Ri w .u8 a1 c1 x)(h2:Ri w .u8 a2 c2 y)(g:Nat)(hg:g=w.heap.size):
 Calls Tryz.prog 31 #[.slice (some ⟨g,0,none⟩) 2 2] (w.alloc (.cells #[.slice a1 x.length c1,.slice a2 y.length c2] 22)) fun e w'=>e= .returned (.int .u32 (Qoy (x++y):Int))∧w'=w.alloc (.cells #[.slice a1 x.length c1,.slice a2 y.length c2] 22):=by
 have h:=Cr.Xk2 (some ⟨g,0,none⟩) 2 [Qj4 x,Qj4 y] _ (Cr.Ps.two h1.rdC h2.rdC g hg)
 refine h.mono (fun e w' h=>⟨?_,h.2⟩)
 rw[h.1]
 unfold Cr.Qmv Qoy Qj4
 rw[List.map_append]
 simp
theorem Xbh(w:World){ops:Array Oper}{rest:List Oper}{o:Oper}{ac:Act}{Q:Exit->Act->World->Prop}(hgd:o.guard=none)(s x:Operand)
 (ho:o.op= .call {callee:= .builtin .append,args:= #[s,x],argTypes:= #[22,22]}) (g:Nat) (xs:List Int) (fz:Nat×Nat) (hs:ac.eval s= .slice (some ⟨g,0,none⟩) xs.length xs.length) (hg:w.heap[g]?=some (.cells (u8A xs) 5 fz))
 (b off cap:Nat) (zs:List Int) (hx:ac.eval x= .slice (some ⟨b,off,none⟩) zs.length cap) (hrd:Ri w .u8 (some ⟨b,off,none⟩) cap zs) (h0:0<zs.length) (hbd:xs.length+zs.length<=1000000)
 (h:∀v' w',w'.ownsRow w.heap.size 5 1 v' (xs++zs).length ((xs++zs).map (Value.int .u8))->Below w.heap.size w w'->wpList Tryz.prog ops Q rest (ac.put o.dst v') w'):wpList Tryz.prog ops Q (o::rest) ac w:=by
 obtain⟨i0,hi,hz0,hz1,hz2⟩:=info_parts Tryz.info5Z
 obtain⟨b',off',hbe,_,hc⟩:=hrd.cells h0
 injection hbe with hbe
 injection hbe with e1 e2
 subst e1 e2
 have hr:=run_append_grow (P:=Tryz.prog) w 22 o.type 5 i0 (.int .u8 0) Tryz.underlying22 hi hz0 ⟨g,0,none⟩ xs.length xs.length (xs.map (Value.int .u8)) (by rw[hz1];simp) (fun j v hj=>by
  rw[Go.WideShapes.add_plain,Nat.zero_add,Joins.cell_of_block hg j]
  simp only[u8A,List.getElem?_toArray]
  exact hj) ⟨b,off,none⟩ zs.length cap (zs.map (Value.int .u8)) (by rw[hz1];simp) (fun j v hj=>by
  rw[Go.WideShapes.add_plain]
  have hjl:j<zs.length:=by have:=(List.getElem?_eq_some_iff.1 hj).1;simpa using this
  rw[hc j hjl]
  rw[List.getElem?_map,List.getElem?_eq_getElem hjl] at hj
  simpa [List.getD,List.getElem?_eq_getElem hjl] using hj) (by omega) (by omega) (growslice_fits (by omega) (by rw[hz2];omega))
 have hge:=grownCap_ge w (xs.length+zs.length) xs.length 5
 have hcm:=grownCap_le_maxLen w (xs.length+zs.length) xs.length 5 (by unfold maxLen;omega)
 refine wpList_plain hgd fun K hK=>?_
 unfold Oper.wp
 simp[execOp,ho,resolve,invoke,builtin,hs,hx,hr,Result.andThen]
 refine hK _ _ (h _ _ ⟨by simp,.inr ⟨w.heap.size,_,_,by rw[List.length_append],Nat.le_refl _,Qbf w.drew _,by rw[List.length_append];exact hge,hcm,?_,?_⟩⟩ ((Below.refl _ _).drew.alloc (Nat.le_refl _) _))
 ·simp only[Array.size_append,List.size_toArray,size_zeroCells,Value.cells,List.length_append,List.length_map]
  simp
  omega
 ·rw[Array.toList_append,List.length_append,Nat.mul_one]
  have:xs.length+zs.length=(xs.map (Value.int .u8)++zs.map (Value.int .u8)).length:=by simp
  rw[this,List.map_append]
  exact List.take_left
def Xj6:Value->Nat
 | .slice _ n _=>n
 | _=>0
theorem Qrc(a:Option Addr)(cap:Nat)(bs:List Int)(w:World)(hr:Ri w .u8 a cap bs)(hn:bs.length<=1000):Calls Tryz.prog 11 #[.slice a bs.length cap] w (Qmw bs w):=by
 have HIS:=hid (Quq a cap bs.length w (by omega))
 unfold Qmw
 cases hq:isC bs.length with
 | false=>
   change Hid (Calls Tryz.prog 20 _ w fun e w'=>e= .returned (.bool (isC bs.length))∧w'=w) at HIS
   rw[hq] at HIS
   generalize bs.length=L at *
   clear hr
   go_enter Tryz.func11,Tryz.ntmps11
   go_wp2_with fail
   refine HIS.out.mono ?_
   rintro _ w1 ⟨rfl,hw⟩
   obtain rfl:=hw.symm
   clear hw
   go_wp2_with fail
   go_ret2
   exact⟨Below.refl _ _,.inl ⟨by first | trivial | rfl,rfl⟩⟩
 | true=>
   change Hid (Calls Tryz.prog 20 _ w fun e w'=>e= .returned (.bool (isC bs.length))∧w'=w) at HIS
   rw[hq] at HIS
   have hrg:=Qku hq
   obtain⟨b0,o0,rfl,_,_⟩:=hr.cells (by omega)
   have HEN:=hid (Xe7 _ cap bs w hr (by omega))
   unfold Qgb at HEN
   have hel:=Ql5 bs (by omega)
   have hkb:(Qb6 bs).length<65536:=by omega
   have hep:0<(Qb6 bs).length:=by unfold Qb6 Qgi;split<;>simp
   have HR:=hid hr
   have HOF:Hid (∀W,Below w.heap.size w W->Calls Tryz.prog 22 #[.slice (some ⟨b0,o0,none⟩) bs.length cap] W fun e w'=>e= .returned (.agg (u8A (Qf4 bs)))∧Below W.heap.size W w'):=fun W hW=>Xk5 b0 o0 cap bs W (HR.out.later hW) (by omega)
   have HPK:Hid (Qhn bs=Qif bs.length (Qb6 bs).length (Qf4 bs)++Sh.Wd.leL 4 (Qoy (Qif bs.length (Qb6 bs).length (Qf4 bs)++Qb6 bs))++Qb6 bs++List.replicate (512*Qdu (Qb6 bs).length-44-(Qb6 bs).length) 0):=rfl
   have HDL:=hid (Qgc bs)
   have HDU:=hid (Qo2 bs)
   have HHD:Hid (∀n k d,Qif n k d= [83,67,72,75]++Sh.Wd.leL 2 n++Sh.Wd.leL 2 k++d):=fun _ _ _=>rfl
   generalize Qf4 bs=d at *
   generalize Qhn bs=P at *
   generalize Qb6 bs=E at *
   obtain⟨L,hLe⟩:∃L,L=bs.length:=⟨_,rfl⟩
   rw[<-hLe] at HIS HEN HOF HPK hrg|-
   clear hr hq hLe hn
   obtain⟨k,hk⟩:∃k,k=E.length:=⟨_,rfl⟩
   have HK:=hid hk
   rw[<-hk] at HEN HPK hkb hep
   clear hk hel
   have HLW:Hid (∀W (x:Nat),x<65536->Calls Tryz.prog 30 #[.int .u64 (x:Int),.int .i64 16] W fun e w'=>∃a c,e= .returned (.slice a (Sh.Wd.leL 2 x).length c)∧Ri w' .u8 a c (Sh.Wd.leL 2 x)∧Below W.heap.size W w'):=fun W x hx=>Xlz (x:Int) 16 2 W (by omega) (by omega) Xdn rfl (by decide) (by decide) (by decide)
   have HLX:Hid (∀W (x:Nat),x<4294967296->Calls Tryz.prog 30 #[.int .u64 (x:Int),.int .i64 32] W fun e w'=>∃a c,e= .returned (.slice a (Sh.Wd.leL 4 x).length c)∧Ri w' .u8 a c (Sh.Wd.leL 4 x)∧Below W.heap.size W w'):=fun W x hx=>Xlz (x:Int) 32 4 W (by omega) (by omega) Qts rfl (by decide) (by decide) (by decide)
   go_enter Tryz.func11,Tryz.ntmps11
   go_wp2_with fail
   refine HIS.out.mono ?_
   rintro _ w1 ⟨rfl,hw⟩
   obtain rfl:=hw.symm
   clear hw HIS
   go_wp2_with fail
   refine HEN.out.mono ?_
   rintro _ W1 ⟨hb1,a1,c1,rfl,hr1⟩
   have HB1:=hid hb1
   have HE1:=hid hr1
   clear hb1 hr1 HEN
   have kc:=Joins.run_convert_bytes_const_at (P:=Tryz.prog) W1 22 5 #[.int .u8 83,.int .u8 67,.int .u8 72,.int .u8 75] 4 4 W1.heap.size rfl Tryz.underlying22 Tryz.underlying5
   have hbA:=Qbr W1 (.cells #[.int .u8 83,.int .u8 67,.int .u8 72,.int .u8 75] 5 (4,5))
   have hgA:=Qbf W1 (.cells #[.int .u8 83,.int .u8 67,.int .u8 72,.int .u8 75] 5 (4,5))
   have H1:=hid (HLW.out (W1.alloc (.cells #[.int .u8 83,.int .u8 67,.int .u8 72,.int .u8 75] 5 (4,5))) L (by omega))
   have HBA:=hid hbA
   have HGA:=hid hgA
   clear hbA hgA
   go_wp2_with fail
   refine H1.out.mono ?_
   rintro _ W2 ⟨a2,c2,rfl,hr2,hb2⟩
   have hl1:(Sh.Wd.leL 2 (L:Int)).length=2:=Sh.Wd.Qbb 2 _
   obtain⟨l1,hl⟩:∃l,l=Sh.Wd.leL 2 (L:Int):=⟨_,rfl⟩
   have HL1:=hid hl
   rw[<-hl] at hr2 hl1|-
   obtain⟨b2,o2,rfl,_,_⟩:=hr2.cells (by omega)
   have HG2:=hid ((hb2.block _ (Array.getElem?_eq_some_iff.1 HGA.out).1).trans HGA.out)
   have HR2:=hid hr2
   have HB2:=hid (Bn HB1.out (Bn HBA.out hb2))
   have HE2:=hid (HE1.out.later (Bn HBA.out hb2))
   have HN1:=hid hl1
   have HZ:Hid (0<l1.length):=by show _<_;omega
   have HY:Hid (([83,67,72,75]:List Int).length+l1.length<=1000000):=by show _<=_;rw[hl1];decide
   clear hl hl1 hr2 hb2 H1 HBA HGA HE1 kc
   go_wp2_with (at_builtin;refine Xbh _ rfl _ _ rfl W1.heap.size [83,67,72,75] (4,5) rfl HG2.out b2 o2 c2 l1 rfl HR2.out HZ.out HY.out ?_)
   intro v3 W3 ho3 hb3
   obtain⟨R1,hR1⟩:∃R,R= [83,67,72,75]++l1:=⟨_,rfl⟩
   have HR1:=hid hR1
   have ho3':W3.ownsRow W2.heap.size 5 1 v3 R1.length (R1.map (Value.int .u8)):=by rw[hR1];simpa using ho3
   have hn1:R1.length=6:=by rw[hR1,List.length_append,HN1.out];rfl
   have HM1:=hid hn1
   have H2:=hid (HLW.out W3 k (by omega))
   obtain⟨a3,c3,rfl⟩:=Qmj ho3'
   have O3:=hid ho3'
   have V3:=hid hb3
   clear hR1 hn1 ho3 ho3' hb3 HG2 HR2 HZ HY
   rw[HM1.out]
   go_wp2_with fail
   refine H2.out.mono ?_
   rintro _ W4 ⟨a4,c4,rfl,hr4,hb4⟩
   have hl2:(Sh.Wd.leL 2 (k:Int)).length=2:=Sh.Wd.Qbb 2 _
   obtain⟨l2,hl⟩:∃l,l=Sh.Wd.leL 2 (k:Int):=⟨_,rfl⟩
   have HL2:=hid hl
   rw[<-hl] at hr4 hl2|-
   have HN2:=hid hl2
   have O4:=hid (Qbx O3.out hb4)
   have V4:=hid (Bn V3.out hb4)
   have A4:=hid hr4
   clear hl hl2 hr4 hb4 H2 O3 V3
   have N5:Hid (R1.length+l2.length<=1000000):=by show _<=_;rw[HM1.out,HN2.out];decide
   have S5:=hid V4.out.size
   go_wp2_with (at_builtin;refine Qon _ rfl _ _ rfl W2.heap.size _ R1 (by rw[HM1.out];rfl) O4.out a4 c4 l2 rfl A4.out N5.out S5.out ?_)
   intro v5 W5 ho hb
   obtain⟨R2,hrow⟩:∃R,R=R1++l2:=⟨_,rfl⟩
   have HER2:=hid hrow
   have ho':W5.ownsRow W2.heap.size 5 1 v5 R2.length (R2.map (Value.int .u8)):=by rw[hrow];simpa using ho
   have hlen:R2.length=8:=by rw[hrow,List.length_append];rw[HM1.out,HN2.out]
   have HLR2:=hid hlen
   have O5:=hid ho'
   have V5:=hid (V4.out.trans hb)
   obtain⟨a5,c5,rfl⟩:=Qmj ho'
   clear hrow ho ho' hb hlen N5 S5 O4 A4 V4
   have H3:=hid (HOF.out W5 (Bn HB2.out V5.out))
   rw[HLR2.out]
   go_wp2_with fail
   refine H3.out.mono ?_
   rintro _ W6 ⟨rfl,hb6⟩
   have E5:=hid (Qbf W6 (.cells (u8A z32) 36))
   have HZ36:Hid ((u8A z32).size=32):=rfl
   have hE6:((W6.alloc (.cells (u8A z32) 36)).setRow W6.heap.size (u8A d)).heap[W6.heap.size]?=some (.cells (u8A d) 36):=setRow_heap _ _ _ _ _ _ E5.out
   have hb7:=Bn hb6 (below_setRow (Qbr W6 (.cells (u8A z32) 36)) (Nat.le_refl _) (u8A d))
   have A6:Hid (Ri ((W6.alloc (.cells (u8A z32) 36)).setRow W6.heap.size (u8A d)) .u8 (some ⟨W6.heap.size,0,none⟩) 32 d):=by
    refine⟨by rw[HDL.out];exact Nat.le_refl _,by unfold maxLen;omega,fun _=>⟨W6.heap.size,0,rfl,(Array.getElem?_eq_some_iff.1 hE6).1,fun j hj=>?_⟩,fun j=>Qa8 (HDU.out j).1 (HDU.out j).2⟩
    rw[Nat.zero_add,Joins.cell_of_block hE6 j]
    simp[u8A,List.getD,List.getElem?_eq_getElem hj]
   have O6:=hid (Qbx O5.out hb7)
   have V6:=hid (Bn V5.out hb7)
   clear hE6 hb6 hb7 H3 O5 V5
   have N7:Hid (R2.length+d.length<=1000000):=by show _<=_;rw[HLR2.out,HDL.out];decide
   have S7:=hid V6.out.size
   go_wp2_with (first
    | (refine Qad rfl 36 rfl (some 7) rfl (u8A z32) Tryz.zero36p W6.heap.size rfl ?_)
    | (refine wpList_store_rowTo rfl 36 _ _ rfl rfl W6.heap.size (u8A d) rfl rfl 36 _ E5.out (by rw[Qix,HDL.out];exact Tryz.size36p) (by rw[HZ36.out,Qix,HDL.out]) (Xce _) ?_)
    | (at_builtin;refine Qon _ rfl _ _ rfl W2.heap.size _ R2 (by rw[HLR2.out];rfl) O6.out (some ⟨W6.heap.size,0,none⟩) 32 d (by rw[HDL.out];rfl) A6.out N7.out S7.out ?_))
   intro v7 W7 ho hb
   obtain⟨R3,hrow⟩:∃R,R=R2++d:=⟨_,rfl⟩
   have ho':W7.ownsRow W2.heap.size 5 1 v7 R3.length (R3.map (Value.int .u8)):=by rw[hrow];simpa using ho
   have hlen:R3.length=40:=by rw[hrow,List.length_append];rw[HLR2.out,HDL.out]
   have hHE:Qif L k d=R3:=by rw[HHD.out,hrow,HER2.out,HR1.out,HL1.out,HL2.out]
   have h8:∀j,(Lit.int .u8 (R3.getD j 0)).wf=true:=by rw[<-hHE];exact Qub L k d (fun j=>Qa8 (HDU.out j).1 (HDU.out j).2)
   have V7:=hid (V6.out.trans hb)
   have E7:=hid (HE2.out.later V7.out)
   rw[hHE] at HPK
   obtain⟨a7,c7,rfl,hr7⟩:=Ri.own ho' h8
   have HPC:Hid (Calls Tryz.prog 31 #[.slice (some ⟨W7.heap.size,0,none⟩) 2 2] (W7.alloc (.cells #[.slice a7 40 c7,.slice a1 k c1] 22)) fun e w'=>e= .returned (.int .u32 (Qoy (R3++E):Int))∧w'=W7.alloc (.cells #[.slice a7 40 c7,.slice a1 k c1] 22)):=by
    have:=Xge a7 a1 c7 c1 R3 E W7 hr7 E7.out W7.heap.size rfl
    rw[hlen,<-HK.out] at this
    exact this
   have hC:=Qph (R3++E)
   generalize Qoy (R3++E)=C at *
   have O8:=hid (Qbx ho' (Qbr W7 (.cells #[.slice a7 40 c7,.slice a1 k c1] 22)))
   have V8:=hid (V7.out.alloc V7.out.size (.cells #[.slice a7 40 c7,.slice a1 k c1] 22))
   have HLR3:=hid hlen
   rw[hlen]
   clear hrow ho ho' hb hlen hHE h8 hr7 HHD HER2 HR1 HL1 HL2 HOF E7 V7 E5 HZ36 A6 O6 V6 N7 S7 HLW HLR2 HM1 HN1 HN2
   go_wp2_with fail
   refine HPC.out.mono ?_
   rintro _ W8 ⟨rfl,hw⟩
   obtain rfl:=hw.symm
   clear hw HPC
   generalize W7.alloc (.cells #[.slice a7 40 c7,.slice a1 k c1] 22)=W8 at *
   have H4:=hid (HLX.out W8 C hC)
   go_wp2_with fail
   refine H4.out.mono ?_
   rintro _ W9 ⟨a9,c9,rfl,hr9,hb9⟩
   have hl3:(Sh.Wd.leL 4 (C:Int)).length=4:=Sh.Wd.Qbb 4 _
   obtain⟨l3,hl⟩:∃l,l=Sh.Wd.leL 4 (C:Int):=⟨_,rfl⟩
   rw[<-hl] at hr9 hl3 HPK|-
   have HN3:=hid hl3
   have O9:=hid (Qbx O8.out hb9)
   have V9:=hid (Bn V8.out hb9)
   have A9:=hid hr9
   clear hl hl3 hr9 hb9 H4 O8 V8 HLX
   have N9:Hid (R3.length+l3.length<=1000000):=by show _<=_;rw[HLR3.out,HN3.out];decide
   have S9:=hid V9.out.size
   go_wp2_with (at_builtin;refine Qon _ rfl _ _ rfl W2.heap.size _ R3 (by rw[HLR3.out];rfl) O9.out a9 c9 l3 rfl A9.out N9.out S9.out ?_)
   intro v10 W10 ho hb
   obtain⟨R4,hrow⟩:∃R,R=R3++l3:=⟨_,rfl⟩
   have ho':W10.ownsRow W2.heap.size 5 1 v10 R4.length (R4.map (Value.int .u8)):=by rw[hrow];simpa using ho
   have hlen:R4.length=44:=by rw[hrow,List.length_append];rw[HLR3.out,HN3.out]
   rw[<-hrow] at HPK
   have HLR4:=hid hlen
   have O10:=hid ho'
   have V10:=hid (V9.out.trans hb)
   have E10:=hid (HE2.out.later V10.out)
   obtain⟨a10,c10,rfl⟩:=Qmj ho'
   rw[hlen]
   clear hrow ho ho' hb hlen N9 S9 O9 A9 V9 HN3 HLR3
   have N10:Hid (R4.length+E.length<=1000000):=by show _<=_;rw[HLR4.out,<-HK.out];omega
   have S10:=hid V10.out.size
   go_wp2_with (at_builtin;refine Qon _ rfl _ _ rfl W2.heap.size _ R4 (by rw[HLR4.out];rfl) O10.out a1 c1 E (by rw[<-HK.out];rfl) E10.out N10.out S10.out ?_)
   intro v11 W11 ho hb
   obtain⟨R5,hrow⟩:∃R,R=R4++E:=⟨_,rfl⟩
   have ho':W11.ownsRow W2.heap.size 5 1 v11 R5.length (R5.map (Value.int .u8)):=by rw[hrow];simpa using ho
   have hlen:R5.length=44+k:=by rw[hrow,List.length_append];rw[HLR4.out,HK.out]
   rw[<-hrow] at HPK
   have HLR5:=hid hlen
   have O11:=hid ho'
   have V11:=hid (V10.out.trans hb)
   obtain⟨a11,c11,rfl⟩:=Qmj ho'
   rw[hlen]
   clear hrow ho ho' hb hlen N10 S10 O10 V10 E10 HLR4 HE2
   obtain⟨M,hM⟩:∃M,M=512*Qdu k-44-k:=⟨_,rfl⟩
   rw[<-hM] at HPK
   have hMz:M<512∧(44+k+M)%512=0:=by rw[hM];unfold Qdu;omega
   clear hM
   obtain⟨i0,hi,hz0,hz1,hz2⟩:=info_parts Tryz.info5Z
   go_wp2_with fail
   go_loopw [6] (fun v wr=>∃m:Nat,m<=M∧∃a c,v= .slice a (44+k+m) c∧Hid (wr.ownsRow W2.heap.size 5 1 (.slice a (44+k+m) c) (44+k+m) ((R5++List.replicate m 0).map (Value.int .u8)))∧Hid (Below W2.heap.size W2 wr)) (fun v _=>44+k+M-Xj6 v)
   case atStart=>exact⟨0,by omega,a11,c11,rfl,by show World.ownsRow _ _ _ _ _ _ _;have:=O11.out;rw[HLR5.out] at this;simpa using this,V11.out⟩
   case round=>
    obtain⟨m,hm,a,c,rfl,HO,HB⟩:=hrel
    by_cases hlt:m<M
    ·have hne:((44+k+m:Nat):Int)%512≠0:=by omega
     obtain⟨N,hN⟩:∃N,N=44+k+m:=⟨_,rfl⟩
     rw[<-hN] at HO hne|-
     have hNb:N<=100000:=by omega
     have g1:((N:Int)%512 != 0)=true:=by simpa using hne
     go_wp2_with (at_builtin;refine wpList_append_own _ rfl _ _ 22 rfl W2.heap.size 5 i0 (.int .u8 0) 1 1 Tryz.underlying22 hi hz0 hz1 hz2 rfl (by decide) _ _ _ rfl (HO.out.alloc _) ⟨wr.heap.size,0,none⟩ 1 1 [.int .u8 0] rfl rfl ?c1 ?c2 ?c3 ?c4 ?c5 ?_)
     try case c1=>
      intro j u hj
      match j,hj with
      | 0,hj=>simp at hj;subst hj;simp[Addr.add]
     try case c2=>first | rfl | (intro u hu;simp at hu;subst hu;rfl)
     case c3=>unfold maxLen;omega
     case c4=>omega
     case c5=>have:=HB.out.size;simp;omega
     intro v1 w1 hown0 hgrow _
     subst hN
     have HB1:=hid ((HB.out.alloc HB.out.size _).grown hgrow (by have:=HB.out.size;simp;omega) (fun j hj=>(HO.out.lt j hj).1))
     have HO1:w1.ownsRow W2.heap.size 5 1 v1 (44+k+(m+1)) ((R5++List.replicate (m+1) 0).map (Value.int .u8)):=by
      rw[List.replicate_succ',<-List.append_assoc,List.map_append,show 44+k+(m+1)=44+k+m+1 from by omega]
      simpa using hown0
     obtain⟨a',c',rfl⟩:=Qmj HO1
     have HO2:=hid HO1
     clear hown0 hgrow HO HB HO1
     go_wp2_with fail
     exact⟨⟨m+1,by omega,a',c',rfl,HO2,HB1⟩,by simp[Xj6];omega⟩
    ·obtain rfl:m=M:=by omega
     have hne:((44+k+m:Nat):Int)%512=0:=by omega
     rw[<-HPK.out] at HO
     have hPL:P.length=44+k+m:=by rw[HPK.out,List.length_append,HLR5.out,List.length_replicate]
     rw[<-hPL] at HO
     obtain⟨N,hN⟩:∃N,N=P.length:=⟨_,rfl⟩
     rw[<-hPL] at hne|-
     rw[<-hN] at HO hne|-
     have HN:=hid hN
     have hNb:N<=100000:=by omega
     have g1:((N:Int)%512 != 0)=false:=by simpa using hne
     clear hN hPL
     go_wp2_with fail
     go_ret2
     refine⟨Bn HB2.out HB.out,.inr ⟨trivial,_,rfl,?_⟩⟩
     rw[<-HN.out]
     exact Joins.ownsRow_le HO.out HB2.out.size
end
section
open Go.RowKit Hf Lz
theorem Qmd(a:Option Addr)(cap:Nat)(bs:List Int)(w:World)(hr:Ri w .u8 a cap bs)(hn:bs.length<=4200):Calls Tryz.prog 43 #[.slice a bs.length cap] w (Qgb bs w):=
 Xae a cap bs w hr hn (Qte a cap bs w hr)
theorem Qvk(a:Option Addr)(cap:Nat)(bs:List Int)(w:World)(hr:Ri w .u8 a cap bs)(hn:bs.length<=1000000)(hL:Sh.Laid w):Calls Tryz.prog 10 #[.slice a bs.length cap] w (Qmw bs w):=
 Qv4 a cap bs w hr hn hL (fun h=>Qmd a cap bs w hr (by omega))
theorem Xkf(bs:List Int)(h8:Qce bs)(hn:bs.length<=4096):∀j,(Lit.int .u8 ((Qb6 bs).getD j 0)).wf=true:=by
 obtain⟨e,w',_,⟨_,_,_,_,h⟩,_⟩:=Qmd _ _ bs _ (Xiz bs h8 (by omega) default) (by omega) []
 exact h.fits
theorem Xk6(bs:List Int)(h8:Qce bs)(hn:bs.length<=4096):∀j,(Lit.int .u8 ((Qhn bs).getD j 0)).wf=true:=Xgs bs (Xkf bs h8 hn)
end
section
open Go.ChangeShapes Go.WideShapes Go.RowKit Hf Lz
theorem Qfl{P:Program}{md:Region.Mode}{ops:Array Oper}{Q:Exit->Act->World->Prop}{S S':World->Prop}(h:∀w,S' w->S w):∀(fuel:Nat) (listed:Array Bool) (a:Act) (w:World),wpAnyH P md ops Q S' fuel listed a w->wpAnyH P md ops Q S fuel listed a w
 | 0,_,_,_,H=>H
 | fuel+1,_,_,_,H=>⟨H.1,fun i hi=>wpOp_mono (fun a' w' h'=>⟨h w' h'.1,Qfl h fuel _ a' w' h'.2⟩) (H.2 i hi)⟩
def Xks(bs:List Int):List Int×Int:=if isC bs.length=true then (Qhn bs,0) else ([],113)
def Xdk(bs:List Int):Int×Int:=if isC bs.length=true then ((Qdu (Qb6 bs).length:Nat),0) else (0,113)
def Xk8(r:List Int×Int)(w:World)(e:Ending)(w':World):Prop:=Below w.heap.size w w'∧∃a c,e= .returned (.tuple #[.slice a r.1.length c,.int .i64 r.2])∧Ri w' .u8 a c r.1
theorem Qmw.uni{bs:List Int}{w w':World}{e:Ending}(h8:isC bs.length=true->∀j,(Lit.int .u8 ((Qhn bs).getD j 0)).wf=true)(h:Qmw bs w e w'):Xk8 (Xks bs) w e w':=by
 unfold Xk8 Xks
 obtain⟨hb,⟨hq,rfl⟩ | ⟨hq,v,rfl,ho⟩⟩:=h
 ·rw[if_neg (by rw[hq];decide)]
  exact⟨hb,none,0,rfl,⟨Nat.le_refl _,by unfold maxLen;omega,fun h=>absurd h (by simp),fun j=>rfl⟩⟩
 ·rw[if_pos hq]
  obtain⟨a,c,rfl,hr⟩:=Ri.own ho (h8 hq)
  exact⟨hb,a,c,rfl,hr⟩
theorem Qo5{P:Program}{ops:Array Oper}{rest:List Oper}{o:Oper}{a:Act}{w:World}{Q:Exit->Act->World->Prop}(hg:o.guard=none)(t:TypeId)(x1:Operand)(ho:o.op= .build t #[(1,x1)])
 (v1 v:Value) (h1:a.eval x1=v1) (hr:(Instr.build t #[(1,v1)]).run P w= .ok v w) (h:wpList P ops Q rest (a.put o.dst v) w):wpList P ops Q (o::rest) a w:=
 wpList_plain hg fun K hK=>by
  unfold Oper.wp execOp
  simp only[ho,List.map_toArray,List.map_cons,List.map_nil,h1,Sem.run_bind,hr,Result.andThen_ok]
  exact hK _ _ h
theorem Xlb(k:Int):Tryz.prog.built 53 [(1,.int .i64 k)]=some (hdL 0 k z32).toArray:=by kernel_rfl
theorem Qwy(a:Option Addr)(cap:Nat)(bs:List Int)(w:World)(hr:Ri w .u8 a cap bs)(hn:bs.length<=1000):
 Calls Tryz.prog 13 #[.slice a bs.length cap] w fun e w'=>e= .returned (.tuple #[.int .i64 (Xdk bs).1,.int .i64 (Xdk bs).2])∧Below w.heap.size w w':=by
 have HB:=hid (Qrc a cap bs w hr hn)
 unfold Qmw at HB
 unfold Xdk
 cases hq:isC bs.length with
 | false=>
   rw[hq] at HB
   rw[if_neg (by decide)]
   generalize bs.length=L at *
   clear hr hq
   go_enter Tryz.func13,Tryz.ntmps13
   go_wp2_with fail
   refine HB.out.mono ?_
   rintro _ W1 ⟨hb1,⟨_,rfl⟩ | ⟨h,_⟩⟩
   ·have HB1:=hid hb1
    clear hb1 HB
    go_wp2_with fail
    go_ret2
    exact⟨rfl,HB1.out⟩
   ·cases h
 | true=>
   rw[hq] at HB
   rw[if_pos rfl]
   have hrg:=Qku hq
   have hel:=Ql5 bs (by omega)
   have hpl:=Qpk bs
   obtain⟨q,hqe⟩:∃q,q=Qdu (Qb6 bs).length:=⟨_,rfl⟩
   have hq9:q<=10:=by rw[hqe];unfold Qdu;omega
   rw[<-hqe] at hpl|-
   generalize Qhn bs=P at *
   generalize bs.length=L at *
   clear hr hq hel hqe
   go_enter Tryz.func13,Tryz.ntmps13
   go_wp2_with fail
   refine HB.out.mono ?_
   rintro _ W1 ⟨hb1,⟨h,_⟩ | ⟨_,v,rfl,ho⟩⟩
   ·cases h
   have HB1:=hid hb1
   obtain⟨a1,c1,rfl⟩:=Qmj ho
   obtain⟨M,hM⟩:∃M,M=P.length:=⟨_,rfl⟩
   rw[<-hM] at hpl|-
   have hd:(M:Int)/512=(q:Int):=by omega
   clear hb1 HB ho hM
   go_wp2_with fail
   go_ret2
   exact⟨by first | rfl | (simp[hd]) | (rw[hd]),HB1.out⟩
theorem Qys(a:Option Addr)(cap:Nat)(bs:List Int)(w:World)(hr:Ri w .u8 a cap bs)(hn:bs.length<=1000):
 Calls Tryz.prog 12 #[.slice a bs.length cap] w fun e w'=>e= .returned (.tuple #[.int .i64 (Xdk bs).1,.int .i64 (Xdk bs).2])∧Below w.heap.size w w':=by
 have HB:=hid (Qwa a cap bs w (by omega) (fun h=>Qmd a cap bs w hr (by omega)))
 unfold Qtw at HB
 unfold Xdk
 cases hq:isC bs.length with
 | false=>
   rw[hq] at HB
   rw[if_neg (by decide)]
   generalize bs.length=L at *
   clear hr hq
   go_enter Tryz.func12,Tryz.ntmps12
   go_wp2_with fail
   refine HB.out.mono ?_
   rintro _ W1 ⟨hb1,⟨_,rfl⟩ | ⟨h,_⟩⟩
   ·have HB1:=hid hb1
    clear hb1 HB
    go_wp2_with fail
    go_ret2
    exact⟨rfl,HB1.out⟩
   ·cases h
 | true=>
   rw[hq] at HB
   rw[if_pos rfl]
   have hel:=Ql5 bs (by omega)
   obtain⟨k,hk⟩:∃k,k=(Qb6 bs).length:=⟨_,rfl⟩
   rw[<-hk] at HB hel|-
   have hk9:k<=2000:=by omega
   have HBK:Hid (∀W,Calls Tryz.prog 25 #[.agg (hdL 0 k z32).toArray] W fun e w'=>e= .returned (.int .i64 (Qdu k:Int))∧Below W.heap.size W w'):=fun W=>Qf1 0 k z32 W (by omega)
   have HBD:Hid (∀W,(Instr.build 53 #[(1,.int .i64 (k:Int))]).run Tryz.prog W= .ok (.agg (hdL 0 k z32).toArray) W):=fun W=>run_build W 53 _ _ (Xlb k)
   generalize bs.length=L at *
   generalize (hdL 0 k z32).toArray=H at *
   clear hr hq hel hk
   go_enter Tryz.func12,Tryz.ntmps12
   go_wp2_with fail
   refine HB.out.mono ?_
   rintro _ W1 ⟨hb1,⟨h,_⟩ | ⟨_,a1,c1,rfl,_⟩⟩
   ·cases h
   have HB1:=hid hb1
   clear hb1 HB
   go_wp2_with (refine Qo5 rfl 53 (.tmp 15) rfl (.int .i64 (k:Int)) (.agg H) rfl (HBD.out _) ?_)
   refine(HBK.out _).mono ?_
   rintro _ W2 ⟨rfl,hb2⟩
   have HB2:=hid (Bn HB1.out hb2)
   clear hb2 HBK HBD
   go_wp2_with fail
   go_ret2
   exact⟨rfl,HB2.out⟩
end
end Go.Proofs.YtibjlbcnapoblaaGreatDoor
