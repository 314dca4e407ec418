/- Contracts and facts. -/
import Derived.Test.YtibjlbcnapoblaaGreatDoorPart31
namespace Go.Proofs.YtibjlbcnapoblaaGreatDoor
set_option maxRecDepth 100000
set_option maxHeartbeats 6400000
section
open Go.RowKit Lz
theorem Xcp{w:World}{B e size n:Nat}{v:Value}{xs:List Value}(h:w.ownsRow B e size v n xs)(q:Nat):(w.drewN q).ownsRow B e size v n xs:=h
theorem Xdj(a:Option Addr)(cap:Nat)(zs:List Int)(w:World)(hr:Ri w .i64 a cap zs)(hn:zs.length<=1000)(hz:∀j,0<=zs.getD j 0∧zs.getD j 0<=255):
 Calls Tryz.prog 73 #[.slice a zs.length cap] w fun e w'=>∃v,e= .returned v∧w'.ownsRow w.heap.size 5 1 v (Qc7 zs).length ((Qc7 zs).map (Value.int .u8))∧Below w.heap.size w w':=by
 obtain⟨i0,hi,hz0,hz1,hz2⟩:=info_parts Tryz.info5Z
 have HR:=hid hr
 have HZ:=hid hz
 have hroom:=hr.room
 obtain⟨len,hle⟩:∃n,n=zs.length:=⟨_,rfl⟩
 have HL:=hid hle
 rw[<-hle] at hn hroom|-
 clear hr hle hz
 go_enter Tryz.func73,Tryz.ntmps73
 go_wp2_with fail
 go_loopw [3,4,5] (fun v i _ wr=>∃(k f:Nat) (acc:List Int),k<=len∧i= .int .i64 (k:Int)∧Hid (len-k<=f)∧Hid (acc++Qeo f (zs.drop k)=Qc7 zs)∧Hid (acc.length<=3*k)∧Hid (wr.ownsRow w.heap.size 5 1 v acc.length (acc.map (Value.int .u8)))∧Hid (Below w.heap.size w wr)) (fun _ i _ _=>len-(intOf i).toNat)
 case atStart=>exact⟨0,len,[],by omega,rfl,by show len-0<=len;omega,by rw[HL.out];rfl,by show 0<=3*0;omega,World.ownsRow_nil _ _ _ _,Below.refl _ _⟩
 case round=>
  obtain⟨k,f,acc,hk,rfl,HF,HACC,HAL,HO,HB⟩:=hrel
  by_cases hlt:k<len
  ·have hkl:(k:Int)<(len:Int):=by omega
   go_wp2_with fail
   go_loopw [5] (fun j wr2=>∃p:Nat,j= .int .i64 (p:Int)∧0<p∧k+p<=len∧Hid (∀q,k<q->q<k+p->zs.getD q 0=zs.getD k 0)∧Hid (wr2.ownsRow w.heap.size 5 1 u3 acc.length (acc.map (Value.int .u8)))∧Hid (Below w.heap.size w wr2)) (fun j _=>len-(intOf j).toNat)
   case atStart=>exact⟨1,rfl,by omega,by omega,fun q h1 h2=>by omega,HO.out,HB.out⟩
   case round=>
    obtain⟨p,rfl,hp1,hp2,HS,HO2,HB2⟩:=hrel
    by_cases hpl:k+p<len
    ·obtain⟨q,hq0⟩:∃q:Nat,q=k+p:=⟨_,rfl⟩
     have HQ:=hid hq0
     have HWR:Hid (IntKind.i64.wrap ((k:Int)+(p:Int))=(q:Int)):=by show _=_;rw[IntWalk.i64_in _ ⟨by omega,by omega⟩];omega
     have hpi:(q:Int)<(len:Int):=by omega
     rw[<-hq0] at hpl
     clear hq0
     obtain⟨b,off,rfl,hbw,hc⟩:=HR.out.cells (by rw[<-HL.out];omega)
     have cp:=(HB2.out.cell (p:=⟨b,off+q,none⟩) hbw).trans (hc q (by rw[<-HL.out];exact hpl))
     have ck:=(HB2.out.cell (p:=⟨b,off+k,none⟩) hbw).trans (hc k (by rw[<-HL.out];exact hlt))
     clear hc
     by_cases hq:zs.getD q 0=zs.getD k 0
     ·have HS2:Hid (∀q',k<q'->q'<k+(p+1)->zs.getD q' 0=zs.getD k 0):=fun q' h1 h2=>by
       by_cases e:q'=q
       ·rw[e];exact hq
       ·exact HS.out q' h1 (by have:=HQ.out;omega)
      rw[hq] at cp
      clear HS hq
      generalize zs.getD k 0=z at *
      go_wp2_with fail
      have hkp:(k:Int)+(p:Int)=(q:Int):=by have:=HQ.out;omega
      have hwr:=HWR.out
      have hd1:decide ((q:Int)<(len:Int))=true:=decide_eq_true hpi
      have hd2:decide (q<len)=true:=decide_eq_true hpl
      have hzz:(z==z)=true:=by simp
      refine wp_region_quiet_lit (by kernel_rfl) (by kernel_rfl) ?_
      repeat (go_big_quiet_step (fail))
      refine wpQuiet_nil ?_
      intro _ hw'
      obtain⟨nq,rfl⟩:=hw'
      clear hkp hwr hd1 hd2
      have HB3:=hid (Qap HB2.out nq)
      have HO3:=hid (Xcp HO2.out nq)
      clear cp ck HB2 HO2
      generalize wr.drewN nq=W at *
      go_wp2
      have hq0:=HQ.out
      exact⟨⟨p+1,by go_num,by omega,by omega,HS2.out,HO3.out,HB3.out⟩,by simp[intOf];omega⟩
     ·have HEND:q=zs.length∨zs.getD q 0≠zs.getD k 0:=Or.inr hq
      have hqb:(zs.getD q 0==zs.getD k 0)=false:=by rw[beq_eq_false_iff_ne];exact hq
      clear hq
      clear HO HB
      have hzr:=HZ.out k
      have HST:=hid (Qil zs k q (f-1) (by have:=HQ.out;omega) (by rw[<-HL.out];have:=HQ.out;omega) (by rw[HQ.out];exact HS.out) HEND)
      have HF1:Hid (f-1+1=f):=by show f-1+1=f;have:=HF.out;omega
      rw[HF1.out] at HST
      have HVI:=hid (fun W=>Qpl (p:Int) W (by omega) (by omega))
      have HVL:=hid (Qdo (p:Int) (by omega) (by omega))
      have hpk:q-k=p:=by have:=HQ.out;omega
      rw[hpk] at HST
      have HF2:Hid (len-q<=f-1):=by show len-q<=f-1;have:=HF.out;have:=HQ.out;omega
      have hz256:zs.getD k 0%256=zs.getD k 0:=by omega
      have hal:=HAL.out
      clear hpk HF HF1 HEND HS
      generalize zs.getD q 0=y at *
      generalize zs.getD k 0=z at *
      have hz9:=hzr.1
      have hz8:=hzr.2
      clear hzr
      go_wp2_with fail
      have hkp:(k:Int)+(p:Int)=(q:Int):=by have:=HQ.out;omega
      have hwr:=HWR.out
      have hd1:decide ((q:Int)<(len:Int))=true:=decide_eq_true hpi
      have hd2:decide (q<len)=true:=decide_eq_true hpl
      refine wp_region_quiet_lit (by kernel_rfl) (by kernel_rfl) ?_
      repeat (go_big_quiet_step (fail))
      refine wpQuiet_nil ?_
      intro _ hw'
      obtain⟨nq,rfl⟩:=hw'
      clear hkp hwr hd1 hd2
      have HB3:=hid (Qap HB2.out nq)
      have HO3:=hid (Xcp HO2.out nq)
      have ck2:(wr.drewN nq).cell? ⟨b,off+k,none⟩=some (.int .i64 z):=ck
      clear cp ck HB2 HO2
      generalize wr.drewN nq=W at *
      go_wp2_with (at_builtin;refine wpList_append_own _ rfl _ _ 22 rfl w.heap.size 5 i0 (.int .u8 0) 1 1 Tryz.underlying22 hi hz0 hz1 hz2 rfl (by decide) _ _ _ rfl (HO3.out.alloc _) ⟨W.heap.size,0,none⟩ 1 1 [.int .u8 z] rfl rfl ?c1 ?c2 ?c3 ?c4 ?c5 ?_)
      try case c1=>
       intro j u hj
       match j,hj with
       | 0,hj=>simp at hj;subst hj;simp[Addr.add]
      try case c2=>first | rfl | (intro u hu;simp at hu;subst hu;rfl)
      case c3=>unfold maxLen;omega
      case c4=>omega
      case c5=>have:=HB3.out.size;simp;omega
      intro v' w1 hown' hgrow _
      have R:=Qd0 HB3.out.size HO3.out HB3.out hown' hgrow
      have HO4:=hid R.1
      have HB4:=hid R.2
      clear hown' hgrow R HO3 HB3 ck2
      go_wp2_with fail
      go_at_call 46
      refine(HVI.out w1).mono ?_
      rintro _ w2 ⟨va,vc,rfl,hvr,hvb⟩
      have HO5:=hid (Qa1 HO4.out hvb)
      have HB5:=hid (Bn HB4.out hvb)
      have HVR:=hid hvr
      have hsz:=HB5.out.size
      clear hvb hvr HVI HO4 HB4
      generalize Qe0 (p:Int)=vi at *
      have hbd:(acc++ [z]).length+vi.length<=10000000:=by have:=HVL.out;simp;omega
      go_wp2_with (at_builtin;refine Qch _ rfl _ _ rfl w.heap.size _ (acc++ [z]) rfl HO5.out va vc vi rfl HVR.out hbd hsz ?_)
      intro v' w3 hown' hgrow
      have HB6:=hid (HB5.out.grown hgrow (by omega) (fun j hj=>(HO5.out.lt j hj).1))
      have HO6:Hid (w3.ownsRow w.heap.size 5 1 v' (acc++ [z]++vi).length ((acc++ [z]++vi).map (Value.int .u8))):=by
       show World.ownsRow _ _ _ _ _ _ _
       have e1:(acc++ [z]++vi).length=acc.length+(vi.length+1):=by simp
       have e2:(acc++ [z]++vi).map (Value.int .u8)=acc.map (Value.int .u8)++Value.int .u8 z::vi.map (Value.int .u8):=by simp
       rw[e1,e2];exact hown'
      have HAC:Hid ((acc++ [z]++vi)++Qeo (f-1) (zs.drop q)=Qc7 zs):=by show _=_;rw[<-HACC.out,HST.out];simp
      have HLE:Hid ((acc++ [z]++vi).length<=3*q):=by show _<=_;have:=HVL.out;have:=HQ.out;simp;omega
      clear hgrow hown' HO5 HB5 HVR hbd HST HACC HVL HAL
      go_wp2
      have hq0:=HQ.out
      exact⟨⟨q,f-1,acc++ [z]++vi,by omega,by subst hq0;go_num,HF2.out,HAC.out,HLE.out,HO6.out,HB6.out⟩,by simp[intOf];omega⟩
    ·obtain⟨q,hq0⟩:∃q:Nat,q=k+p:=⟨_,rfl⟩
     have HQ:=hid hq0
     have HWR:Hid (IntKind.i64.wrap ((k:Int)+(p:Int))=(q:Int)):=by show _=_;rw[IntWalk.i64_in _ ⟨by omega,by omega⟩];omega
     have HEND:q=zs.length∨zs.getD q 0≠zs.getD k 0:=Or.inl (by rw[<-HL.out];have:=HQ.out;omega)
     have hpi:¬(q:Int)<(len:Int):=by omega
     rw[<-hq0] at hpl
     clear hq0
     obtain⟨b,off,rfl,hbw,hc⟩:=HR.out.cells (by rw[<-HL.out];omega)
     have ck:=(HB2.out.cell (p:=⟨b,off+k,none⟩) hbw).trans (hc k (by rw[<-HL.out];exact hlt))
     clear hc
     clear HO HB
     have hzr:=HZ.out k
     have HST:=hid (Qil zs k q (f-1) (by have:=HQ.out;omega) (by rw[<-HL.out];have:=HQ.out;omega) (by rw[HQ.out];exact HS.out) HEND)
     have HF1:Hid (f-1+1=f):=by show f-1+1=f;have:=HF.out;omega
     rw[HF1.out] at HST
     have HVI:=hid (fun W=>Qpl (p:Int) W (by omega) (by omega))
     have HVL:=hid (Qdo (p:Int) (by omega) (by omega))
     have hpk:q-k=p:=by have:=HQ.out;omega
     rw[hpk] at HST
     have HF2:Hid (len-q<=f-1):=by show len-q<=f-1;have:=HF.out;have:=HQ.out;omega
     have hz256:zs.getD k 0%256=zs.getD k 0:=by omega
     have hal:=HAL.out
     clear hpk HF HF1 HEND HS
     generalize zs.getD k 0=z at *
     have hz9:=hzr.1
     have hz8:=hzr.2
     clear hzr
     go_wp2_with fail
     have hkp:(k:Int)+(p:Int)=(q:Int):=by have:=HQ.out;omega
     have hwr:=HWR.out
     have hd1:decide ((q:Int)<(len:Int))=false:=decide_eq_false (by omega)
     have hd2:decide (q<len)=false:=decide_eq_false (by omega)
     refine wp_region_quiet_lit (by kernel_rfl) (by kernel_rfl) ?_
     repeat (go_big_quiet_step (fail))
     refine wpQuiet_nil ?_
     intro _ hw'
     obtain⟨nq,rfl⟩:=hw'
     clear hkp hwr hd1 hd2
     have HB3:=hid (Qap HB2.out nq)
     have HO3:=hid (Xcp HO2.out nq)
     have ck2:(wr.drewN nq).cell? ⟨b,off+k,none⟩=some (.int .i64 z):=ck
     clear ck HB2 HO2
     generalize wr.drewN nq=W at *
     go_wp2_with (at_builtin;refine wpList_append_own _ rfl _ _ 22 rfl w.heap.size 5 i0 (.int .u8 0) 1 1 Tryz.underlying22 hi hz0 hz1 hz2 rfl (by decide) _ _ _ rfl (HO3.out.alloc _) ⟨W.heap.size,0,none⟩ 1 1 [.int .u8 z] rfl rfl ?d1 ?d2 ?d3 ?d4 ?d5 ?_)
     try case d1=>
      intro j u hj
      match j,hj with
      | 0,hj=>simp at hj;subst hj;simp[Addr.add]
     try case d2=>first | rfl | (intro u hu;simp at hu;subst hu;rfl)
     case d3=>unfold maxLen;omega
     case d4=>omega
     case d5=>have:=HB3.out.size;simp;omega
     intro v' w1 hown' hgrow _
     have R:=Qd0 HB3.out.size HO3.out HB3.out hown' hgrow
     have HO4:=hid R.1
     have HB4:=hid R.2
     clear hown' hgrow R HO3 HB3 ck2
     go_wp2_with fail
     go_at_call 46
     refine(HVI.out w1).mono ?_
     rintro _ w2 ⟨va,vc,rfl,hvr,hvb⟩
     have HO5:=hid (Qa1 HO4.out hvb)
     have HB5:=hid (Bn HB4.out hvb)
     have HVR:=hid hvr
     have hsz:=HB5.out.size
     clear hvb hvr HVI HO4 HB4
     generalize Qe0 (p:Int)=vi at *
     have hbd:(acc++ [z]).length+vi.length<=10000000:=by have:=HVL.out;simp;omega
     go_wp2_with (at_builtin;refine Qch _ rfl _ _ rfl w.heap.size _ (acc++ [z]) rfl HO5.out va vc vi rfl HVR.out hbd hsz ?_)
     intro v' w3 hown' hgrow
     have HB6:=hid (HB5.out.grown hgrow (by omega) (fun j hj=>(HO5.out.lt j hj).1))
     have HO6:Hid (w3.ownsRow w.heap.size 5 1 v' (acc++ [z]++vi).length ((acc++ [z]++vi).map (Value.int .u8))):=by
      show World.ownsRow _ _ _ _ _ _ _
      have e1:(acc++ [z]++vi).length=acc.length+(vi.length+1):=by simp
      have e2:(acc++ [z]++vi).map (Value.int .u8)=acc.map (Value.int .u8)++Value.int .u8 z::vi.map (Value.int .u8):=by simp
      rw[e1,e2];exact hown'
     have HAC:Hid ((acc++ [z]++vi)++Qeo (f-1) (zs.drop q)=Qc7 zs):=by show _=_;rw[<-HACC.out,HST.out];simp
     have HLE:Hid ((acc++ [z]++vi).length<=3*q):=by show _<=_;have:=HVL.out;have:=HQ.out;simp;omega
     clear hgrow hown' HO5 HB5 HVR hbd HST HACC HVL HAL
     go_wp2
     have hq0:=HQ.out
     exact⟨⟨q,f-1,acc++ [z]++vi,by omega,by subst hq0;go_num,HF2.out,HAC.out,HLE.out,HO6.out,HB6.out⟩,by simp[intOf];omega⟩
  ·obtain rfl:k=len:=by omega
   have HE:Hid (acc=Qc7 zs):=by show _=_;rw[<-HACC.out,Qq6 f zs k (by rw[<-HL.out];omega)];simp
   go_wp2
   go_ret
   exact⟨_,rfl,by rw[<-HE.out];exact HO.out,HB.out⟩
theorem Tryz.info3D:(Tryz.prog.info? 3).map (fun i=>(i.zero,i.size,i.bytes))=some (some (.int .i64 0),1,8):=by kernel_rfl
theorem Qv7(w:World){o:Oper}{ac:Act}{K:Act->World->Prop}{Q:Exit->Act->World->Prop}(l c:Operand)(n:Nat)(ho:o.op= .makeSlice 112 l c)(hl:ac.eval l= .int .i64 (n:Int))(hc:ac.eval c= .int .i64 (n:Int))(hn:n<=1000)
 (h:∀w',w'.heap[w.heap.size]?=some (.cells (arr .i64 (List.replicate n 0)) 3 (0,0))->Below w.heap.size w w'->K (ac.put o.dst (.slice (some ⟨w.heap.size,0,none⟩) n n)) w'):o.wp Tryz.prog ac w K Q:=by
 obtain⟨i0,hi,hz0,hz1,hz2⟩:=info_parts Tryz.info3D
 obtain⟨w',hrun,r1,r2⟩:=run_make_full (P:=Tryz.prog) w w.heap.size 112 3 i0 (.int .i64 0) 1 Tryz.underlying112 hi hz0 hz1 .i64 .i64 n (by rw[hz2];omega) (by unfold maxLen;omega) (Nat.le_refl _)
 unfold Oper.wp
 simp[execOp,ho,hl,hc,hrun,Result.andThen]
 refine h w' ?_ ((Below.refl _ _).grown r2 (Nat.le_refl _) (fun k hk=>by cases hk))
 obtain⟨_,h1 | ⟨g,cap,cur,hv,_,hg,_,_,hsz,htk⟩⟩:=r1
 ·exact absurd h1.1 (by simp)
 ·injection hv with e1 e2 e3
  subst e3
  injection e1 with e1
  injection e1 with e1
  subst e1
  rw[hg]
  have htk:cur.toList.take (n*1)=(madeCells #[Value.int .i64 0] (n*1)).toList:=htk
  rw[toList_madeCells_one,List.take_of_length_le (by rw[Array.length_toList,hsz];exact Nat.le_refl _)] at htk
  have:cur=arr .i64 (List.replicate n 0):=by
   apply Array.toList_inj.1
   rw[htk]
   simp[arr]
  rw[this]
structure Qu0 (w:World) (ga gd:Nat) (wr:World) (K D:List Nat):Prop where
 ks:wr.heap[ga]?=some (.cells (arr .i64 K) 3 (0,0))
 ds:wr.heap[gd]?=some (.cells (arr .i64 D) 3 (0,0))
 ne:ga≠gd
 ba:w.heap.size<=ga
 bd:w.heap.size<=gd
 bel:Below w.heap.size w wr
theorem Qu0.later{w wr w':World}{ga gd:Nat}{K D:List Nat}(h:Qu0 w ga gd wr K D)(hb:Below wr.heap.size wr w'):Qu0 w ga gd w' K D:=by
 have hlt:∀ {g:Nat} {o:Obj},wr.heap[g]?=some o->g<wr.heap.size:=fun {g o} e=>by
  by_cases c:g<wr.heap.size
  ·exact c
  ·rw[Array.getElem?_eq_none (by omega)] at e;cases e
 exact⟨(hb.block _ (hlt h.ks)).trans h.ks,(hb.block _ (hlt h.ds)).trans h.ds,h.ne,h.ba,h.bd,Bn h.bel hb⟩
theorem Qu0.putK{w wr:World}{ga gd:Nat}{K D:List Nat}(h:Qu0 w ga gd wr K D)(i v:Nat):Qu0 w ga gd (wr.setCell ⟨ga,i,none⟩ (.int .i64 (v:Int))) (K.set i v) D:=by
 refine⟨?_,?_,h.ne,h.ba,h.bd,h.bel.setCell h.ba _⟩
 ·rw[Joins.block_setCell h.ks,Qdf]
 ·rw[Qac h.ks (Ne.symm h.ne)];exact h.ds
theorem Qu0.putD{w wr:World}{ga gd:Nat}{K D:List Nat}(h:Qu0 w ga gd wr K D)(i v:Nat):Qu0 w ga gd (wr.setCell ⟨gd,i,none⟩ (.int .i64 (v:Int))) K (D.set i v):=by
 refine⟨?_,?_,h.ne,h.ba,h.bd,h.bel.setCell h.bd _⟩
 ·rw[Qac h.ds h.ne];exact h.ks
 ·rw[Joins.block_setCell h.ds,Qdf]
def Mz(B:Nat)(W:World)(u:Value)(n:Nat):Prop:=∃g,u= .slice (some ⟨g,0,none⟩) n n∧B<=g∧W.heap[g]?=some (.cells (arr .i64 (List.replicate n 0)) 3 (0,0))
theorem Mz.lt{B:Nat}{W:World}{u:Value}{n:Nat}(h:Mz B W u n):∃g,u= .slice (some ⟨g,0,none⟩) n n∧g<W.heap.size:=by
 obtain⟨g,h1,_,h3⟩:=h
 refine⟨g,h1,?_⟩
 by_cases c:g<W.heap.size
 ·exact c
 ·rw[Array.getElem?_eq_none (by omega)] at h3;cases h3
theorem Mz.later{B:Nat}{W W':World}{u:Value}{n:Nat}(h:Mz B W u n)(hb:Below W.heap.size W W'):Mz B W' u n:=by
 obtain⟨g,h1,h2,h3⟩:=h
 have hg:g<W.heap.size:=by
  by_cases c:g<W.heap.size
  ·exact c
  ·rw[Array.getElem?_eq_none (by omega)] at h3;cases h3
 exact⟨g,h1,h2,(hb.block _ hg).trans h3⟩
def T1(s u4 u5 u9 u10:Value):Array Value:= #[s,undef,.slice none 0 0,.slice none 0 0,u4,u5,undef,undef,undef,u9,u10,undef,undef,undef,undef,undef,undef,undef,undef,undef,undef,undef,undef,undef,undef,undef,undef,undef,undef,undef,undef,undef,undef,undef,undef,undef,undef,undef,undef,undef,undef,undef,undef,undef,undef,undef,undef,undef,undef,undef,undef,undef]
structure I1 (s:Value) (w:World) (l:Array Bool) (a:Act) (W:World):Prop where
 size:l.size=4
 bel:Below w.heap.size w W
 fr:∃u4 u5 u9 u10,a=⟨T1 s u4 u5 u9 u10,[]⟩∧(l.getD 0 false=true->Mz w.heap.size W u9 511)∧(l.getD 1 false=true->Mz w.heap.size W u10 13)∧(l.getD 0 false=true->l.getD 1 false=true->u9.ownBlock≠u10.ownBlock) ∧
  (l.getD 2 false=true->l.getD 0 false=true∧u4=u9)∧(l.getD 3 false=true->l.getD 1 false=true∧u5=u10)
theorem Qug(a:Option Addr)(cap:Nat)(l:List Tkz)(w:World)(hr:Rt w a cap l)(hn:l.length<=100000)(hall:∀j,j<l.length->Qew (l.getD j tk0)=0):
 Calls Tryz.prog 71 #[.slice a l.length cap] w fun e w'=>∃ga gd,e= .returned (.tuple #[.slice (some ⟨ga,0,none⟩) 511 511,.slice (some ⟨gd,0,none⟩) 13 13])∧Ri w' .i64 (some ⟨ga,0,none⟩) 511 (Qev (Qau l l.length))∧Ri w' .i64 (some ⟨gd,0,none⟩) 13 (Qev (Qar l l.length))∧Below w.heap.size w w':=by
 have hroom:=hr.room
 have hmost:=hr.most
 unfold maxLen at hmost
 have HR:=hid hr
 have HALL:=hid hall
 obtain⟨len,hle⟩:∃n,n=l.length:=⟨_,rfl⟩
 have HL:=hid hle
 rw[<-hle] at hn hroom|-
 clear hr hle hall
 go_enter Tryz.func71,Tryz.ntmps71
 go_wp2_with fail
 refine Inv.region (I1 (.slice a len cap) w) (by kernel_rfl) ?start ?step ?fin
 case start=>
  refine⟨rfl,(Below.refl _ _).drew,undef,undef,undef,undef,rfl,?_,?_,?_,?_,?_⟩<;>intro h<;>cases h
 case step=>
  intro l1 a1 W hI i o ho hl hdep
  obtain⟨hsz,hbl,u4,u5,u9,u10,rfl,f0,f1,f01,f2,f3⟩:=hI
  have hlt:=Inv.Xf7 hl
  have hi4:i=0∨i=1∨i=2∨i=3:=by omega
  have hb:=fun j=>Inv.Qtk (l:=l1) (i:=i) j hlt
  have hs2:(l1.setIfInBounds i true).size=4:=by rw[Inv.Quk];exact hsz
  rcases hi4 with rfl | rfl | rfl | rfl
  ·injection ho with ho
   subst ho
   have hno:=Qci hl
   refine wpOp_step rfl (fun K' hK=>?_)
   rw[if_pos (by rfl)]
   refine Qv7 W _ _ 511 rfl rfl rfl (by omega) (fun W' h1 h2=>hK _ _ ⟨hs2,Bn hbl h2,u4,u5,_,u10,rfl,fun _=>⟨W.heap.size,rfl,hbl.size,h1⟩,(fun h=>(f1 (Inv.gg hb h)).later h2),(fun _ h=>?_),(fun h=>?_),(fun h=>?_)⟩)
   ·obtain⟨g,hg,hg2⟩:=(f1 (Inv.gg hb h)).lt
    subst hg
    intro e
    injection e with e
    simp at e
    omega
   ·have:=(f2 (Inv.gg hb h)).1
    rw[hno] at this;cases this
   ·have:=f3 (Inv.gg hb h)
    exact⟨by rw[hb,if_neg (by decide)];exact this.1,this.2⟩
  ·injection ho with ho
   subst ho
   have hno:=Qci hl
   refine wpOp_step rfl (fun K' hK=>?_)
   rw[if_pos (by rfl)]
   refine Qv7 W _ _ 13 rfl rfl rfl (by omega) (fun W' h1 h2=>hK _ _ ⟨hs2,Bn hbl h2,u4,u5,u9,_,rfl,(fun h=>(f0 (Inv.gg hb h)).later h2),fun _=>⟨W.heap.size,rfl,hbl.size,h1⟩,(fun h _=>?_),(fun h=>?_),(fun h=>?_)⟩)
   ·obtain⟨g,hg,hg2⟩:=(f0 (Inv.gg hb h)).lt
    subst hg
    intro e
    injection e with e
    simp at e
    omega
   ·have:=f2 (Inv.gg hb h)
    exact⟨by rw[hb,if_neg (by decide)];exact this.1,this.2⟩
   ·have:=(f3 (Inv.gg hb h)).1
    rw[hno] at this;cases this
  ·injection ho with ho
   subst ho
   refine wpOp_step rfl (fun K' hK=>?_)
   rw[if_pos (by rfl)]
   have d0:=hdep {on:=0,ground:= .data} (by simp) (by rfl)
   go_simp
   exact hK _ _ ⟨hs2,hbl,_,u5,u9,u10,rfl,(fun h=>f0 d0),(fun h=>f1 (Inv.gg hb h)),(fun _ h=>f01 d0 (Inv.gg hb h)),(fun _=>⟨by rw[hb,if_neg (by decide)];exact d0,rfl⟩),(fun h=>by have:=f3 (Inv.gg hb h);exact⟨by rw[hb,if_neg (by decide)];exact this.1,this.2⟩)⟩
  ·injection ho with ho
   subst ho
   refine wpOp_step rfl (fun K' hK=>?_)
   rw[if_pos (by rfl)]
   have d1:=hdep {on:=1,ground:= .data} (by simp) (by rfl)
   go_simp
   exact hK _ _ ⟨hs2,hbl,u4,_,u9,u10,rfl,(fun h=>f0 (Inv.gg hb h)),(fun h=>f1 d1),(fun h _=>f01 (Inv.gg hb h) d1),(fun h=>by have:=f2 (Inv.gg hb h);exact⟨by rw[hb,if_neg (by decide)];exact this.1,this.2⟩),(fun _=>⟨by rw[hb,if_neg (by decide)];exact d1,rfl⟩)⟩
 case fin=>
  intro l1 a1 W hI hready
  obtain⟨hsz,hbl,u4,u5,u9,u10,rfl,f0,f1,f01,f2,f3⟩:=hI
  have d0:=Inv.done (j:=0) hready rfl (by omega) (by simp)
  have d1:=Inv.done (j:=1) hready rfl (by omega) (by simp)
  have d2:=Inv.done (j:=2) hready rfl (by omega) (fun e he _=>by simp at he;(repeat (rcases he with rfl | he;· assumption));all_goals (subst he;assumption))
  have d3:=Inv.done (j:=3) hready rfl (by omega) (fun e he _=>by simp at he;(repeat (rcases he with rfl | he;· assumption));all_goals (subst he;assumption))
  obtain⟨ga,rfl,hga,hka⟩:=f0 d0
  obtain⟨gd,rfl,hgd,hkd⟩:=f1 d1
  obtain⟨_,rfl⟩:=f2 d2
  obtain⟨_,rfl⟩:=f3 d3
  have hne:ga≠gd:=fun e=>f01 d0 d1 (by subst e;rfl)
  have HM:Hid (Qu0 w ga gd W (Qau l 0) (Qar l 0)):=⟨hka,hkd,hne,hga,hgd,hbl⟩
  clear f0 f1 f01 f2 f3 d0 d1 d2 d3 hka hkd hready hsz hbl
  show Exit.then _ _ Exit.normal ⟨#[.slice a len cap,undef,.slice none 0 0,.slice none 0 0,.slice (some ⟨ga,0,none⟩) 511 511,.slice (some ⟨gd,0,none⟩) 13 13,undef,undef,undef,.slice (some ⟨ga,0,none⟩) 511 511,.slice (some ⟨gd,0,none⟩) 13 13,undef,undef,undef,undef,undef,undef,undef,undef,undef,undef,undef,undef,undef,undef,undef,undef,undef,undef,undef,undef,undef,undef,undef,undef,undef,undef,undef,undef,undef,undef,undef,undef,undef,undef,undef,undef,undef,undef,undef,undef,undef],[]⟩ W
  go_wp2_with fail
  go_loopw [6] (fun x wr=>∃k:Nat,k<=len∧x= .int .i64 (k:Int)∧Hid (Qu0 w ga gd wr (Qau l k) (Qar l k))) (fun x _=>len-(intOf x).toNat)
  case atStart=>exact⟨0,by omega,rfl,HM.out⟩
  case round=>
   obtain⟨k,hk,rfl,HMK⟩:=hrel
   clear HM
   by_cases hlt:k<len
   ·have hkz:(k:Int)<(len:Int):=by omega
    have hbel:=HMK.out.bel
    obtain⟨b,off,rfl,hbw,hc⟩:=HR.out.cells (by rw[<-HL.out];omega)
    obtain⟨c0,c1,c2⟩:=hc k (by rw[<-HL.out];exact hlt)
    have d0:=(hbel.cell (p:=⟨b,off+k*3,none⟩) hbw).trans c0
    have d1:=(hbel.cell (p:=⟨b,off+k*3+1,none⟩) hbw).trans c1
    have d2:=(hbel.cell (p:=⟨b,off+k*3+2,none⟩) hbw).trans c2
    have h8:=wf_u8 (HR.out.fits k (by rw[<-HL.out];exact hlt)).2.2
    have htwo:=Qf9 (HALL.out k (by rw[<-HL.out];exact hlt)) h8
    have HKN:Hid (Qau l (k+1)=upL (Qau l k) (Qff (l.getD k tk0)).toNat):=rfl
    have HDN:Hid (Qar l (k+1)=if 0<(l.getD k tk0).1 then upL (Qar l k) (Qfy (l.getD k tk0).1).toNat else Qar l k):=rfl
    have HKL:=hid (Qa7 l k)
    have HDL:=hid (Qa2 l k)
    have HKE:=hid (Qe6 l k)
    have HDE:=hid (Qec l k)
    have HCK:=hid (Qkz (l.getD k tk0) wr (by rcases htwo with h | h;exact Or.inl h.1;exact Or.inr ⟨h.2.2.1,h.2.2.2.1⟩) h8)
    generalize Qau l k=KK at *
    generalize Qar l k=DD at *
    obtain⟨KK1,hk1⟩:∃x,x=Qau l (k+1):=⟨_,rfl⟩
    obtain⟨DD1,hd1⟩:∃x,x=Qar l (k+1):=⟨_,rfl⟩
    rw[<-hk1] at HKN
    rw[<-hd1] at HDN
    have HK1:=hid hk1
    have HDD1:=hid hd1
    clear hk1 hd1
    clear hc c0 c1 c2 h8
    generalize l.getD k tk0=t at *
    have hsr:0<=Qff t∧Qff t<511:=by rcases htwo with h | h;exact h.2;exact h.2.2.2.2
    obtain⟨s,hs⟩:=Int.eq_ofNat_of_zero_le hsr.1
    rw[hs] at HCK HKN
    rw[Int.toNat_natCast] at HKN
    have hs511:(s:Int)<511:=by omega
    have hd:t.1=0∨(1<=t.1∧t.1<=4096):=by rcases htwo with h | h;exact Or.inl h.1;exact Or.inr ⟨h.1,h.2.1⟩
    clear htwo hs hsr
    obtain⟨d,n,x⟩:=t
    unfold zC at HCK
    dsimp only at *
    have HCB:Hid (∀V,Below wr.heap.size wr V->V.cell? ⟨b,off+k*3,none⟩=some (.int .i64 d)):=fun V hV=>(hV.cell (p:=⟨b,off+k*3,none⟩) (Nat.lt_of_lt_of_le hbw hbel.size)).trans d0
    have HM0:=HMK
    clear hbel HMK
    go_wp2_with fail
    refine HCK.out.mono ?_
    rintro _ w2 ⟨rfl,hb2⟩
    have HM2:=hid (HM0.out.later hb2)
    have HBA:=hid HM2.out.ba
    have e2:=HCB.out w2 hb2
    have HE2:=hid e2
    clear hb2 HCK HM0 d0 d1 d2 e2
    have ck:=(Joins.cell_of_block HM2.out.ks s).trans (Qas .i64 _ s (by rw[HKL.out];omega))
    have fk:=Joins.unfrozen_of_block HM2.out.ks s
    have hv:=HKE.out s
    have HM3:=hid (HM2.out.putK s (KK.getD s 0+1))
    have HE3:Hid ((w2.setCell ⟨ga,s,none⟩ (.int .i64 ((KK.getD s 0+1:Nat):Int))).cell? ⟨b,off+k*3,none⟩=some (.int .i64 d)):=by
     show _=_
     rw[Qjh (Qac HM2.out.ks (by have:=HBA.out;omega) _)];exact HE2.out
    have hup:KK.set s (KK.getD s 0+1)=KK1:=by rw[HKN.out];rfl
    rw[hup] at HM3
    clear hup
    generalize KK.getD s 0=v at *
    have hv1:((v+1:Nat):Int)=(v:Int)+1:=by omega
    rw[hv1] at HM3 HE3
    clear hv1 HM2 HE2 HCB
    have m0:=HE3.out
    rcases hd with hd | hd
    ·subst hd
     have HD1:Hid (DD1=DD):=by show _=_;rw[HDN.out,if_neg (by omega)]
     rw[<-HD1.out] at HM3
     clear HD1 HDN HDE HDL HE3
     go_wp2
     exact⟨⟨k+1,by omega,by go_num,by rw[<-HK1.out,<-HDD1.out];exact HM3.out⟩,by simp[intOf];omega⟩
    ·obtain⟨hd1,hd2⟩:=hd
     have hdr:=Qgl hd1 hd2
     obtain⟨q,hq⟩:=Int.eq_ofNat_of_zero_le hdr.1
     have hq13:(q:Int)<13:=by omega
     have hpos:0<d:=by omega
     have HDW:=hid (Qqi d (w2.setCell ⟨ga,s,none⟩ (.int .i64 ((v:Int)+1))) hd1 hd2)
     rw[hq] at HDW
     have HDN2:Hid (DD1=upL DD q):=by show _=_;rw[HDN.out,if_pos hpos,hq];rfl
     clear HDN hdr hq HE3
     go_wp2_with fail
     go_at_call 77
     refine HDW.out.mono ?_
     rintro _ w4 ⟨rfl,hw⟩
     obtain rfl:=hw.symm
     clear hw HDW m0 ck fk
     generalize w2.setCell ⟨ga,s,none⟩ (.int .i64 ((v:Int)+1))=W3 at *
     have cd:=(Joins.cell_of_block HM3.out.ds q).trans (Qas .i64 _ q (by rw[HDL.out];omega))
     have fd:=Joins.unfrozen_of_block HM3.out.ds q
     have hu:=HDE.out q
     have HM4:=hid (HM3.out.putD q (DD.getD q 0+1))
     have hup:DD.set q (DD.getD q 0+1)=DD1:=by rw[HDN2.out];rfl
     rw[hup] at HM4
     clear hup HDN2 HM3
     generalize DD.getD q 0=u at *
     have hu1:((u+1:Nat):Int)=(u:Int)+1:=by omega
     rw[hu1] at HM4
     clear hu1
     go_wp2
     exact⟨⟨k+1,by omega,by go_num,by rw[<-HK1.out,<-HDD1.out];exact HM4.out⟩,by simp[intOf];omega⟩
   ·obtain rfl:k=len:=by omega
    have HK2:=hid (Qa7 l k)
    have HD2:=hid (Qa2 l k)
    have HKE:=hid (Qe6 l k)
    have HDE:=hid (Qec l k)
    have HRA:=hid (Qv1 HMK.out.ks (by rw[HK2.out];omega) (fun j=>by have:=HKE.out j;omega))
    have HRD:=hid (Qv1 HMK.out.ds (by rw[HD2.out];omega) (fun j=>by have:=HDE.out j;omega))
    rw[HK2.out] at HRA
    rw[HD2.out] at HRD
    go_wp2
    go_ret2
    exact⟨ga,gd,rfl,HRA.out,HRD.out,HMK.out.bel⟩
end
section
open Go.RowKit Hf
namespace Hf
def Qi3(wt inn:Nat->Int)(no:Int):Nat->Int
 | 0=> -1
 | k+1=>if (k:Int)≠no∧inn k<0∧(Qi3 wt inn no k<0∨wt k<wt (Qi3 wt inn no k).toNat) then (k:Int) else Qi3 wt inn no k
theorem Qvg(wt inn:Nat->Int)(no:Int):∀k, -1<=Qi3 wt inn no k∧Qi3 wt inn no k<(k:Int)∨(k=0∧Qi3 wt inn no k= -1)
 | 0=>Or.inr ⟨rfl,rfl⟩
 | k+1=>by
   left
   rw[Qi3]
   have:=Qvg wt inn no k
   split<;>omega
end Hf
theorem Xcu(g n cap:Nat)(no:Int)(wt inn:Nat->Int)(w:World)(hn:n<=100000)(hg:g<w.heap.size)
 (hc:∀i,i<n->w.cell? ⟨g,i*3,none⟩=some (.int .i64 (wt i))∧w.cell? ⟨g,i*3+1,none⟩=some (.int .i64 (inn i))) :
 Calls Tryz.prog 136 #[.slice (some ⟨g,0,none⟩) n cap,.int .i64 no] w fun e w'=>e= .returned (.int .i64 (Qi3 wt inn no n))∧Below w.heap.size w w':=by
 have HC:=hid hc
 clear hc
 go_enter Tryz.func136,Tryz.ntmps136
 go_wp2
 go_loopw [5,6] (fun x y wr=>∃k:Nat,k<=n∧x= .int .i64 (Qi3 wt inn no k)∧y= .int .i64 k∧Hid (Below w.heap.size w wr)) (fun _ y _=>n-(intOf y).toNat)
 case atStart=>exact⟨0,by omega,rfl,rfl,Below.refl _ _⟩
 case round=>
  obtain⟨k,hk,rfl,rfl,HB⟩:=hrel
  by_cases hlt:k<n
  ·have hkz:(k:Int)<(n:Int):=by omega
   have HL:=hid (show Qi3 wt inn no (k+1)=if (k:Int)≠no∧inn k<0∧(Qi3 wt inn no k<0∨wt k<wt (Qi3 wt inn no k).toNat) then (k:Int) else Qi3 wt inn no k from rfl)
   have hr:=Qvg wt inn no k
   have c1:wr.cell? ⟨g,k*3,none⟩=some (.int .i64 (wt k)):=(HB.out.cell (p:=⟨g,k*3,none⟩) hg).trans (HC.out k hlt).1
   have c2:wr.cell? ⟨g,k*3+1,none⟩=some (.int .i64 (inn k)):=(HB.out.cell (p:=⟨g,k*3+1,none⟩) hg).trans (HC.out k hlt).2
   by_cases h1:(k:Int)=no
   ·have e1:((k:Int) != no)=false:=by simp[h1]
    rw[if_neg (fun h=>h.1 h1)] at HL
    clear h1
    generalize Qi3 wt inn no k=best at *
    go_wp2_with fail
    go_big_quiet (fail)
    have HB2:=hid (Qap HB.out nq)
    clear c1 c2 HB
    generalize wr.drewN nq=W at *
    go_wp2
    exact⟨⟨k+1,by omega,by rw[HL.out],by go_num,HB2⟩,by simp[intOf];omega⟩
   ·have e1:((k:Int) != no)=true:=by simp[h1]
    by_cases h2:inn k<0
    ·by_cases h3:Qi3 wt inn no k<0
     ·rw[if_pos ⟨h1,h2,Or.inl h3⟩] at HL
      clear h1
      generalize Qi3 wt inn no k=best at *
      generalize inn k=y at *
      generalize wt k=x at *
      go_wp2_with fail
      go_big_quiet (fail)
      have HB2:=hid (Qap HB.out nq)
      clear c1 c2 HB
      generalize wr.drewN nq=W at *
      go_wp2
      exact⟨⟨k+1,by omega,by rw[HL.out],by go_num,HB2⟩,by simp[intOf];omega⟩
     ·obtain⟨q,hq⟩:∃q:Nat,Qi3 wt inn no k=(q:Int):=⟨(Qi3 wt inn no k).toNat,by omega⟩
      rw[hq,Int.toNat_natCast] at HL
      have hqk:q<k:=by omega
      have hqn:(q:Int)<(n:Int):=by omega
      have c3:wr.cell? ⟨g,q*3,none⟩=some (.int .i64 (wt q)):=(HB.out.cell (p:=⟨g,q*3,none⟩) hg).trans (HC.out q (by omega)).1
      have h3':¬(q:Int)<0:=by omega
      have h3d:decide ((q:Int)<0)=false:=decide_eq_false h3'
      by_cases h4:wt k<wt q
      ·rw[if_pos ⟨h1,h2,Or.inr h4⟩] at HL
       rw[hq]
       clear h1 h3 hr hq
       generalize inn k=y at *
       generalize wt k=x at *
       generalize wt q=z at *
       go_wp2_with fail
       go_big_quiet (fail)
       have HB2:=hid (Qap HB.out nq)
       clear c1 c2 c3 HB
       generalize wr.drewN nq=W at *
       go_wp2
       exact⟨⟨k+1,by omega,by rw[HL.out],by go_num,HB2⟩,by simp[intOf];omega⟩
      ·rw[if_neg (fun h=>by rcases h.2.2 with h | h;exact h3' h;exact h4 h)] at HL
       have h4d:decide (wt k<wt q)=false:=decide_eq_false h4
       rw[hq]
       clear h1 h3 hr hq
       generalize inn k=y at *
       generalize wt k=x at *
       generalize wt q=z at *
       go_wp2_with fail
       go_big_quiet (fail)
       have HB2:=hid (Qap HB.out nq)
       clear c1 c2 c3 HB
       generalize wr.drewN nq=W at *
       go_wp2
       exact⟨⟨k+1,by omega,by rw[HL.out],by go_num,HB2⟩,by simp[intOf];omega⟩
    ·rw[if_neg (fun h=>h2 h.2.1)] at HL
     have h2d:decide (inn k<0)=false:=decide_eq_false h2
     clear h1
     generalize Qi3 wt inn no k=best at *
     generalize inn k=y at *
     generalize wt k=x at *
     go_wp2_with fail
     go_big_quiet (fail)
     have HB2:=hid (Qap HB.out nq)
     clear c1 c2 HB
     generalize wr.drewN nq=W at *
     go_wp2
     exact⟨⟨k+1,by omega,by rw[HL.out],by go_num,HB2⟩,by simp[intOf];omega⟩
  ·have hkz:¬(k:Int)<(n:Int):=by omega
   obtain rfl:k=n:=by omega
   go_wp2
   go_ret
   exact⟨rfl,HB.out⟩
end
section
namespace Hf
theorem Qij{wt inn:Nat->Int}{no:Int}{x:Nat}(h1:(x:Int)≠no)(h2:inn x<0):
 ∀n:Nat,(∀y:Nat,y<n->(y:Int)≠no->inn y<0->y≠x->wt x<wt y∨(wt x=wt y∧x<y))->(n<=x->Qi3 wt inn no n= -1∨∃y:Nat,Qi3 wt inn no n=(y:Int)∧y<n∧(y:Int)≠no∧inn y<0)∧(x<n->Qi3 wt inn no n=(x:Int))
 | 0,_=>⟨fun _=>Or.inl rfl,fun h=>by omega⟩
 | n+1,h=>by
   have ih:=Qij h1 h2 n (fun y hy=>h y (by omega))
   refine⟨fun hx=>?_,fun hx=>?_⟩
   ·rw[Qi3]
    split
    ·rename_i hc
     exact Or.inr ⟨n,rfl,by omega,hc.1,hc.2.1⟩
    ·rcases ih.1 (by omega) with e | ⟨y,e,hy,hn,hi⟩
     ·exact Or.inl e
     ·exact Or.inr ⟨y,e,by omega,hn,hi⟩
   ·by_cases e:n=x
    ·subst e
     rw[Qi3,if_pos]
     refine⟨h1,h2,?_⟩
     rcases ih.1 (Nat.le_refl _) with e | ⟨y,e,hy,hn,hi⟩
     ·left;omega
     ·right
      rw[e,Int.toNat_natCast]
      have:=h y (by omega) hn hi (by omega)
      omega
    ·rw[Qi3,ih.2 (by omega),if_neg]
     intro hc
     rw[Int.toNat_natCast] at hc
     have:=h n (by omega) hc.1 hc.2.1 e
     omega
theorem Qrq{wt inn:Nat->Int}{no:Int}:∀n:Nat,(∀y:Nat,y<n->(y:Int)=no∨¬inn y<0)->Qi3 wt inn no n= -1
 | 0,_=>rfl
 | n+1,h=>by
   rw[Qi3,if_neg,Qrq n (fun y hy=>h y (by omega))]
   intro hc
   rcases h n (by omega) with e | e
   ·exact hc.1 e
   ·exact e hc.2.1
structure DS where
 W:List Int
 I:List Int
def Qmx(d:DS)(no:Int):Int:=Qi3 (fun i=>d.W.getD i 0) (fun i=>d.I.getD i 0) no d.W.length
def Qmr(d:DS):DS:=
 ⟨d.W++ [d.W.getD (Qmx d (-1)).toNat 0+d.W.getD (Qmx d (Qmx d (-1))).toNat 0],
  ((d.I.set (Qmx d (-1)).toNat (d.W.length:Int)).set (Qmx d (Qmx d (-1))).toNat (d.W.length:Int))++ [-1]⟩
def Xkd(cs:List Int):DS:=⟨(nz cs cs.length).map (key cs),List.replicate (nz cs cs.length).length (-1)⟩
def Qcz(cs:List Int):Nat->DS
 | 0=>Xkd cs
 | t+1=>Qmr (Qcz cs t)
structure Pi (m:Nat) (N:Nodes) (f:Nat->Nat):Prop where
 low:∀j,j<m->f j<m
 high:∀j,m<=j->f j=j
 inj:∀i j,i<m->j<m->f i=f j->i=j
 sur:∀i,i<m->∃j,j<m∧f j=i
 ord:∀i j,i<j->j<m->wt N i<wt N j∨(wt N i=wt N j∧f i<f j)
theorem Pi.inj'{m:Nat}{N:Nodes}{f:Nat->Nat}(h:Pi m N f){i j:Nat}(e:f i=f j):i=j:=by
 by_cases hi:i<m<;>by_cases hj:j<m
 ·exact h.inj i j hi hj e
 ·have:=h.low i hi;rw[h.high j (by omega)] at e;omega
 ·have:=h.low j hj;rw[h.high i (by omega)] at e;omega
 ·rw[h.high i (by omega),h.high j (by omega)] at e;exact e
theorem Pi.sur'{m:Nat}{N:Nodes}{f:Nat->Nat}(h:Pi m N f)(i:Nat):∃j,f j=i∧(i<m->j<m)∧(m<=i->j=i):=by
 by_cases hi:i<m
 ·obtain⟨j,hj,e⟩:=h.sur i hi
  exact⟨j,e,fun _=>hj,fun h=>by omega⟩
 ·exact⟨i,h.high i (by omega),fun h=>by omega,fun _=>rfl⟩
theorem Qve{n:Nat}{N:Nodes}{f:Nat->Nat}{l p:Nat}(hf:Pi n N f)(hp:∀i j,n<=i->i<=j->j<N.length->wt N i<=wt N j)(ln:l<=n)(np:n<=p)(pl:p<=N.length)(hfree:0<(n-l)+(N.length-p)):
 ∀j,((l<=j∧j<n)∨(p<=j∧j<N.length))->j≠takeA n N l p->wt N (takeA n N l p)<wt N j∨(wt N (takeA n N l p)=wt N j∧f (takeA n N l p)<f j):=by
 intro j hj hne
 have h1:=take_one (n:=n) (N:=N) ln np pl hfree
 unfold takeA at hne|-
 cases hu:Qb5 n N l p with
 | true=>
   rw[hu] at hne
   simp only[if_true] at hne|-
   have hl:l<n:=by
    unfold Qb5 at hu
    rw[Bool.or_eq_true,beq_iff_eq,Bool.and_eq_true,decide_eq_true_eq] at hu
    omega
   rcases hj with hj | hj
   ·exact hf.ord l j (by omega) hj.2
   ·unfold Qb5 at hu
    rw[Bool.or_eq_true,beq_iff_eq,Bool.and_eq_true,decide_eq_true_eq,decide_eq_true_eq] at hu
    have h2:=hp p j np hj.1 hj.2
    have h3:=hf.low l hl
    rw[hf.high j (by omega)]
    omega
 | false=>
   rw[hu] at hne
   simp only[Bool.false_eq_true,if_false] at hne|-
   unfold Qb5 at hu
   rw[Bool.or_eq_false_iff,Bool.and_eq_false_iff,decide_eq_false_iff_not,decide_eq_false_iff_not] at hu
   rcases hj with hj | hj
   ·left
    have h2:¬wt N l<=wt N p:=by
     rcases hu.2 with h | h
     ·omega
     ·exact h
    by_cases e:l=j
    ·subst e;omega
    ·have:=hf.ord l j (by omega) hj.2;omega
   ·have h2:=hp p j np hj.1 hj.2
    rw[hf.high p np,hf.high j (by omega)]
    omega
structure PS (n t:Nat) (s:TS):Prop where
 pair:∀i j,n<=i->i<=j->j<n+t->wt s.N i<=wt s.N j
 last:0<t->∀i j,i≠j->((s.l<=i∧i<n)∨(s.p<=i∧i<n+t))->((s.l<=j∧j<n)∨(s.p<=j∧j<n+t))->wt s.N (n+t-1)<=wt s.N i+wt s.N j
theorem PS.step{n:Nat}{C:Int}{t:Nat}{s:TS}(h:TI n C t s)(hl:∀i j,i<=j->j<n->wt s.N i<=wt s.N j)(hP:PS n t s)(ht:t+2<=n):PS n (t+1) (Qcc n s):=by
 have hlen:=h.len
 have hln:=h.ln
 have hnp:=h.np
 have hpl:=h.pl
 have hcnt:=h.cnt
 have hpos:=h.pos
 obtain⟨_,_,_,s4,s5⟩:=Qf3 h ht
 obtain⟨a1,a2,a3,a4,a5,_,a7⟩:=take_one (n:=n) (N:=s.N) (l:=s.l) (p:=s.p) h.ln h.np (by omega) (by omega)
 obtain⟨b1,b2,b3,b4,b5,_,b7⟩:=take_one (n:=n) (N:=s.N) (l:=Qa0 n s.N s.l s.p) (p:=Qay n s.N s.l s.p) a2 a3 a4 (by omega)
 have m1:=Qkk (n:=n) (N:=s.N) (l:=s.l) (p:=s.p) hl (by rw[hlen];exact hP.pair) h.np
 have m2:=Qkk (n:=n) (N:=s.N) (l:=Qa0 n s.N s.l s.p) (p:=Qay n s.N s.l s.p) hl (by rw[hlen];exact hP.pair) a3
 have hA:Qfb n s=takeA n s.N s.l s.p:=rfl
 have hB:Qfe n s=takeA n s.N (Qa0 n s.N s.l s.p) (Qay n s.N s.l s.p):=rfl
 rw[<-hA] at a1 a7 m1
 rw[<-hB] at b1 b7 m2
 have hl2:(Qcc n s).l=Qa0 n s.N (Qa0 n s.N s.l s.p) (Qay n s.N s.l s.p):=rfl
 have hp2:(Qcc n s).p=Qay n s.N (Qa0 n s.N s.l s.p) (Qay n s.N s.l s.p):=rfl
 rw[<-hl2,<-hp2] at b5 b7
 rw[<-hl2] at b2
 rw[<-hp2] at b3 b4
 rw[hlen] at a1 a4 a7 b1 b4 b7 m1 m2 s4 s5
 have hlast:=hP.last
 clear hA hB hl2 hp2
 generalize Qfb n s=A at *
 generalize Qfe n s=B at *
 generalize Qa0 n s.N s.l s.p=l1 at *
 generalize Qay n s.N s.l s.p=p1 at *
 have fA:(s.l<=A∧A<n)∨(s.p<=A∧A<n+t):=by omega
 have fB:(s.l<=B∧B<n)∨(s.p<=B∧B<n+t):=by omega
 have hab:=m1 B fB
 refine⟨fun i j e1 e2 e3=>?_,fun _ i j hne e1 e2=>?_⟩
 ·by_cases c1:j<n+t
  ·rw[s4 i (by omega),s4 j c1];exact hP.pair i j e1 e2 c1
  ·obtain rfl:j=n+t:=by omega
   by_cases c2:i=n+t
   ·rw[c2];omega
   ·rw[s4 i (by omega),s5]
    have h1:=hP.pair i (n+t-1) e1 (by omega) (by omega)
    have h2:=hlast (by omega) A B (by omega) fA fB
    omega
 ·rw[show n+(t+1)-1=n+t from by omega,s5]
  have hge:∀x,x<n+t->(((Qcc n s).l<=x∧x<n)∨((Qcc n s).p<=x∧x<n+(t+1)))->wt s.N B<=wt s.N x:=fun x hx hfx=>m2 x (by omega)
  by_cases c1:i<n+t
  ·have h1:=hge i c1 e1
   rw[s4 i c1]
   by_cases c2:j<n+t
   ·have h2:=hge j c2 e2
    rw[s4 j c2];omega
   ·obtain rfl:j=n+t:=by omega
    rw[s5]
    have:=hpos i
    omega
  ·obtain rfl:i=n+t:=by omega
   rw[s5]
   have:=hpos j
   rw[s4 j (by omega)];omega
theorem Ql3(ws:List Int)(h:∀i,0<=ws.getD i 0):∀t,t+1<=ws.length->∀i,i<ws.length->wt (Qae ws t).N i=ws.getD i 0
 | 0,_,i,_=>Qdx ws i
 | t+1,ht,i,hi=>by
   have hI:=TI.run ws h t (by omega)
   have hs:=(Qf3 hI (by omega)).2.2.2.1 i (by rw[hI.len];omega)
   have e:Qae ws (t+1)=Qcc ws.length (Qae ws t):=rfl
   rw[e,hs]
   exact Ql3 ws h t (by omega) i hi
theorem PS.run(ws:List Int)(h:∀i,0<=ws.getD i 0)(hs:∀i j,i<=j->j<ws.length->ws.getD i 0<=ws.getD j 0):∀t,t+1<=ws.length->PS ws.length t (Qae ws t)
 | 0,_=>⟨fun i j a b c=>by omega,fun h=>by omega⟩
 | t+1,ht=>PS.step (TI.run ws h t (by omega)) (fun i j a b=>by rw[Ql3 ws h t (by omega) i (by omega),Ql3 ws h t (by omega) j b];exact hs i j a b) (PS.run ws h hs t (by omega)) (by omega)
end Hf
end
end Go.Proofs.YtibjlbcnapoblaaGreatDoor
