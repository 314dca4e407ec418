/- Contracts and facts. -/
import Derived.Test.YtibjlbcnapoblaaGreatDoorPart16
import Derived.Test.YtibjlbcnapoblaaGreatDoorPart03
namespace Go.Proofs.YtibjlbcnapoblaaGreatDoor
set_option maxRecDepth 100000
set_option maxHeartbeats 6400000
section
open Go.RowKit Hf
theorem Qxy(a:Option Addr)(cap:Nat)(cs:List Int)(w:World)(hr:Ri w .i64 a cap cs)(hc:Qnw cs=false):
 Calls Tryz.prog 131 #[.slice a cs.length cap] w fun e w'=>e= .returned (.tuple #[.slice none 0 0,.int .i64 50])∧w'=w:=by
 have HA:=hid (Qkp a cap cs w hr)
 rw[hc] at HA
 clear hr hc
 generalize cs.length=len at *
 go_enter Tryz.func131,Tryz.ntmps131
 go_wp2_with fail
 refine HA.out.mono ?_
 rintro _ w1 ⟨rfl,hw⟩
 obtain rfl:=hw.symm
 clear hw
 go_wp2
 go_ret2
 exact⟨rfl,rfl⟩
theorem Qm7(ad:Addr)(cap:Nat)(cs:List Int)(w:World)(hr:Ri w .i64 (some ad) cap cs)(hn:cs.length<=1000):
 Calls Tryz.prog 148 #[.slice (some ad) cs.length cap] w fun e w'=>∃v,e= .returned v∧w'.ownsRow w.heap.size 3 1 v cs.length (cs.map (Value.int .i64))∧Below w.heap.size w w':=by
 obtain⟨i0,hi,hz0,hz1,hz2⟩:=info_parts Tryz.info3'
 have HR:=hid hr
 have ho:=World.ownsRow_lit (base:=w.heap.size) (e:=3) (size:=1) w #[] 0 (Nat.le_refl _) (by unfold maxLen;omega) rfl
 have hb:=Qab w (.cells #[] 3)
 have HRA:=hid (hr.later hb)
 have HNW:Hid (∀j u,(cs.map (Value.int .i64))[j]?=some u->(w.alloc (.cells #[] 3)).cell? (ad.add j)=some u):=by
  intro j u hj
  have hjl:j<cs.length:=by
   have:=(List.getElem?_eq_some_iff.1 hj).1
   simpa using this
  obtain⟨b,off,hbe,_,hc⟩:=HRA.out.cells (by omega)
  injection hbe with hbe
  subst hbe
  rw[Go.WideShapes.add_plain,hc j hjl,<-hj]
  simp[List.getD,List.getElem?_eq_getElem hjl]
 have HON:Hid (∀u∈cs.map (Value.int .i64),u.oneCell'=true):=by
  intro u hu
  rw[List.mem_map] at hu
  obtain⟨x,_,rfl⟩:=hu
  rfl
 have HNL:Hid ((cs.map (Value.int .i64)).length=cs.length*1):=by show _=_;simp
 have q22:∀(w:World) (a:Option Addr) (n c n' c':Nat),(binOp .eql 112 (.slice a n c) (.slice none n' c')).run Tryz.prog w= .ok (.bool a.isNone) w:=fun w a n c n' c'=>Lib.run_eql_slice_nil w _ _ a n c n' c' Tryz.underlying112
 have HOS:=hid ho
 have HBS:=hid hb
 have hmx:0+cs.length<=maxLen:=by unfold maxLen;omega
 have HMX:=hid hmx
 generalize cs.map (Value.int .i64)=news at *
 generalize cs.length=len at *
 clear hr ho hb hmx
 go_enter Tryz.func148,Tryz.ntmps148
 go_wp2_with (first
  | (at_builtin;refine wpList_append_own _ rfl _ _ 112 rfl w.heap.size 3 i0 (.int .i64 0) 1 8 Tryz.underlying112 hi hz0 hz1 hz2 rfl (by decide) _ _ _ rfl HOS.out ad len cap news rfl HNL.out HNW.out HON.out HMX.out (by omega) (by simp) ?_))
 have ho:=HOS.out
 have hb:=HBS.out
 clear HOS HBS
 intro v1 w1 hown1 hgrow _
 have HB:=hid (hb.grown hgrow (by simp) (fun j hj=>(ho.lt j hj).1))
 have HO:Hid (w1.ownsRow w.heap.size 3 1 v1 len news):=by
  show World.ownsRow _ _ _ _ _ _ _
  simpa using hown1
 clear hown1 hgrow ho hb
 go_wp2
 go_ret
 exact⟨_,rfl,HO.out,HB.out⟩
theorem Qqq(ad:Addr)(cap:Nat)(cs:List Int)(w:World)(hr:Ri w .i64 (some ad) cap cs)(hc:Qnw cs=true)(hm:(nz cs cs.length).length<=Qox)(hd:(Qaf cs).any Qbp=false)(hdf:∀j,(Lit.int .i64 ((Qaf cs).getD j 0)).wf=true):
 Calls Tryz.prog 131 #[.slice (some ad) cs.length cap] w fun e w'=>∃v,e= .returned (.tuple #[v,.int .i64 0])∧w'.ownsRow w.heap.size 3 1 v (Qaf cs).length ((Qaf cs).map (Value.int .i64))∧Below w.heap.size w w':=by
 have hcr:=Qc3 hc
 have HA:=hid (Qkp (some ad) cap cs w hr)
 rw[hc] at HA
 have HC:=hid (Qm7 ad cap cs w hr (by omega))
 have HF:=hid hr.fits
 have HD:Hid (∀(W:World) (a2:Option Addr) (c2:Nat),Ri W .i64 a2 c2 cs->Calls Tryz.prog 149 #[.slice a2 cs.length c2] W fun e w'=>∃v,e= .returned v∧w'.ownsRow W.heap.size 3 1 v (Qaf cs).length ((Qaf cs).map (Value.int .i64))∧Below W.heap.size W w'):=fun W a2 c2 h2=>Qia a2 c2 cs W h2 hcr.1 hcr.2 hm
 have HDF:=hid hdf
 have HDD:=hid hd
 clear hr hc hcr hm hd hdf
 obtain⟨len,hl⟩:∃n,n=cs.length:=⟨_,rfl⟩
 rw[<-hl] at HA HC HD|-
 have HL:=hid hl
 clear hl
 go_enter Tryz.func131,Tryz.ntmps131
 go_wp2_with fail
 refine HA.out.mono ?_
 rintro _ w1 ⟨rfl,hw⟩
 obtain rfl:=hw.symm
 clear hw
 go_wp2_with fail
 refine HC.out.mono ?_
 rintro _ w1 ⟨v1,rfl,ho1,hb1⟩
 rw[HL.out] at ho1
 obtain⟨a1,c1,rfl,hr1⟩:=Ri.own ho1 HF.out
 rw[<-HL.out]
 have HD1:=hid (HD.out w1 a1 c1 hr1)
 clear ho1 hr1 HA HC HD
 go_wp2_with fail
 refine HD1.out.mono ?_
 rintro _ w2 ⟨v2,rfl,ho2,hb2⟩
 obtain⟨a2,c2,rfl,hr2⟩:=Ri.own ho2 HDF.out
 have HX:=hid (Qh5 a2 c2 (Qaf cs) w2 hr2)
 rw[HDD.out] at HX
 have HO2:=hid (Qkv ho2 hb1.size)
 have HB2:=hid (Bn hb1 hb2)
 clear ho2 hb1 hb2 hr2 HD1
 go_wp2
 refine wp_loop_rounds 1 ?_
 rw[rounds_succ]
 go_wp2_with fail
 refine HX.out.mono ?_
 rintro _ w3 ⟨rfl,hw⟩
 obtain rfl:=hw.symm
 clear hw
 go_wp2
 go_ret2
 exact⟨_,rfl,HO2.out,HB2.out⟩
end
section
namespace Hf
theorem Qkn(M:Nat)(sy B:List Int)(u:Nat):∀k,(∀j,j<k->(sy.getD j 0).toNat<M)->(∀j,j<k->(sy.getD j 0).toNat≠u)->(Qfg M sy B k).getD u 0=0
 | 0,_,_=>by
   rw[Qfg]
   by_cases h:u<M
   ·simp[List.getD,h]
   ·simp[List.getD,h]
 | k+1,h,hn=>by
   rw[Qfg,Qb9 _ _ _ _ (by rw[Qb3];exact h k (by omega)),if_neg (fun e=>hn k (by omega) e.symm)]
   exact Qkn M sy B u k (fun j hj=>h j (by omega)) (fun j hj=>hn j (by omega))
theorem Qud(M:Nat)(sy B:List Int)(i:Nat):∀k,(∀j,j<k->(sy.getD j 0).toNat<M)->(∀j,j<k->(sy.getD j 0).toNat=(sy.getD i 0).toNat->j=i)->i<k->(Qfg M sy B k).getD (sy.getD i 0).toNat 0=B.getD i 0
 | 0,_,_,h=>by omega
 | k+1,h,hn,hi=>by
   rw[Qfg,Qb9 _ _ _ _ (by rw[Qb3];exact h k (by omega))]
   by_cases e:k=i
   ·subst e;rw[if_pos rfl]
   ·rw[if_neg (fun x=>e (hn k (by omega) x.symm))]
    exact Qud M sy B i k (fun j hj=>h j (by omega)) (fun j hj=>hn j (by omega)) (by omega)
theorem Qig(z:Int)(l:List Int):Qjp (z::l)=(if 0<z then 2^(15-z.toNat) else 0)+Qjp l:=by simp[Qjp]
theorem Qu6(v:Int):∀(zs:List Int) (i:Nat),i<zs.length->zs.getD i 0=0->Qjp (zs.set i v)=Qjp zs+(if 0<v then 2^(15-v.toNat) else 0)
 | [],i,h,_=>by simp at h
 | z::l,0,_,h=>by
   have hz:z=0:=by simpa using h
   subst hz
   rw[List.set_cons_zero,Qig,Qig,if_neg (show ¬(0:Int)<0 by omega)];omega
 | z::l,i+1,h,h0=>by
   rw[List.set_cons_succ,Qig,Qig,Qu6 v l i (by simpa using h) (by simpa using h0)];omega
theorem Xcs(M:Nat):Qjp (List.replicate M 0)=0:=by simp[Qjp]
theorem Qk2(cs:List Int){i j:Nat}(hi:i<(srt cs).length)(hj:j<(srt cs).length)(e:((srt cs).getD i 0).toNat=((srt cs).getD j 0).toNat):i=j:=by
 have h1:=Qhu cs _ (Qbt (srt cs) i hi)
 have h2:=Qhu cs _ (Qbt (srt cs) j hj)
 have e2:(srt cs).getD i 0=(srt cs).getD j 0:=by omega
 have ho:=Qpb cs
 rw[List.pairwise_iff_getElem] at ho
 have ei:(srt cs).getD i 0=(srt cs)[i]:=by simp[List.getD,List.getElem?_eq_getElem hi]
 have ej:(srt cs).getD j 0=(srt cs)[j]:=by simp[List.getD,List.getElem?_eq_getElem hj]
 by_cases c1:i<j
 ·have:=ho i j hi hj c1
  rw[<-ei,<-ej,e2] at this
  exact this.irrefl.elim
 ·by_cases c2:j<i
  ·have:=ho j i hj hi c2
   rw[<-ei,<-ej,e2] at this
   exact this.irrefl.elim
  ·omega
theorem Xc9(cs:List Int){i j:Nat}(hij:i<=j)(hj:j<(srt cs).length):key cs ((srt cs).getD i 0)<=key cs ((srt cs).getD j 0):=by
 by_cases e:i=j
 ·rw[e];omega
 ·have ho:=Qpb cs
  rw[List.pairwise_iff_getElem] at ho
  have hi:i<(srt cs).length:=by omega
  have ei:(srt cs).getD i 0=(srt cs)[i]:=by simp[List.getD,List.getElem?_eq_getElem hi]
  have ej:(srt cs).getD j 0=(srt cs)[j]:=by simp[List.getD,List.getElem?_eq_getElem hj]
  have:=ho i j hi hj (by omega)
  rw[<-ei,<-ej] at this
  unfold Lx at this;omega
theorem Xhb(cs:List Int)(u:Nat)(h:0<cs.getD u 0):∀k,u<k->(u:Int)∈nz cs k
 | 0,hk=>by omega
 | k+1,hk=>by
   rw[nz]
   by_cases e:u=k
   ·subst e;rw[if_pos h];simp
   ·have:=Xhb cs u h k (by omega)
    split
    ·exact List.mem_append.2 (Or.inl this)
    ·exact this
theorem Qpg(cs:List Int)(u:Nat)(hu:u<cs.length)(h:0<cs.getD u 0):∃j,j<(srt cs).length∧((srt cs).getD j 0).toNat=u:=by
 have hm:(u:Int)∈srt cs:=(Qg0 cs).symm.subset (Xhb cs u h _ hu)
 obtain⟨j,hj,e⟩:=Qeg hm
 exact⟨j,hj,by rw[e];simp⟩
def Qei(cs:List Int):Nodes:=(Qae (Qcb cs (srt cs)) ((srt cs).length-1)).N
theorem Qat(cs:List Int):(Qcb cs (srt cs)).length=(srt cs).length:=by simp[Qcb]
theorem Qgx(cs:List Int)(hc:∀k,0<=cs.getD k 0∧cs.getD k 0<=1073741824)(hm:2<=(srt cs).length):Ups (Qei cs)∧(Qei cs).length=2*(srt cs).length-1:=by
 have:=Qkj (Qcb cs (srt cs)) (fun i=>(Qdi cs hc (srt cs) i).1) (by rw[Qat];exact hm)
 rw[Qat] at this
 exact this
theorem Qdd(cs:List Int):(Qaf cs).length=cs.length:=by
 unfold Qaf
 split
 ·simp
 ·rw[Qb3]
theorem Qpc(cs:List Int)(hm:(srt cs).length≠1):Qaf cs=Qfg cs.length (srt cs) (Qbz (Qei cs) 0) (srt cs).length:=by
 unfold Qaf Qei Qcb;rw[if_neg hm]
theorem Qjy(cs:List Int)(j:Nat)(hj:j<(srt cs).length):((srt cs).getD j 0).toNat<cs.length:=by
 have h:=Qhu cs _ (Qbt (srt cs) j hj)
 omega
theorem Qvi(cs:List Int)(u:Nat)(h:∀j,j<(srt cs).length->((srt cs).getD j 0).toNat≠u):(Qaf cs).getD u 0=0:=by
 by_cases hm:(srt cs).length=1
 ·unfold Qaf
  rw[if_pos hm,Qb9 _ _ _ _ (by simpa using Qjy cs 0 (by omega)),if_neg (fun e=>h 0 (by omega) e.symm)]
  by_cases hu:u<cs.length
  ·simp[List.getD,hu]
  ·simp[List.getD,hu]
 ·rw[Qpc cs hm]
  exact Qkn _ _ _ _ _ (Qjy cs) h
theorem Qpi(cs:List Int)(hm:(srt cs).length=1):(Qaf cs).getD ((srt cs).getD 0 0).toNat 0=1:=by
 unfold Qaf
 rw[if_pos hm,Qb9 _ _ _ _ (by simpa using Qjy cs 0 (by omega)),if_pos rfl]
theorem Qsf(cs:List Int)(hc:∀k,0<=cs.getD k 0∧cs.getD k 0<=1073741824)(hm:2<=(srt cs).length)(j:Nat)(hj:j<(srt cs).length):(Qaf cs).getD ((srt cs).getD j 0).toNat 0=dv (Qei cs) j:=by
 obtain⟨_,hl⟩:=Qgx cs hc hm
 rw[Qpc cs (by omega),Qud _ _ _ _ _ (Qjy cs) (fun i hi e=>Qk2 cs hi hj e) hj,Qc6 _ _ _ (by omega),if_pos (Nat.zero_le _)]
theorem Qzf(cs:List Int)(hc:∀k,0<=cs.getD k 0∧cs.getD k 0<=1073741824)(hm:2<=(srt cs).length)(j:Nat)(hj:j<(srt cs).length):1<=dv (Qei cs) j:=by
 obtain⟨hu,hl⟩:=Qgx cs hc hm
 rw[Qjb hu j (by omega)]
 have:=Qny (Qei cs) (inn (Qei cs) j).toNat
 omega
theorem Qfr(cs:List Int)(hc:∀k,0<=cs.getD k 0∧cs.getD k 0<=1073741824)(u:Nat)(hu:u<cs.length):
 (cs.getD u 0=0∧(Qaf cs).getD u 0=0)∨(0<cs.getD u 0∧1<=(Qaf cs).getD u 0):=by
 have h0:=hc u
 by_cases h:0<cs.getD u 0
 ·right
  refine⟨h,?_⟩
  obtain⟨j,hj,e⟩:=Qpg cs u hu h
  by_cases hm:(srt cs).length=1
  ·obtain rfl:j=0:=by omega
   rw[<-e,Qpi cs hm];omega
  ·rw[<-e,Qsf cs hc (by omega) j hj]
   exact Qzf cs hc (by omega) j hj
 ·left
  refine⟨by omega,Qvi cs u (fun j hj e=>?_)⟩
  have:=Qhu cs _ (Qbt (srt cs) j hj)
  rw[e] at this
  omega
theorem Xig(cs:List Int)(hc:∀k,0<=cs.getD k 0∧cs.getD k 0<=1073741824):∀z∈Qaf cs,0<=z:=by
 intro z hz
 obtain⟨u,hu,e⟩:=Qeg hz
 rw[Qdd] at hu
 have:=Qfr cs hc u hu
 omega
theorem Qr4(cs:List Int)(hc:∀k,0<=cs.getD k 0∧cs.getD k 0<=1073741824)(hm:2<=(srt cs).length)(hd:∀j,j<(srt cs).length->dv (Qei cs) j<=15):
 ∀k,k<=(srt cs).length->(2:Int)^(2*(srt cs).length)*((Qjp (Qfg cs.length (srt cs) (Qbz (Qei cs) 0) k):Nat):Int)=Qsc (shr (15+2*(srt cs).length) (Qei cs)) 0 k
 | 0,_=>by rw[Qfg,Xcs,Qsc];simp
 | k+1,hk=>by
   obtain⟨_,hl⟩:=Qgx cs hc hm
   have ih:=Qr4 cs hc hm hd k (by omega)
   have hz:=Qkn cs.length (srt cs) (Qbz (Qei cs) 0) ((srt cs).getD k 0).toNat k (fun j hj=>Qjy cs j (by omega)) (fun j hj e=>by have:=Qk2 cs (show j<_ by omega) (show k<_ by omega) e;omega)
   rw[Qlh,<-ih,Qfg,Qu6 _ _ _ (by rw[Qb3];exact Qjy cs k (by omega)) hz,Qc6 _ _ _ (by omega),if_pos (Nat.zero_le _)]
   have h1:=Qzf cs hc hm k (by omega)
   have h2:=hd k (by omega)
   rw[if_pos (by omega),Nat.zero_add]
   unfold shr
   rw[show 15+2*(srt cs).length-(dv (Qei cs) k).toNat=2*(srt cs).length+(15-(dv (Qei cs) k).toNat) from by omega,Int.pow_add,Int.natCast_add,Int.mul_add]
   congr 2
theorem Xak(cs:List Int)(hc:∀k,0<=cs.getD k 0∧cs.getD k 0<=1073741824)(hm:2<=(srt cs).length)(hd:∀j,j<(srt cs).length->dv (Qei cs) j<=15):Qjp (Qaf cs)=32768:=by
 have h1:=Qr4 cs hc hm hd _ (Nat.le_refl _)
 have h2:=Xlx (Qcb cs (srt cs)) (fun i=>(Qdi cs hc (srt cs) i).1) (by rw[Qat];exact hm) (15+2*(srt cs).length) (by rw[Qat];omega)
 rw[Qat] at h2
 rw[show(Qae (Qcb cs (srt cs)) ((srt cs).length-1)).N=Qei cs from rfl,<-h1,Int.pow_add,Int.mul_comm ((2:Int)^15)] at h2
 rw[Qpc cs (by omega)]
 have h3:=Int.eq_of_mul_eq_mul_left (show(2:Int)^(2*(srt cs).length)≠0 from Int.ne_of_gt (Int.pow_pos (by omega))) h2
 have h4:(2:Int)^15=32768:=by decide
 omega
theorem Xfj(cs:List Int)(hn:cs.length<=512)(hc:∀k,0<=cs.getD k 0∧cs.getD k 0<=1073741824)(hd:(Qaf cs).any Qbp=false):Qaq (Qaf cs)=true:=by
 have hr:∀z∈Qaf cs,0<=z∧z<=15:=fun z hz=>by
  have h1:=Xig cs hc z hz
  rw[List.any_eq_false] at hd
  have h2:=hd z hz
  unfold Qbp at h2
  rw[decide_eq_true_eq] at h2
  omega
 unfold Qaq Qhl okT
 rw[Bool.and_eq_true,Bool.and_eq_true,decide_eq_true_eq,Qdd,List.all_eq_true]
 refine⟨⟨hn,fun z hz=>by have:=hr z hz;simp;omega⟩,?_⟩
 rw[Qqe _ hr,Qj0 _ hr,Qrr _ hr]
 by_cases h0:(srt cs).length=0
 ·have e:Qdg (Qaf cs)=0:=by
   unfold Qdg
   rw[List.countP_eq_zero]
   intro z hz
   obtain⟨u,hu,e⟩:=Qeg hz
   rw[<-e,Qvi cs u (fun j hj=>by omega)]
   decide
  rw[e];simp
 ·by_cases h1:(srt cs).length=1
  ·have hin:=Qjy cs 0 (by omega)
   have e:Qaf cs=(List.replicate cs.length 0).set ((srt cs).getD 0 0).toNat 1:=by unfold Qaf;rw[if_pos h1]
   have e1:Qdg (Qaf cs)=1:=by
    rw[e];unfold Qdg
    rw[List.countP_set (by simpa using hin)]
    simp
   have e2:Qmz (Qaf cs)=1:=by
    rw[e];unfold Qmz
    rw[List.countP_set (by simpa using hin)]
    simp
   rw[e1,e2];simp
  ·have hd2:∀j,j<(srt cs).length->dv (Qei cs) j<=15:=fun j hj=>by
    rw[<-Qsf cs hc (by omega) j hj]
    exact(hr _ (Hf.getD_in _ (by rw[Qdd];exact Qjy cs j hj))).2
   rw[Xak cs hc (by omega) hd2];simp
theorem Qo4(cs:List Int)(hn:cs.length<=512)(hc:∀k,0<=cs.getD k 0∧cs.getD k 0<=2):(Qaf cs).any Qbp=false:=by
 have hc':∀k,0<=cs.getD k 0∧cs.getD k 0<=1073741824:=fun k=>by have:=hc k;omega
 rw[List.any_eq_false]
 intro z hz
 unfold Qbp
 rw[decide_eq_true_eq]
 obtain⟨u,hu,e⟩:=Qeg hz
 rw[Qdd] at hu
 have hl:(srt cs).length<=512:=by have h1:=Qca cs;have h2:=Qk8 cs cs.length;omega
 by_cases h:0<cs.getD u 0
 ·obtain⟨j,hj,e2⟩:=Qpg cs u hu h
  by_cases hm:(srt cs).length=1
  ·obtain rfl:j=0:=by omega
   rw[<-e2,Qpi cs hm] at e;omega
  ·rw[<-e2,Qsf cs hc' (by omega) j hj] at e
   have hg:∀i,i<(srt cs).length->(Qcb cs (srt cs)).getD i 0=key cs ((srt cs).getD i 0):=fun i hi=>Qgr cs (srt cs) i hi
   have:=Xam (Qcb cs (srt cs)) (fun a b h1 h2=>by
    rw[Qat] at h2
    rw[hg a (by omega),hg b h2];exact Xc9 cs h1 h2) (fun i hi=>by
    rw[Qat] at hi
    rw[hg i hi]
    have h1:=Qhu cs _ (Qbt (srt cs) i hi)
    have h2:=hc ((srt cs).getD i 0).toNat
    unfold key;omega) (by rw[Qat];omega) (by rw[Qat];exact hl) j (by rw[Qat];omega)
   rw[Qat] at this
   rw[show(Qae (Qcb cs (srt cs)) ((srt cs).length-1)).N=Qei cs from rfl] at this
   omega
 ·have:=Qfr cs hc' u hu
  omega
end Hf
end
section
open Go.RowKit Hf
namespace Hf
def Qcm(c:Int):Int:=if 0<c then c/2+1 else c
def flatK(X:List Int):Nat->List Int
 | 0=>X
 | k+1=>(flatK X k).set k (Qcm (X.getD k 0))
theorem Qc9(X:List Int):∀k,(flatK X k).length=X.length
 | 0=>rfl
 | k+1=>by rw[flatK,List.length_set,Qc9 X k]
theorem Qhk(X:List Int):∀k,k<=X.length->∀p,(flatK X k).getD p 0=if p<k then Qcm (X.getD p 0) else X.getD p 0
 | 0,_,p=>by rw[flatK,if_neg (by omega)]
 | k+1,hk,p=>by
   rw[flatK,Qb9 _ _ _ _ (by rw[Qc9];omega),Qhk X k (by omega)]
   by_cases h:p=k
   ·subst h;rw[if_pos rfl,if_pos (by omega)]
   ·rw[if_neg h]
    by_cases h2:p<k
    ·rw[if_pos h2,if_pos (by omega)]
    ·rw[if_neg h2,if_neg (by omega)]
theorem Xco(X:List Int):flatK X X.length=X.map Qcm:=by
 refine List.ext_getElem (by rw[Qc9,List.length_map]) (fun i h1 h2=>?_)
 have h:=Qhk X X.length (Nat.le_refl _) i
 rw[Qc9] at h1
 rw[if_pos h1] at h
 simpa [List.getD,List.getElem?_eq_getElem h1,List.getElem?_eq_getElem (show i<(flatK X X.length).length from by rw[Qc9];exact h1)] using h
theorem Qym(X:List Int)(k:Nat)(hk:k<X.length)(h:¬0<X.getD k 0):flatK X (k+1)=flatK X k:=by
 rw[flatK]
 have e:Qcm (X.getD k 0)=(flatK X k).getD k 0:=by rw[Qhk X k (by omega),if_neg (by omega)];unfold Qcm;rw[if_neg h]
 rw[e]
 refine List.ext_getElem (by simp) (fun i h1 h2=>?_)
 rw[List.getElem_set]
 split
 ·rename_i hi;subst hi;simp[List.getD,List.getElem?_eq_getElem h2]
 ·rfl
end Hf
theorem Qse(n cap B gs:Nat)(X:List Int)(w:World)(hn:n<=100000)(hl:X.length=n)(hx:∀j,X.getD j 0<=1073741824)
 (hown:w.ownsRow B 3 1 (.slice (some ⟨gs,0,none⟩) n cap) n (X.map (Value.int .i64))) :
 Calls Tryz.prog 152 #[.slice (some ⟨gs,0,none⟩) n cap] w fun e w'=>e= .returned (.tuple #[])∧w'.ownsRow B 3 1 (.slice (some ⟨gs,0,none⟩) n cap) n ((X.map Qcm).map (Value.int .i64))∧w.grownBy w' (some gs):=by
 have HO:=hid hown
 have HL:=hid hl
 have HX:=hid hx
 clear hown hl hx
 go_enter Tryz.func152,Tryz.ntmps152
 go_wp2
 go_loopw [6] (fun y wr=>∃k:Nat,k<=n∧y= .int .i64 k∧Hid (wr.ownsRow B 3 1 (.slice (some ⟨gs,0,none⟩) n cap) n ((flatK X k).map (Value.int .i64)))∧Hid (w.grownBy wr (some gs))) (fun y _=>n-(intOf y).toNat)
 case atStart=>exact⟨0,by omega,rfl,HO,World.grownBy.refl _ _⟩
 case round=>
  clear HO
  obtain⟨k,hk,rfl,HO,HG⟩:=hrel
  by_cases hlt:k<n
  ·have hkz:(k:Int)<(n:Int):=by omega
   have HXL:Hid ((flatK X k).length=n):=by show _=_;rw[Qc9,HL.out]
   have c1:=Qa3 HO.out HXL.out k hlt
   rw[Qhk X k (by rw[HL.out];exact hk),if_neg (by omega)] at c1
   have f1:=HO.out.frozenAt k
   have h1:=HO.out.stored k (.int .i64 (Qcm (X.getD k 0)))
   rw[<-List.map_set] at h1
   have HS:Hid ((wr.setCell ⟨gs,k,none⟩ (.int .i64 (Qcm (X.getD k 0)))).ownsRow B 3 1 (.slice (some ⟨gs,0,none⟩) n cap) n ((flatK X (k+1)).map (Value.int .i64))∧w.grownBy (wr.setCell ⟨gs,k,none⟩ (.int .i64 (Qcm (X.getD k 0)))) (some gs)):=⟨h1.1,Qah HG.out h1.2⟩
   have HKP:=hid (Qym X k (by rw[HL.out];exact hlt))
   have hub:=HX.out k
   clear h1 HXL
   by_cases hz:0<X.getD k 0
   ·obtain⟨c,hc⟩:∃c:Nat,X.getD k 0=(c:Int):=⟨(X.getD k 0).toNat,by omega⟩
    have hv:Qcm (X.getD k 0)=(c:Int)/2+1:=by unfold Qcm;rw[if_pos hz,hc]
    rw[hv] at HS
    rw[hc] at c1 hz hub
    clear hv hc HKP HO HG
    obtain⟨q,hq⟩:∃q:Nat,(c:Int)/2=(q:Int):=⟨c/2,by omega⟩
    have hqb:q<=1073741824:=by omega
    have htd:(c:Int).tdiv 2=(q:Int):=by rw[Int.tdiv_eq_ediv_of_nonneg (by omega)];exact hq
    rw[hq] at HS
    clear hq
    go_wp2
    exact⟨⟨k+1,by omega,by go_num,HS.out.1,HS.out.2⟩,by simp[intOf];omega⟩
   ·have hkp:=HKP.out hz
    have HO2:Hid (wr.ownsRow B 3 1 (.slice (some ⟨gs,0,none⟩) n cap) n ((flatK X (k+1)).map (Value.int .i64))):=by show World.ownsRow _ _ _ _ _ _ _;rw[hkp];exact HO.out
    clear hkp HKP HS HO
    generalize X.getD k 0=z at *
    go_wp2
    exact⟨⟨k+1,by omega,by go_num,HO2,HG⟩,by simp[intOf];omega⟩
  ·obtain hke:k=n:=by omega
   have HO2:Hid (wr.ownsRow B 3 1 (.slice (some ⟨gs,0,none⟩) n cap) n ((X.map Qcm).map (Value.int .i64))):=by
    show World.ownsRow _ _ _ _ _ _ _
    rw[<-Xco,HL.out,<-hke];rw[<-hke] at HO;exact HO.out
   have hkz:¬(k:Int)<(n:Int):=by omega
   clear hke HO
   go_wp2
   go_end0
   exact⟨rfl,by first | exact HO2.out | simpa using HO2.out,HG.out⟩
namespace Hf
def Qak(cs:List Int):Nat->List Int
 | 0=>cs
 | k+1=>(Qak cs k).map Qcm
theorem Qal(cs:List Int):∀k,(Qak cs k).length=cs.length
 | 0=>rfl
 | k+1=>by rw[Qak,List.length_map,Qal cs k]
theorem Qm3(X:List Int)(p:Nat):(X.map Qcm).getD p 0=Qcm (X.getD p 0):=by
 simp only[List.getD,List.getElem?_map]
 cases X[p]? with
 | none=>rfl
 | some x=>rfl
theorem Qbl{cs:List Int}(hc:∀k,0<=cs.getD k 0∧cs.getD k 0<=1073741824):∀k p,0<=(Qak cs k).getD p 0∧(Qak cs k).getD p 0<=1073741824
 | 0,p=>hc p
 | k+1,p=>by
   rw[Qak,Qm3]
   have:=Qbl hc k p
   unfold Qcm;split<;>omega
theorem Qkx:∀(X:List Int),(∀x∈X,0<=x)->(X.map Qcm).sum<=X.sum
 | [],_=>by simp
 | x::X,h=>by
   rw[List.map_cons,List.sum_cons,List.sum_cons]
   have h1:=Qkx X (fun y hy=>h y (by simp[hy]))
   have h2:=h x (by simp)
   have:Qcm x<=x:=by unfold Qcm;split<;>omega
   omega
theorem Qla:∀(X:List Int),(∀x∈X,0<=x)->(∃x∈X,3<=x)->(X.map Qcm).sum<X.sum
 | [],_,h=>by obtain⟨x,hx,_⟩:=h;simp at hx
 | x::X,h,h3=>by
   rw[List.map_cons,List.sum_cons,List.sum_cons]
   have h1:=Qkx X (fun y hy=>h y (by simp[hy]))
   have h2:=h x (by simp)
   by_cases c:3<=x
   ·have:Qcm x<x:=by unfold Qcm;split<;>omega
    omega
   ·have:Qcm x<=x:=by unfold Qcm;split<;>omega
    obtain⟨y,hy,hy3⟩:=h3
    rw[List.mem_cons] at hy
    have h4:=Qla X (fun z hz=>h z (by simp[hz])) ⟨y,by
     rcases hy with hy | hy
     ·omega
     ·exact hy,hy3⟩
    omega
theorem Qnt:∀(X:List Int),(∀x∈X,0<=x)->0<=X.sum
 | [],_=>by simp
 | x::X,h=>by
   rw[List.sum_cons]
   have h1:=Qnt X (fun y hy=>h y (by simp[hy]))
   have h2:=h x (by simp)
   omega
theorem Qnb{cs:List Int}(hn:cs.length<=512)(hc:∀k,0<=cs.getD k 0∧cs.getD k 0<=1073741824)(k:Nat)(hd:(Qaf (Qak cs k)).any Qbp=true):(Qak cs (k+1)).sum.toNat<(Qak cs k).sum.toNat:=by
 have hp:∀x∈Qak cs k,0<=x:=fun x hx=>by
  obtain⟨p,_,e⟩:=Qeg hx
  have:=Qbl hc k p
  omega
 have h3:∃x∈Qak cs k,3<=x:=by
  apply Classical.byContradiction
  intro hno
  have:=Qo4 (Qak cs k) (by rw[Qal];exact hn) (fun p=>⟨(Qbl hc k p).1,by
   by_cases hpl:p<(Qak cs k).length
   ·apply Classical.byContradiction
    intro hh
    exact hno ⟨_,Hf.getD_in p hpl,by omega⟩
   ·have:(Qak cs k).getD p 0=0:=by simp[List.getD,List.getElem?_eq_none (show(Qak cs k).length<=p by omega)]
    omega⟩)
  rw[this] at hd
  exact Bool.noConfusion hd
 have h1:=Qla _ hp h3
 have h2:=Qnt ((Qak cs k).map Qcm) (fun y hy=>by
  rw[List.mem_map] at hy
  obtain⟨x,hx,rfl⟩:=hy
  have:=hp x hx
  unfold Qcm;split<;>omega)
 rw[Qak]
 omega
theorem Qs0(cs:List Int)(hn:cs.length<=512)(hc:∀k,0<=cs.getD k 0∧cs.getD k 0<=1073741824)(u:Nat):0<=(Qaf cs).getD u 0∧(Qaf cs).getD u 0<=1024:=by
 by_cases hu:u<cs.length
 ·refine⟨by have:=Qfr cs hc u hu;omega,?_⟩
  by_cases h:0<cs.getD u 0
  ·obtain⟨j,hj,e⟩:=Qpg cs u hu h
   by_cases hm:(srt cs).length=1
   ·obtain rfl:j=0:=by omega
    rw[<-e,Qpi cs hm];omega
   ·rw[<-e,Qsf cs hc (by omega) j hj]
    have h1:=(Qgx cs hc (by omega)).2
    have h2:=Qny (Qei cs) j
    have h3:=Qca cs
    have h4:=Qk8 cs cs.length
    omega
  ·have:=Qfr cs hc u hu
   omega
 ·have:(Qaf cs).getD u 0=0:=by simp[List.getD,List.getElem?_eq_none (show(Qaf cs).length<=u by rw[Qdd];omega)]
  omega
end Hf
def rowOf(w:World)(g n:Nat):List Int:=(List.range n).map (fun j=>match w.cell? ⟨g,j,none⟩ with | some (.int _ x)=>x | _=>0)
theorem Qrb{w:World}{B e g n cap:Nat}{X:List Int}(h:w.ownsRow B e 1 (.slice (some ⟨g,0,none⟩) n cap) n (X.map (Value.int .i64)))(hl:X.length=n):rowOf w g n=X:=by
 refine Qnl (by simp[rowOf,hl]) (fun i hi=>?_)
 have hin:i<n:=by simpa [rowOf] using hi
 have c:=Qa3 h hl i hin
 unfold rowOf
 simp[List.getD,hin,c]
theorem Quw(ad:Addr)(cap:Nat)(cs:List Int)(w:World)(hr:Ri w .i64 (some ad) cap cs)(hc:Qnw cs=true)(h60:cs.length<=512)(hne:0<cs.length):
 Calls Tryz.prog 131 #[.slice (some ad) cs.length cap] w fun e w'=>∃v k,e= .returned (.tuple #[v,.int .i64 0])∧(∀j,j<k->(Qaf (Qak cs j)).any Qbp=true)∧(Qaf (Qak cs k)).any Qbp=false∧w'.ownsRow w.heap.size 3 1 v cs.length ((Qaf (Qak cs k)).map (Value.int .i64))∧Below w.heap.size w w':=by
 have hcr:=Qc3 hc
 have HA:=hid (Qkp (some ad) cap cs w hr)
 rw[hc] at HA
 have HC:=hid (Qm7 ad cap cs w hr (by omega))
 have HW:Hid (∀k j,(Lit.int .i64 ((Qak cs k).getD j 0)).wf=true):=fun k j=>by have:=Qbl hcr.2 k j;exact Qby (by omega) (by omega)
 have HDW:Hid (∀k j,(Lit.int .i64 ((Qaf (Qak cs k)).getD j 0)).wf=true):=fun k j=>by have:=Qs0 (Qak cs k) (by rw[Qal];omega) (Qbl hcr.2 k) j;exact Qby (by omega) (by omega)
 have HDL:Hid (∀k,(Qaf (Qak cs k)).length=cs.length):=fun k=>by rw[Qdd,Qal]
 have HFL:Hid (∀k,(Qak cs k).length=cs.length):=fun k=>Qal cs k
 have HD:Hid (∀(k:Nat) (W:World) (g cp:Nat),W.ownsRow w.heap.size 3 1 (.slice (some ⟨g,0,none⟩) cs.length cp) cs.length ((Qak cs k).map (Value.int .i64))->Calls Tryz.prog 149 #[.slice (some ⟨g,0,none⟩) cs.length cp] W fun e w'=>∃v,e= .returned v∧w'.ownsRow W.heap.size 3 1 v cs.length ((Qaf (Qak cs k)).map (Value.int .i64))∧Below W.heap.size W w'):=by
  intro k W g cp ho
  have ho2:=ho
  rw[show W.ownsRow w.heap.size 3 1 (.slice (some ⟨g,0,none⟩) cs.length cp) cs.length ((Qak cs k).map (Value.int .i64))=W.ownsRow w.heap.size 3 1 (.slice (some ⟨g,0,none⟩) cs.length cp) (Qak cs k).length ((Qak cs k).map (Value.int .i64)) from by rw[Qal]] at ho2
  obtain⟨a1,c1,e,hr1⟩:=Ri.own ho2 (HW.out k)
  injection e with e1 e2 e3
  subst e1 e3
  have h:=Qia _ _ (Qak cs k) W hr1 (by rw[Qal];omega) (Qbl hcr.2 k) (by have:=Qk8 (Qak cs k) (Qak cs k).length;rw[Qal] at this;unfold Qox;rw[Qal];omega)
  rw[Qal] at h
  refine h.mono ?_
  rintro _ w' ⟨v,rfl,h1,h2⟩
  rw[Qdd,Qal] at h1
  exact⟨v,rfl,h1,h2⟩
 have HX:Hid (∀(k:Nat) (W:World) (a2:Option Addr) (c2:Nat),W.ownsRow w.heap.size 3 1 (.slice a2 cs.length c2) cs.length ((Qaf (Qak cs k)).map (Value.int .i64))->Calls Tryz.prog 150 #[.slice a2 cs.length c2,.func (.func 151) #[] #[]] W fun e w'=>e= .returned (.bool ((Qaf (Qak cs k)).any Qbp))∧w'=W):=by
  intro k W a2 c2 ho
  have ho2:=ho
  rw[show W.ownsRow w.heap.size 3 1 (.slice a2 cs.length c2) cs.length ((Qaf (Qak cs k)).map (Value.int .i64))=W.ownsRow w.heap.size 3 1 (.slice a2 cs.length c2) (Qaf (Qak cs k)).length ((Qaf (Qak cs k)).map (Value.int .i64)) from by rw[HDL.out]] at ho2
  obtain⟨a1,c1,e,hr1⟩:=Ri.own ho2 (HDW.out k)
  injection e with e1 e2 e3
  subst e1 e3
  have h:=Qh5 _ _ (Qaf (Qak cs k)) W hr1
  rwa[HDL.out] at h
 have HFT:Hid (∀(k:Nat) (W:World) (g cp:Nat),W.ownsRow w.heap.size 3 1 (.slice (some ⟨g,0,none⟩) cs.length cp) cs.length ((Qak cs k).map (Value.int .i64))->Calls Tryz.prog 152 #[.slice (some ⟨g,0,none⟩) cs.length cp] W fun e w'=>e= .returned (.tuple #[])∧w'.ownsRow w.heap.size 3 1 (.slice (some ⟨g,0,none⟩) cs.length cp) cs.length ((Qak cs (k+1)).map (Value.int .i64))∧W.grownBy w' (some g)):=fun k W g cp ho=>Qse cs.length cp w.heap.size g (Qak cs k) W (by omega) (Qal cs k) (fun j=>(Qbl hcr.2 k j).2) ho
 have HLS:Hid (∀k,(Qaf (Qak cs k)).any Qbp=true->(Qak cs (k+1)).sum.toNat<(Qak cs k).sum.toNat):=fun k=>Qnb h60 hcr.2 k
 clear hr hc hcr
 obtain⟨len,hl⟩:∃n,n=cs.length:=⟨_,rfl⟩
 rw[<-hl] at HA HC HD HX HFT HDL HFL h60 hne|-
 clear hl
 go_enter Tryz.func131,Tryz.ntmps131
 go_wp2_with fail
 refine HA.out.mono ?_
 rintro _ w1 ⟨rfl,hw⟩
 obtain rfl:=hw.symm
 clear hw
 go_wp2_with fail
 refine HC.out.mono ?_
 rintro _ w1 ⟨v1,rfl,ho1,hb1⟩
 obtain⟨g,cp,rfl,hg,_⟩:=Qg3 ho1 hne
 have HD1:=hid (HD.out 0 w1 g cp ho1)
 have HO1:=hid ho1
 have HB1:=hid hb1
 have HGE:=hid hg
 clear ho1 hb1 hg HA HC
 go_wp2_with fail
 refine HD1.out.mono ?_
 rintro _ w2 ⟨v2,rfl,ho2,hb2⟩
 obtain⟨g2,cp2,rfl,hg2,_⟩:=Qg3 ho2 hne
 have HO2:=hid (Qkv ho2 HB1.out.size)
 have HOW2:=hid (Qa9 HO1.out hb2)
 have HB2:=hid (Bn HB1.out hb2)
 clear ho2 hb2 hg2 HD1 HO1 HB1
 go_wp2
 go_loopw [5] (fun y wr=>∃k g3 cp3:Nat,y= .slice (some ⟨g3,0,none⟩) len cp3∧Hid (∀j,j<k->(Qaf (Qak cs j)).any Qbp=true)∧Hid (wr.ownsRow w.heap.size 3 1 (.slice (some ⟨g,0,none⟩) len cp) len ((Qak cs k).map (Value.int .i64)))∧Hid (wr.ownsRow w.heap.size 3 1 (.slice (some ⟨g3,0,none⟩) len cp3) len ((Qaf (Qak cs k)).map (Value.int .i64)))∧Hid (Below w.heap.size w wr)) (fun _ wr=>(rowOf wr g len).sum.toNat)
 case atStart=>exact⟨0,g2,cp2,rfl,fun j hj=>by omega,HOW2,HO2,HB2⟩
 case round=>
  clear HOW2 HO2 HB2
  obtain⟨k,g3,cp3,rfl,HK,HOW,HO,HB⟩:=hrel
  have HXK:=hid (HX.out k wr _ _ HO.out)
  have HM:=hid (Qrb HOW.out (HFL.out k))
  cases hdk:(Qaf (Qak cs k)).any Qbp with
  | true=>
    rw[hdk] at HXK
    have HK2:Hid (∀j,j<k+1->(Qaf (Qak cs j)).any Qbp=true):=fun j hj=>by
     by_cases e:j=k
     ·rw[e];exact hdk
     ·exact HK.out j (by omega)
    have HLT:=hid (HLS.out k hdk)
    clear hdk HK
    go_wp2_with fail
    refine HXK.out.mono ?_
    rintro _ w3 ⟨rfl,hw⟩
    obtain rfl:=hw.symm
    clear hw
    have HF:=hid (HFT.out k _ g cp HOW.out)
    clear HXK
    go_wp2_with fail
    refine HF.out.mono ?_
    rintro _ w4 ⟨rfl,ho4,hg4⟩
    have HB4:=hid (HB.out.grown hg4 HB.out.size (fun j hj=>by injection hj with hj;have:=HGE.out;omega))
    have HD4:=hid (HD.out (k+1) w4 g cp ho4)
    have HO4:=hid ho4
    clear ho4 hg4 HF HOW HO HB
    go_wp2_with fail
    refine HD4.out.mono ?_
    rintro _ w5 ⟨v5,rfl,ho5,hb5⟩
    obtain⟨g5,cp5,rfl,_,_⟩:=Qg3 ho5 hne
    have HO5:=hid (Qkv ho5 HB4.out.size)
    have HOW5:=hid (Qa9 HO4.out hb5)
    have HB5:=hid (Bn HB4.out hb5)
    have HM5:=hid (Qrb HOW5.out (HFL.out (k+1)))
    clear ho5 hb5 HD4 HO4 HB4
    go_wp2
    exact⟨⟨k+1,g5,cp5,rfl,HK2,HOW5,HO5,HB5⟩,by rw[HM.out,HM5.out];exact HLT.out⟩
  | false=>
    rw[hdk] at HXK
    have HDK:=hid hdk
    clear hdk
    go_wp2_with fail
    refine HXK.out.mono ?_
    rintro _ w3 ⟨rfl,hw⟩
    obtain rfl:=hw.symm
    clear hw HXK
    go_wp2
    go_ret2
    exact⟨_,k,rfl,HK.out,HDK.out,HO.out,HB.out⟩
theorem Xag(cap:Nat)(w:World):Calls Tryz.prog 148 #[.slice none 0 cap] w fun e w'=>(∃c,e= .returned (.slice none 0 c)∧c<=cap)∧w'=w:=by
 have q22:∀(w:World) (a:Option Addr) (n c n' c':Nat),(binOp .eql 112 (.slice a n c) (.slice none n' c')).run Tryz.prog w= .ok (.bool a.isNone) w:=fun w a n c n' c'=>Lib.run_eql_slice_nil w _ _ a n c n' c' Tryz.underlying112
 go_enter Tryz.func148,Tryz.ntmps148
 go_wp2
 go_ret
 exact⟨⟨_,rfl,by omega⟩,rfl⟩
theorem Xhg(W:World)(c:Nat)(h:c<=maxLen):Ri W .i64 none c []:=⟨Nat.zero_le _,h,fun h=>absurd h (by simp),fun j=>by simp;exact Qb8 .i64⟩
theorem Ql7:Qaf []= []:=by decide
theorem Qtc(cap:Nat)(w:World)(hm:cap<=maxLen):
 Calls Tryz.prog 131 #[.slice none 0 cap] w fun e w'=>∃a2 c2,e= .returned (.tuple #[.slice a2 0 c2,.int .i64 0])∧c2<=maxLen∧Below w.heap.size w w':=by
 have HA:=hid (Qkp none cap [] w (Xhg w cap hm))
 rw[show Qnw []=true from by decide] at HA
 have HC:=hid (Xag cap w)
 have HD:Hid (∀c,c<=maxLen->Calls Tryz.prog 149 #[.slice none 0 c] w fun e w'=>∃v,e= .returned v∧w'.ownsRow w.heap.size 3 1 v 0 []∧Below w.heap.size w w'):=fun c hcm=>by
  have h:=Qia none c [] w (Xhg w c hcm) (by simp) (fun k=>by simp) (by unfold Qox;simp[nz])
  rw[Ql7] at h
  exact h
 have HX:Hid (∀W c a2,Ri W .i64 a2 c []->Calls Tryz.prog 150 #[.slice a2 0 c,.func (.func 151) #[] #[]] W fun e w'=>e= .returned (.bool false)∧w'=W):=fun W c a2 h2=>Qh5 a2 c [] W h2
 have HM:=hid hm
 clear hm
 go_enter Tryz.func131,Tryz.ntmps131
 go_wp2_with fail
 refine HA.out.mono ?_
 rintro _ w1 ⟨rfl,hw⟩
 obtain rfl:=hw.symm
 clear hw
 go_wp2_with fail
 refine HC.out.mono ?_
 rintro _ w1 ⟨⟨c1,rfl,hc1⟩,hw⟩
 obtain rfl:=hw.symm
 have HD1:=hid (HD.out c1 (Nat.le_trans hc1 HM.out))
 clear hw hc1 HD HA HC
 go_wp2_with fail
 refine HD1.out.mono ?_
 rintro _ w2 ⟨v2,rfl,ho2,hb2⟩
 obtain⟨a2,c2,rfl,hr2⟩:=Ri.own (zs:= []) (kd:= .i64) ho2 (fun j=>by simp;exact Qb8 .i64)
 have HX2:=hid (HX.out w2 c2 a2 hr2)
 have HB2:=hid hb2
 have HC2:=hid hr2.most
 clear ho2 hb2 hr2 HD1 HX
 go_wp2
 refine wp_loop_rounds 1 ?_
 rw[rounds_succ]
 go_wp2_with fail
 refine HX2.out.mono ?_
 rintro _ w3 ⟨rfl,hw⟩
 obtain rfl:=hw.symm
 clear hw
 go_wp2
 go_ret2
 exact⟨_,_,rfl,HC2.out,HB2.out⟩
def Xi7(cs:List Int)(w:World)(e:Ending)(w':World):Prop:=
 (Qnw cs=false∧e= .returned (.tuple #[.slice none 0 0,.int .i64 50])∧Below w.heap.size w w') ∨
 (Qnw cs=true∧∃k a2 c2,e= .returned (.tuple #[.slice a2 cs.length c2,.int .i64 0])∧(∀j,j<k->(Qaf (Qak cs j)).any Qbp=true)∧(Qaf (Qak cs k)).any Qbp=false∧Ri w' .i64 a2 c2 (Qaf (Qak cs k))∧Below w.heap.size w w')
theorem Qs5(a:Option Addr)(cap:Nat)(cs:List Int)(w:World)(hr:Ri w .i64 a cap cs)(h60:cs.length<=512):
 Calls Tryz.prog 131 #[.slice a cs.length cap] w (Xi7 cs w):=by
 cases hc:Qnw cs with
 | false=>
   refine(Qxy a cap cs w hr hc).mono ?_
   rintro e w' ⟨he,rfl⟩
   exact Or.inl ⟨hc,he,Below.refl _ _⟩
 | true=>
   have hcr:=Qc3 hc
   by_cases h0:0<cs.length
   ·obtain⟨b,off,rfl,_,_⟩:=hr.cells h0
    refine(Quw _ cap cs w hr hc h60 h0).mono ?_
    rintro e w' ⟨v,k,he,h1,h2,ho,hb⟩
    have hdl:(Qaf (Qak cs k)).length=cs.length:=by rw[Qdd,Qal]
    rw[<-hdl] at ho
    obtain⟨a2,c2,rfl,hr2⟩:=Ri.own ho (fun j=>by have:=Qs0 (Qak cs k) (by rw[Qal];omega) (Qbl hcr.2 k) j;exact Qby (by omega) (by omega))
    rw[hdl] at he
    exact Or.inr ⟨hc,k,a2,c2,he,h1,h2,hr2,hb⟩
   ·have hnil:cs= []:=List.length_eq_zero_iff.1 (by omega)
    subst hnil
    have hd0:(Qaf ([]:List Int)).any Qbp=false:=by rw[Ql7];rfl
    cases a with
    | none=>
      refine(Qtc cap w hr.most).mono ?_
      rintro e w' ⟨a2,c2,he,hm2,hb⟩
      refine Or.inr ⟨hc,0,a2,c2,he,fun j hj=>by omega,hd0,?_,hb⟩
      show Ri w' .i64 a2 c2 (Qaf [])
      rw[Ql7]
      exact⟨Nat.zero_le _,hm2,fun h=>absurd h (by simp),fun j=>by simp;exact Qb8 .i64⟩
    | some ad=>
      refine(Qqq ad cap [] w hr hc (by unfold Qox;simp[nz]) hd0 (fun j=>by rw[Ql7];simp;exact Qb8 .i64)).mono ?_
      rintro e w' ⟨v,he,ho,hb⟩
      obtain⟨a2,c2,rfl,hr2⟩:=Ri.own ho (fun j=>by rw[Ql7];simp;exact Qb8 .i64)
      exact Or.inr ⟨hc,0,a2,c2,he,fun j hj=>by omega,hd0,hr2,hb⟩
def goL:Nat->List Int->List Int
 | 0,cs=>Qaf cs
 | n+1,cs=>if (Qaf cs).any Qbp=true then goL n (cs.map Qcm) else Qaf cs
def Qgk(cs:List Int):List Int:=goL 31 cs
theorem Qf0(cs:List Int):∀j,Qak (cs.map Qcm) j=Qak cs (j+1)
 | 0=>rfl
 | j+1=>by rw[Qak,Qf0 cs j];rfl
theorem Xg0:∀(k n:Nat) (cs:List Int),k<=n->(∀j,j<k->(Qaf (Qak cs j)).any Qbp=true)->(Qaf (Qak cs k)).any Qbp=false->goL n cs=Qaf (Qak cs k)
 | 0,0,_,_,_,_=>rfl
 | 0,n+1,cs,_,_,h=>by
   rw[Qak] at h|-
   rw[goL,if_neg (by rw[h];decide)]
 | k+1,0,_,h,_,_=>by omega
 | k+1,n+1,cs,hk,h1,h2=>by
   have h0:=h1 0 (by omega)
   rw[Qak] at h0
   rw[goL,if_pos h0,Xg0 k n (cs.map Qcm) (by omega) (fun j hj=>by rw[Qf0];exact h1 (j+1) (by omega)) (by rw[Qf0];exact h2),Qf0]
def Xj8:Nat->Int
 | 0=>1073741824
 | j+1=>Xj8 j/2+1
theorem Ql1{cs:List Int}(hc:∀k,0<=cs.getD k 0∧cs.getD k 0<=1073741824):∀j i,(Qak cs j).getD i 0<=Xj8 j
 | 0,i=>(hc i).2
 | j+1,i=>by
   have h1:=Ql1 hc j i
   have h2:=Qbl hc j i
   rw[Qak,Xj8]
   simp only[List.getD,List.getElem?_map] at h1 h2|-
   generalize (Qak cs j)[i]?=o at *
   cases o with
   | none=>simp only[Option.map_none,Option.getD_none] at h1|-;omega
   | some x=>
     simp only[Option.map_some,Option.getD_some] at h1 h2|-
     unfold Qcm
     split<;>omega
theorem Qo6{cs:List Int}(hn:cs.length<=512)(hc:∀k,0<=cs.getD k 0∧cs.getD k 0<=1073741824){k:Nat}(h1:∀j,j<k->(Qaf (Qak cs j)).any Qbp=true)(h2:(Qaf (Qak cs k)).any Qbp=false):Qaf (Qak cs k)=Qgk cs:=by
 have hk:k<=31:=by
  by_cases c:k<=31
  ·exact c
  ·exfalso
   have h:=h1 31 (by omega)
   have e:Xj8 31=2:=by decide
   have hb:∀i,0<=(Qak cs 31).getD i 0∧(Qak cs 31).getD i 0<=2:=fun i=>by
    have h3:=Ql1 hc 31 i
    have h4:=Qbl hc 31 i
    omega
   rw[Qo4 (Qak cs 31) (by rw[Qal];exact hn) hb] at h
   cases h
 exact(Xg0 k 31 cs hk h1 h2).symm
theorem Qn0(cs:List Int)(hn:cs.length<=512)(hc:∀k,0<=cs.getD k 0∧cs.getD k 0<=1073741824):∃k,(∀j,j<k->(Qaf (Qak cs j)).any Qbp=true)∧(Qaf (Qak cs k)).any Qbp=false:=by
 have hend:(Qaf (Qak cs 31)).any Qbp=false:=Qo4 (Qak cs 31) (by rw[Qal];exact hn) (fun i=>by
  have e:Xj8 31=2:=by decide
  have h3:=Ql1 hc 31 i
  have h4:=Qbl hc 31 i
  omega)
 have key:∀n,(∃k,(∀j,j<k->(Qaf (Qak cs j)).any Qbp=true)∧(Qaf (Qak cs k)).any Qbp=false)∨(∀j,j<n->(Qaf (Qak cs j)).any Qbp=true):=by
  intro n
  induction n with
  | zero=>right;intro j hj;omega
  | succ n ih=>
    rcases ih with h | h
    ·exact Or.inl h
    ·cases c:(Qaf (Qak cs n)).any Qbp with
     | false=>exact Or.inl ⟨n,h,c⟩
     | true=>
       right
       intro j hj
       by_cases e:j=n
       ·rw[e];exact c
       ·exact h j (by omega)
 rcases key 32 with h | h
 ·exact h
 ·have:=h 31 (by omega)
  rw[hend] at this
  cases this
theorem Qjk{cs:List Int}(hn:cs.length<=512)(hc:∀k,0<=cs.getD k 0∧cs.getD k 0<=1073741824){k:Nat}(h1:∀j,j<k->(Qaf (Qak cs j)).any Qbp=true)(h2:(Qaf (Qak cs k)).any Qbp=false):(Qgk cs).length=cs.length∧Qaq (Qgk cs)=true:=by
 rw[<-Qo6 hn hc h1 h2]
 exact⟨by rw[Qdd,Qal],Xfj (Qak cs k) (by rw[Qal];exact hn) (Qbl hc k) h2⟩
theorem Qjh{w w':World}{b i:Nat}(h:w'.heap[b]?=w.heap[b]?):w'.cell? ⟨b,i,none⟩=w.cell? ⟨b,i,none⟩:=by
 unfold World.cell?
 simp only[h]
theorem Ri.apart{w:World}{kd:IntKind}{a:Option Addr}{cap:Nat}{zs:List Int}{g:Nat}{cs:Array Value}{t:TypeId}{fr:Nat×Nat}(h:Ri w kd a cap zs)(hg:w.heap[g]?=some (.cells cs t fr))(hno:∀(i:Nat) (x:Int),cs[i]?≠some (Value.int kd x))(cs':Array Value):Ri (w.setRow g cs') kd a cap zs:=by
 refine⟨h.room,h.most,fun h0=>?_,h.fits⟩
 obtain⟨b,off,ha,hbw,hc⟩:=h.cells h0
 have hne:b≠g:=fun e=>by
  subst e
  have h1:=hc 0 h0
  rw[Joins.cell_of_block hg] at h1
  exact hno _ _ h1
 have hs:b<(w.setRow g cs').heap.size:=by
  have:=(below_setRow (Below.refl g w) (Nat.le_refl _) cs').size
  by_cases c:b<(w.setRow g cs').heap.size
  ·exact c
  ·have e1:=setRow_other w g b cs' hne
   rw[Array.getElem?_eq_none (by omega),Array.getElem?_eq_getElem hbw] at e1
   cases e1
 exact⟨b,off,ha,hs,fun j hj=>(Qjh (setRow_other w g b cs' hne)).trans (hc j hj)⟩
def Xbq(cs:List Int)(w:World)(e:Ending)(w':World):Prop:=
 ∃a1 c1 a2 c2,e= .returned (.agg #[.slice a1 cs.length c1,.slice a2 cs.length c2])∧Ri w' .i64 a1 c1 (Qgk cs)∧Ri w' .u16 a2 c2 (Qam (Qgk cs))∧(Qgk cs).length=cs.length∧Qaq (Qgk cs)=true∧Below w.heap.size w w'
theorem Ql4(a:Option Addr)(cap:Nat)(cs:List Int)(w:World)(hr:Ri w .i64 a cap cs)(hn:cs.length<=512)(hc:Qnw cs=true):Calls Tryz.prog 102 #[.slice a cs.length cap] w (Xbq cs w):=by
 have hb0:=Qab w (.cells #[.slice none 0 0,.slice none 0 0] 157)
 have e0:=Qag w (.cells #[.slice none 0 0,.slice none 0 0] 157)
 have HLEN:=hid (Qs5 a cap cs (w.alloc (.cells #[.slice none 0 0,.slice none 0 0] 157)) (hr.later hb0) hn)
 have HB0:=hid hb0
 have HE0:=hid e0
 have HN:=hid hn
 have HC:=hid hc
 clear hr hb0 e0
 obtain⟨len,hle⟩:∃n,n=cs.length:=⟨_,rfl⟩
 have HL:=hid hle
 unfold Xbq
 rw[<-hle] at HLEN|-
 clear hle hn hc
 go_enter Tryz.func102,Tryz.ntmps102
 go_wp2_with fail
 refine HLEN.out.mono ?_
 rintro _ w1 (⟨hc2,_⟩ | ⟨_,k,a2,c2,rfl,hk1,hk2,hr2,hb1⟩)
 ·rw[HC.out] at hc2
  exact Bool.noConfusion hc2
 ·have hcr:=(Qc3 HC.out).2
  have hf:=Qjk HN.out hcr hk1 hk2
  rw[Qo6 HN.out hcr hk1 hk2] at hr2
  have HF:=hid hf
  have HR2:=hid hr2
  have HB1:=hid hb1
  have HE1:=hid ((hb1.block w.heap.size (by simp)).trans HE0.out)
  have HCD:Hid (Calls Tryz.prog 132 #[.slice a2 len c2] w1 fun e w'=>∃a3 c3,e= .returned (.tuple #[.slice a3 len c3,.int .i64 0])∧Ri w' .u16 a3 c3 (Qam (Qgk cs))∧Below w1.heap.size w1 w'):=by
   have h:=Qne a2 c2 (Qgk cs) w1 hr2 hf.2
   rw[hf.1,<-HL.out] at h
   refine h.mono ?_
   rintro e w' ⟨v,rfl,ho,hb⟩
   obtain⟨a3,c3,rfl,hr3⟩:=Ri.own ho (fun j=>by
    have:=Qdk (Qgk cs) j
    exact Qqk this.1 this.2)
   exact⟨a3,c3,by rw[Qax,hf.1,<-HL.out],hr3,hb⟩
  clear hcr hf hr2 hb1 hk1 hk2 HLEN HE0
  rw[<-HL.out]
  go_wp2_with fail
  refine HCD.out.mono ?_
  rintro _ w2 ⟨a3,c3,rfl,hr3,hb2⟩
  have HR3:=hid hr3
  have HR22:=hid (HR2.out.later hb2)
  have HB2:=hid (Bn (Bn HB0.out HB1.out) hb2)
  have he2:=(hb2.block w.heap.size (by have:=HE1.out;rw[Array.getElem?_eq_some_iff] at this;exact this.1)).trans HE1.out
  clear hr3 hb2 HCD HR2 HB0 HB1 HE1
  have q50:(Tryz.prog.info? 157).map (·.size)=some (#[Value.slice a2 len c2,Value.slice a3 len c3]:Array Value).size:=by kernel_rfl
  have o50:(#[Value.slice a2 len c2,Value.slice a3 len c3]:Array Value).all (·.oneCell')=true:=by simp[Value.oneCell']
  go_wp2_with (refine wpList_store_rowTo rfl 157 _ _ rfl rfl w.heap.size #[.slice a2 len c2,.slice a3 len c3] rfl rfl 157 _ he2 q50 rfl o50 ?_)
  have hl2:=below_setRow HB2.out (Nat.le_refl _) #[.slice a2 len c2,.slice a3 len c3]
  have hno:∀(kd:IntKind) (i:Nat) (x:Int),(#[Value.slice none 0 0,Value.slice none 0 0]:Array Value)[i]?≠some (Value.int kd x):=fun kd i x h=>by
   match i,h with
   | 0,h=>simp at h
   | 1,h=>simp at h
   | i+2,h=>simp at h
  have hr22:=HR22.out.apart he2 (hno _) #[.slice a2 len c2,.slice a3 len c3]
  have hr33:=HR3.out.apart he2 (hno _) #[.slice a2 len c2,.slice a3 len c3]
  refine bodyPost_ret (results_cell_row (p:=2) (ty:=157) rfl _ _ w.heap.size 157 #[.slice a2 len c2,.slice a3 len c3] (0,0) _ rfl (setRow_heap _ _ _ _ _ _ he2) Tryz.underlying157 rfl (by kernel_rfl)) rfl ?_
  exact⟨a2,c2,a3,c3,rfl,hr22,hr33,HF.out.1.trans HL.out.symm,HF.out.2,hl2⟩
end
end Go.Proofs.YtibjlbcnapoblaaGreatDoor
