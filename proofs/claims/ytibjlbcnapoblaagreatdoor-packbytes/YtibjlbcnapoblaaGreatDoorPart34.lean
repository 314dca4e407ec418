/- Contracts and facts. -/
import Derived.Test.YtibjlbcnapoblaaGreatDoorPart33
namespace Go.Proofs.YtibjlbcnapoblaaGreatDoor
set_option maxRecDepth 100000
set_option maxHeartbeats 6400000
section
open Go.RowKit Hf
def Xli:Value->Nat
 | .slice _ n _=>n
 | _=>0
theorem Qcr{w:World}{B g n cap:Nat}{X:List Int}(h:w.ownsRow B 201 3 (.slice (some ⟨g,0,none⟩) n cap) n (X.map (Value.int .i64)))(j:Nat)(hj:j<X.length):w.cell? ⟨g,j,none⟩=some (.int .i64 (X.getD j 0)):=by
 rw[h.cellAt j (by have:=h.1;simp at this;omega),List.getElem?_map]
 simp[List.getD,List.getElem?_eq_getElem hj]
theorem Qxr(a:Option Addr)(cap:Nat)(cs:List Int)(w:World)(hr:Ri w .i64 a cap cs)(hn:cs.length<=512)(hc:∀k,0<=cs.getD k 0∧cs.getD k 0<=1073741824):
 Calls Tryz.prog 110 #[.slice a cs.length cap] w fun e w'=>∃v,e= .returned v∧w'.ownsRow w.heap.size 3 1 v cs.length ((Xei cs).map (Value.int .i64))∧Below w.heap.size w w':=by
 obtain⟨i0,hi,hz0,hz1,hz2⟩:=info_parts Tryz.info201
 obtain⟨j0,hj,hy0,hy1,hy2⟩:=info_parts Tryz.info3'
 have HR:=hid hr
 obtain⟨len,hl⟩:∃n,n=cs.length:=⟨_,rfl⟩
 have HL:=hid hl
 rw[<-hl] at hn|-
 have HT0:=hid (Xit cs hc)
 have hms:=Qca cs
 have hnz:=Qk8 cs cs.length
 have hm5:(srt cs).length<=512:=by omega
 have HRD:Hid (∀t,t+1<=(srt cs).length->(Qcz cs t).W.length=(srt cs).length+t∧(Qcz cs t).I.length=(srt cs).length+t):=fun t ht=>⟨(RD.run cs hc t ht).lw,(RD.run cs hc t ht).li⟩
 have HR0:Hid ((Qcz cs 0).W.length=(srt cs).length∧(Qcz cs 0).I.length=(srt cs).length):=by
  refine⟨?_,?_⟩
  ·show((nz cs cs.length).map (key cs)).length=_;rw[List.length_map,hms]
  ·show(List.replicate (nz cs cs.length).length (-1:Int)).length=_;rw[List.length_replicate,hms]
 have HPK:Hid (∀t,t+2<=(srt cs).length->∃x y:Nat,Qmx (Qcz cs t) (-1)=(x:Int)∧Qmx (Qcz cs t) (x:Int)=(y:Int)∧x<(srt cs).length+t∧y<(srt cs).length+t∧x≠y):=fun t ht=>Xe2 cs hc t ht
 have HPL:Hid (2<=(srt cs).length->∃x:Nat,Qmx (Qcz cs ((srt cs).length-1)) (-1)=(x:Int)∧Qmx (Qcz cs ((srt cs).length-1)) (x:Int)= -1):=fun hm=>Xer cs hc hm
 have HWB:Hid (∀t,t+1<=(srt cs).length->∀i,0<=(Qcz cs t).W.getD i 0∧(Qcz cs t).W.getD i 0<=1073741824*1024):=fun t ht i=>Xc4 cs hc t ht hm5 i
 have HUP:Hid (∀q,q<(srt cs).length+((srt cs).length-1)->(Qcx cs).I.getD q 0= -1∨((q:Int)<(Qcx cs).I.getD q 0∧(Qcx cs).I.getD q 0<(((srt cs).length+((srt cs).length-1):Nat):Int))):=fun q hq=>Xkh cs hc q hq
 have HEL:Hid ((Qcx cs).W.length=(srt cs).length+((srt cs).length-1)):=(Xi0 cs hc).1
 have HDB:Hid (∀p,p<(srt cs).length->(Qfq cs).getD p 0=max (chn (Qcx cs).I (2*(srt cs).length) ((Qcx cs).I.getD p 0)) 1):=Qzy cs
 have HSY:Hid (∀p,p<(srt cs).length->(Qfz cs ((srt cs).length-1)).getD p 0=(nz cs cs.length).getD p 0∧0<=(nz cs cs.length).getD p 0∧(nz cs cs.length).getD p 0<(cs.length:Int)):=fun p hp=>by
  have h:=Qjt cs cs.length _ (Hf.getD_in (l:=nz cs cs.length) p (by omega))
  exact⟨Qzh cs _ p hp,h.1,h.2.1⟩
 have HSP:Hid (1<(srt cs).length->(Qfz cs ((srt cs).length-1)).getD (srt cs).length 0= -1):=fun h=>Qyy cs _ _ (Nat.le_refl _) (by omega)
 have HEN:Hid (Qcx cs=Qcz cs ((srt cs).length-1)):=rfl
 have HDD:Hid (Xei cs=Qfg cs.length (nz cs cs.length) (Qfq cs) (srt cs).length):=rfl
 rw[<-hl] at HSY HDD
 clear hr hl hms hnz
 go_enter Tryz.func110,Tryz.ntmps110
 go_wp2_with fail
 go_loopw [3,4] (fun v y wr=>∃k:Nat,k<=len∧y= .int .i64 k∧wr.ownsRow w.heap.size 201 3 v (lvs cs k).length ((flat3 (lvs cs k)).map (Value.int .i64))∧Below w.heap.size w wr) (fun _ y _=>len-(intOf y).toNat)
 case atStart=>exact⟨0,by omega,rfl,World.ownsRow_nil _ _ _ _,Below.refl _ _⟩
 case round=>
  obtain⟨k,hk,rfl,hown,hbel⟩:=hrel
  have hsz:w.heap.size<=wr.heap.size:=hbel.size
  by_cases hlt:k<len
  ·have hkl:(k:Int)<(len:Int):=by omega
   have K1:Hid (k<cs.length):=by show _<_;rw[<-HL.out];exact hlt
   obtain⟨b,off,rfl,hbw,hcl⟩:=(HR.out).cells (by rw[<-HL.out];omega)
   have ck:wr.cell? ⟨b,off+k,none⟩=some (.int .i64 (cs.getD k 0)):=(hbel.cell (p:=⟨b,off+k,none⟩) hbw).trans (hcl k K1.out)
   clear hcl
   have hnl:=Xb9 cs k
   have HNZ:=hid (show lvs cs (k+1)=if cs.getD k 0=0 then lvs cs k else lvs cs k++ [(cs.getD k 0, -1,(k:Int))] from rfl)
   generalize cs.getD k 0=c at *
   by_cases hc0:c=0
   ·subst hc0
    have HN2:Hid (lvs cs (k+1)=lvs cs k):=by show _=_;rw[HNZ.out,if_pos rfl]
    go_wp2
    exact⟨⟨k+1,by omega,by go_num,by rw[HN2.out];exact hown,hbel⟩,by simp[intOf];omega⟩
   ·have hcn:(c != 0)=true:=by simp[hc0]
    have HN2:Hid (lvs cs (k+1)=lvs cs k++ [(c, -1,(k:Int))]):=by show _=_;rw[HNZ.out,if_neg hc0]
    go_wp2_with (at_builtin;refine wpList_append_own _ rfl _ _ 199 rfl w.heap.size 201 i0 (.agg #[.int .i64 0,.int .i64 0,.int .i64 0]) 3 24 Tryz.underlying199 hi hz0 hz1 hz2 rfl (by decide) _ _ _ rfl (hown.alloc _) ⟨wr.heap.size,0,none⟩ 1 1 [.int .i64 c,.int .i64 (-1),.int .i64 (k:Int)] rfl rfl ?c1 ?c2 ?c3 ?c4 ?c5 ?_)
    case c1=>
     intro j u hj
     match j,hj with
     | 0,hj=>simp at hj;subst hj;simp[Addr.add]
     | 1,hj=>simp at hj;subst hj;simp[Addr.add]
     | 2,hj=>simp at hj;subst hj;simp[Addr.add]
    case c2=>intro u hu;simp at hu;rcases hu with rfl | rfl | rfl<;>rfl
    case c3=>unfold maxLen;omega
    case c4=>omega
    case c5=>simp;omega
    intro v1 w1 hown0 hgrow _
    have HB1:=hid ((hbel.alloc hsz _).grown hgrow (by simp;omega) (fun j hj=>(hown.lt j hj).1))
    have HO1:Hid (w1.ownsRow w.heap.size 201 3 v1 (lvs cs (k+1)).length ((flat3 (lvs cs (k+1))).map (Value.int .i64))):=by
     show World.ownsRow _ _ _ _ _ _ _
     rw[HN2.out,Qr7];simpa using hown0
    clear hown hown0 hgrow hbel ck
    go_wp2
    exact⟨⟨k+1,by omega,by go_num,HO1.out,HB1.out⟩,by simp[intOf];omega⟩
  ·have hkl:¬(k:Int)<(len:Int):=by omega
   obtain rfl:k=len:=by omega
   have HO0:Hid (wr.ownsRow w.heap.size 201 3 u3 ((srt cs).length+0) ((flat3 (tri (Qcz cs 0).W (Qcz cs 0).I (Qfz cs 0))).map (Value.int .i64))):=by
    show World.ownsRow _ _ _ _ _ _ _
    have h:=hown
    rw[HL.out,HT0.out,Qck,HR0.out.1] at h
    exact h
   have HB0:=hid hbel
   clear hown hbel HT0
   generalize hmm:(srt cs).length=m at *
   go_wp2_with fail
   go_loopw [3] (fun v wr=>∃t:Nat,(t=0∨t+1<=m)∧Hid (wr.ownsRow w.heap.size 201 3 v (m+t) ((flat3 (tri (Qcz cs t).W (Qcz cs t).I (Qfz cs t))).map (Value.int .i64)))∧Hid (Below w.heap.size w wr)) (fun v _=>2*m+1-Xli v)
   case atStart=>exact⟨0,Or.inl rfl,HO0,HB0⟩
   case round=>
    clear HO0 HB0
    obtain⟨t,ht,HO,HB⟩:=hrel
    by_cases h1:1<m+t
    ·obtain⟨g,cp,rfl,hg,_⟩:=Qft HO.out (show 0<m+t by omega)
     have ht1:t+1<=m:=by omega
     have hz1:(1:Int)<((m+t:Nat):Int):=by omega
     have hWL:=(HRD.out t ht1).1
     have hIL:=(HRD.out t ht1).2
     generalize hM:m+t=M at *
     have HTL:Hid ((flat3 (tri (Qcz cs t).W (Qcz cs t).I (Qfz cs t))).length=M*3):=by show _=_;rw[Qb1,Qck,hWL]
     have hgs:g<wr.heap.size:=(HO.out.lt g rfl).2
     have HLE:Hid (∀(W:World) (no:Int),Below wr.heap.size wr W->Calls Tryz.prog 136 #[.slice (some ⟨g,0,none⟩) M cp,.int .i64 no] W fun e w'=>e= .returned (.int .i64 (Qmx (Qcz cs t) no))∧Below W.heap.size W w'):=fun W no hb=>by
      have h:=Xcu g M cp no (fun i=>(Qcz cs t).W.getD i 0) (fun i=>(Qcz cs t).I.getD i 0) W (by omega) (Nat.lt_of_lt_of_le hgs hb.size) (fun i hi=>by
       have e:=Qgd (Qcz cs t).W (Qcz cs t).I (Qfz cs t) i (by omega)
       have o:=Qa9 HO.out hb
       have l3:=HTL.out
       refine⟨?_,?_⟩
       ·rw[Qcr o (i*3) (by omega),e.1]
       ·rw[Qcr o (i*3+1) (by omega),e.2.1])
      unfold Qmx
      rw[hWL]
      exact h
     by_cases h2:t+2<=m
     ·obtain⟨x,y,p1,p2,hx,hy,hxy⟩:=HPK.out t h2
      have E1:=hid (HLE.out wr (-1) (Below.refl _ _))
      rw[p1] at E1
      have HP1:=hid p1
      have HP2:=hid p2
      clear p1 p2
      go_wp2_with fail
      refine E1.out.mono ?_
      rintro _ w2 ⟨rfl,hb2⟩
      have E2:=hid (HLE.out w2 x hb2)
      rw[HP2.out] at E2
      have HB2:=hid hb2
      clear hb2 E1 HLE
      go_wp2_with fail
      refine E2.out.mono ?_
      rintro _ w3 ⟨rfl,hb3⟩
      have HBW:=hid (Bn HB2.out hb3)
      have HO3:=hid (Qa9 HO.out HBW.out)
      have HB3:=hid (Bn HB.out HBW.out)
      clear hb3 E2 HB2 HO HB
      have l3:=HTL.out
      have c1:=Qcr HO3.out (x*3+1) (by omega)
      have f1:=HO3.out.frozenAt (x*3+1)
      have o1:=(HO3.out.stored (x*3+1) (.int .i64 (M:Int)))
      rw[<-List.map_set] at o1
      have d1:=Qcr o1.1 (y*3+1) (by rw[List.length_set];omega)
      have f2:=o1.1.frozenAt (y*3+1)
      have o2:=(o1.1.stored (y*3+1) (.int .i64 (M:Int)))
      rw[<-List.map_set,Xbd _ _ _ (by omega) x _ (by omega),Xbd _ _ _ (by rw[List.length_set];omega) y _ (by omega)] at o2
      have HO4:=hid o2.1
      have HG4:=hid (Qah o1.2 o2.2)
      have hxM:(x:Int)<(M:Int):=by omega
      have hyM:(y:Int)<(M:Int):=by omega
      have hy0:¬(y:Int)<0:=by omega
      generalize (flat3 (tri (Qcz cs t).W (Qcz cs t).I (Qfz cs t))).getD (x*3+1) 0=q1 at *
      generalize ((flat3 (tri (Qcz cs t).W (Qcz cs t).I (Qfz cs t))).set (x*3+1) (M:Int)).getD (y*3+1) 0=q2 at *
      clear o1 o2 l3
      go_wp2_with fail
      have HTL2:Hid ((flat3 (tri (Qcz cs t).W (((Qcz cs t).I.set x (M:Int)).set y (M:Int)) (Qfz cs t))).length=M*3):=by show _=_;rw[Qb1,Qck,hWL]
      have HB5:=hid (HB3.out.grown HG4.out HB3.out.size (fun j hj=>by injection hj with hj;omega))
      have hlt3:=(HO3.out.lt g rfl).2
      clear c1 f1 d1 f2
      generalize (w3.setCell ⟨g,x*3+1,none⟩ (.int .i64 (M:Int))).setCell ⟨g,y*3+1,none⟩ (.int .i64 (M:Int))=W5 at *
      have wx:=Qcr HO4.out (x*3) (by rw[HTL2.out];omega)
      have wy:=Qcr HO4.out (y*3) (by rw[HTL2.out];omega)
      rw[(Qgd _ _ _ x (by omega)).1] at wx
      rw[(Qgd _ _ _ y (by omega)).1] at wy
      have HW1:Hid (tri (Qcz cs (t+1)).W (Qcz cs (t+1)).I (Qfz cs (t+1))=tri (Qcz cs t).W (((Qcz cs t).I.set x (M:Int)).set y (M:Int)) (Qfz cs t)++ [((Qcz cs t).W.getD x 0+(Qcz cs t).W.getD y 0, -1, -1)]):=by
       show _=_
       rw[<-Xjg _ _ _ (by rw[List.length_set,List.length_set];omega) (by rw[Qus];omega),<-Xad]
       show tri (Qmr (Qcz cs t)).W (Qmr (Qcz cs t)).I _=_
       unfold Qmr
       rw[HP1.out,HP2.out,Int.toNat_natCast,Int.toNat_natCast,hWL]
      have HXB:=hid (HWB.out t (by omega) x)
      have HYB:=hid (HWB.out t (by omega) y)
      have HTX:=hid (Qgd (Qcz cs t).W (((Qcz cs t).I.set x (M:Int)).set y (M:Int)) (Qfz cs t) x (by omega)).1
      have HTY:=hid (Qgd (Qcz cs t).W (((Qcz cs t).I.set x (M:Int)).set y (M:Int)) (Qfz cs t) y (by omega)).1
      generalize (Qcz cs t).W.getD x 0=wa at *
      generalize (Qcz cs t).W.getD y 0=wb at *
      have hsum:wa+wb<=9223372036854775807:=by have:=HXB.out;have:=HYB.out;omega
      have hsum0:0<=wa+wb:=by have:=HXB.out;have:=HYB.out;omega
      have HXY:Hid (IntKind.i64.wrap (wa+wb)=wa+wb):=by show _=_;rw[IntKind.wrap_i64];omega
      have hlt5:=(HO4.out.lt g rfl).2
      have wxA:(W5.drew.alloc (.cells #[.int .i64 (wa+wb),.int .i64 (-1),.int .i64 (-1)] 201)).cell? ⟨g,x*3,none⟩=some (.int .i64 wa):=((Qab W5.drew _).cell (p:=⟨g,x*3,none⟩) hlt5).trans wx
      have wyA:(W5.drew.alloc (.cells #[.int .i64 (wa+wb),.int .i64 (-1),.int .i64 (-1)] 201)).cell? ⟨g,y*3,none⟩=some (.int .i64 wb):=((Qab W5.drew _).cell (p:=⟨g,y*3,none⟩) hlt5).trans wy
      refine wp_region_held_drew (S:=fun W=>W.cell? ⟨g,x*3,none⟩=some (.int .i64 wa)∧W.cell? ⟨g,y*3,none⟩=some (.int .i64 wb)) (by kernel_rfl) ⟨wx,wy⟩ (fun hS=>?_)
      refine Ord.tk (i:=0) (d:=53) (v:=?v0) rfl rfl ?h0 (by assumption) ?_
      case h0=>intro w hSw;go_simp;try with_reducible rfl
      simp only[Ord.s1,Ord.s2,Ord.s3]
      refine Ord.tk (i:=1) (d:=54) (v:=?v1) rfl rfl ?h1 (by assumption) ?_
      case h1=>intro w hSw;go_simp;try with_reducible rfl
      simp only[Ord.s1,Ord.s2,Ord.s3]
      refine Ord.tk (i:=2) (d:=55) (v:=?v2) rfl rfl ?h2 (by assumption) ?_
      case h2=>intro w hSw;go_simp;try with_reducible rfl
      simp only[Ord.s1,Ord.s2,Ord.s3]
      refine Ord.tk (i:=3) (d:=56) (v:=?v3) rfl rfl ?h3 (by assumption) ?_
      case h3=>intro w hSw;go_simp;try with_reducible rfl
      simp only[Ord.s1,Ord.s2,Ord.s3]
      refine Ord.tk (i:=4) (d:=57) (v:=?v4) rfl rfl ?h4 (by assumption) ?_
      case h4=>intro w hSw;go_simp;try with_reducible rfl
      simp only[Ord.s1,Ord.s2,Ord.s3]
      refine Ord.tk (i:=5) (d:=58) (v:= .int .i64 wa) rfl rfl ?h5 (by assumption) ?_
      case h5=>intro w hSw;have e:=hSw.1;go_simp;try with_reducible rfl
      simp only[Ord.s1,Ord.s2,Ord.s3]
      refine Ord.tk (i:=6) (d:=59) (v:=?v6) rfl rfl ?h6 (by assumption) ?_
      case h6=>intro w hSw;go_simp;try with_reducible rfl
      simp only[Ord.s1,Ord.s2,Ord.s3]
      refine Ord.tk (i:=7) (d:=60) (v:=?v7) rfl rfl ?h7 (by assumption) ?_
      case h7=>intro w hSw;go_simp;try with_reducible rfl
      simp only[Ord.s1,Ord.s2,Ord.s3]
      refine Ord.tk (i:=8) (d:=61) (v:=?v8) rfl rfl ?h8 (by assumption) ?_
      case h8=>intro w hSw;go_simp;try with_reducible rfl
      simp only[Ord.s1,Ord.s2,Ord.s3]
      refine Ord.tk (i:=9) (d:=62) (v:=?v9) rfl rfl ?h9 (by assumption) ?_
      case h9=>intro w hSw;go_simp;try with_reducible rfl
      simp only[Ord.s1,Ord.s2,Ord.s3]
      refine Ord.tk (i:=10) (d:=63) (v:= .int .i64 wb) rfl rfl ?h10 (by assumption) ?_
      case h10=>intro w hSw;have e:=hSw.2;go_simp;try with_reducible rfl
      simp only[Ord.s1,Ord.s2,Ord.s3]
      refine Ord.tk (i:=11) (d:=64) (v:= .int .i64 (wa+wb)) rfl rfl ?h11 (by assumption) ?_
      case h11=>intro w hSw;go_simp;exact HXY.out
      simp only[Ord.s1,Ord.s2,Ord.s3]
      refine Ord.tk (i:=12) (d:=65) (v:= .agg #[.int .i64 (wa+wb),.int .i64 (-1),.int .i64 (-1)]) rfl rfl ?h12 (by assumption) ?_
      case h12=>intro w hSw;go_simp;try with_reducible rfl
      simp only[Ord.s1,Ord.s2,Ord.s3]
      refine wpAnyH_ready (rs:= [13]) (by as_aux_lemma=>kernel_rfl) (by simp) (AllReadyH.cons rfl (fun K hK=>?_) AllReadyH.nil)
      go_simp
      refine hK.out _ _ ⟨wxA,wyA⟩ (fun _=>?_)
      clear hK K
      refine wpAnyH_ready (rs:= [14]) (by as_aux_lemma=>kernel_rfl) (by simp) (AllReadyH.cons rfl (fun K hK=>?_) AllReadyH.nil)
      refine Xip _ W5.drew (.tmp 53) (.tmp 66) rfl w.heap.size g M cp (flat3 (tri (Qcz cs t).W (((Qcz cs t).I.set x (M:Int)).set y (M:Int)) (Qfz cs t))) (wa+wb) (-1) (-1) rfl HO4.out.drew rfl rfl (by omega) (show w.heap.size<=W5.heap.size from HB5.out.size) ?_
      intro v6 w6 hown6 hg6 hst6
      have sx:=hst6 (x*3) (by rw[HTL2.out];omega)
      have sy:=hst6 (y*3) (by rw[HTL2.out];omega)
      rw[HTX.out] at sx
      rw[HTY.out] at sy
      have HB6:=hid ((HB5.out.drew.alloc (show w.heap.size<=W5.heap.size from HB5.out.size) (.cells #[.int .i64 (wa+wb),.int .i64 (-1),.int .i64 (-1)] 201)).grown hg6 (by simp;have:=HB5.out.size;omega) (fun j hj=>by injection hj with hj;omega))
      have HO6:Hid (w6.ownsRow w.heap.size 201 3 v6 (m+(t+1)) ((flat3 (tri (Qcz cs (t+1)).W (Qcz cs (t+1)).I (Qfz cs (t+1)))).map (Value.int .i64))):=by
       show World.ownsRow _ _ _ _ _ _ _
       rw[HW1.out,Qr7,show m+(t+1)=M+1 from by omega]
       exact hown6
      refine hK.out _ _ ⟨sx,sy⟩ (fun _=>?_)
      clear hK K hown6 hg6 hst6
      refine Ord.put (d:=67) rfl ?_
      simp only[Ord.s1,Ord.s2,Ord.s3]
      refine wpAnyH_ready (rs:= [15]) (by as_aux_lemma=>kernel_rfl) (by simp) (AllReadyH.cons rfl (fun K hK=>?_) AllReadyH.nil)
      go_simp
      refine hK.out _ _ ⟨sx,sy⟩ (fun _=>?_)
      clear hK K
      refine wpAnyH_done (by as_aux_lemma=>kernel_rfl) ?_ _
      have HV6:Hid (Xli v6=m+(t+1)):=by
       obtain⟨g6,cp6,e6,_,_⟩:=Qft HO6.out (by omega)
       show Xli v6=_
       rw[e6];rfl
      clear sx sy wxA wyA wx wy
      go_wp2
      go_roundw
      case rel=>exact⟨t+1,Or.inr (by omega),HO6,HB6⟩
      case measure=>
       have h6:=HV6.out
       simp[Xli] at h6|-
       omega
     ·have htm:t=m-1:=by omega
      obtain⟨x,p1,p2⟩:=HPL.out (by omega)
      rw[<-htm] at p1 p2
      have E1:=hid (HLE.out wr (-1) (Below.refl _ _))
      rw[p1] at E1
      have HP2:=hid p2
      clear p1 p2
      go_wp2_with fail
      refine E1.out.mono ?_
      rintro _ w2 ⟨rfl,hb2⟩
      have E2:=hid (HLE.out w2 x hb2)
      rw[HP2.out] at E2
      have HB2:=hid hb2
      clear hb2 E1 HLE
      go_wp2_with fail
      refine E2.out.mono ?_
      rintro _ w3 ⟨rfl,hb3⟩
      have HBW:=hid (Bn HB2.out hb3)
      have HO3:=hid (Qa9 HO.out HBW.out)
      have HB3:=hid (Bn HB.out HBW.out)
      clear hb3 E2 HB2 HO HB
      have HOE:Hid (w3.ownsRow w.heap.size 201 3 (.slice (some ⟨g,0,none⟩) M cp) M ((flat3 (tri (Qcx cs).W (Qcx cs).I (Qfz cs (m-1)))).map (Value.int .i64))):=by
       show World.ownsRow _ _ _ _ _ _ _
       rw[HEN.out,<-htm];exact HO3.out
      have HML:Hid (M=m+(m-1)):=by show _=_;omega
      have hmL:m<=M:=by omega
      have hL2:m=0∨M+1<=2*m:=by omega
      have hmM:m<M:=by omega
      clear HO3 hWL hIL HTL htm
      obtain⟨al,hal⟩:∃al:Option Addr,al=some ⟨g,0,none⟩:=⟨_,rfl⟩
      rw[<-hal] at HOE|-
      clear hal hM
      generalize M=L at *
      generalize cp=cl at *
      go_wp2_with (first
       | (at_make;refine wpList_make_full _ rfl _ _ 112 rfl w.heap.size 3 j0 (.int .i64 0) 1 Tryz.underlying112 hj hy0 hy1 .i64 .i64 _ _ k rfl rfl (by first | rfl | omega) (by first | rfl | omega) ?b2 ?b3 ?b4 ?_))
      case b2=>first | (rw[hy2];omega) | omega
      case b3=>unfold maxLen;omega
      case b4=>exact HB3.out.size
      intro w5 hown0 hgrow
      have hb5:Below w3.heap.size w3 w5:=(Below.refl _ _).grown hgrow (Nat.le_refl _) (fun k hk=>by cases hk)
      have hown1:w5.ownsRow w.heap.size 3 1 (.slice (some ⟨w3.heap.size,0,none⟩) k k) k ((List.replicate k (0:Int)).map (Value.int .i64)):=by
       rw[toList_madeCells_one] at hown0
       simpa using hown0
      have HO5:=hid (Qa9 HOE.out hb5)
      have HB5:=hid (Bn HB3.out hb5)
      have HOZ:=hid hown1
      have HGL:=hid (fun g h=>(HOE.out.lt g h).2)
      clear hgrow hown0 hown1 hb5
      generalize w3.heap.size=gd at *
      go_wp2_with fail
      go_loopw [8] (fun y wr=>∃p:Nat,p<=m∧y= .int .i64 p∧Hid (wr.ownsRow w.heap.size 3 1 (.slice (some ⟨gd,0,none⟩) k k) k ((Qfg k (nz cs k) (Qfq cs) p).map (Value.int .i64)))∧Hid (wr.ownsRow w.heap.size 201 3 (.slice al L cl) L ((flat3 (tri (Qcx cs).W (Qcx cs).I (Qfz cs (m-1)))).map (Value.int .i64)))∧Hid (Below w.heap.size w wr)) (fun y _=>m-(intOf y).toNat)
      case atStart=>exact⟨0,by omega,rfl,HOZ,HO5,HB5⟩
      case round=>
       clear HOZ HO5 HB5
       obtain⟨p,hp,rfl,HOU,HON,HBL⟩:=hrel
       by_cases hpm:p<m
       ·obtain⟨g,cp2,e,hgB,_⟩:=Qft HON.out (show 0<L by omega)
        injection e with e1 e2 e3
        subst e1 e3
        have HFL:Hid ((flat3 (tri (Qcx cs).W (Qcx cs).I (Qfz cs (m-1)))).length=L*3):=by show _=_;rw[Qb1,Qck,HEL.out,HML.out]
        have HCI:Hid (∀q,q<L->wr.cell? ⟨g,q*3+1,none⟩=some (.int .i64 ((Qcx cs).I.getD q 0))):=fun q hq=>by
         rw[Qcr HON.out (q*3+1) (by rw[HFL.out];omega),(Qgd _ _ _ q (by rw[HEL.out,<-HML.out];exact hq)).2.1]
        have cI:=HCI.out p (by omega)
        have cS:=Qcr HON.out (p*3+2) (by rw[HFL.out];omega)
        rw[(Qgd _ _ _ p (by rw[HEL.out,<-HML.out];omega)).2.2] at cS
        have hsy:=HSY.out p hpm
        rw[hsy.1] at cS
        obtain⟨sp,hsp⟩:∃sp:Nat,(nz cs k).getD p 0=(sp:Int):=⟨((nz cs k).getD p 0).toNat,by omega⟩
        have hspk:sp<k:=by omega
        rw[hsp] at cS
        have hspz:(sp:Int)<(k:Int):=by omega
        have hpL:(p:Int)<(L:Int):=by omega
        have HUQ:Hid (∀q,q<L->(Qcx cs).I.getD q 0= -1∨((q:Int)<(Qcx cs).I.getD q 0∧(Qcx cs).I.getD q 0<(L:Int))):=fun q hq=>by
         have:=HUP.out q (by rw[<-HML.out];exact hq)
         rw[<-HML.out] at this
         exact this
        have hup:=HUQ.out p (by omega)
        obtain⟨tot,htot⟩:∃tot,tot=chn (Qcx cs).I (2*m) ((Qcx cs).I.getD p 0):=⟨_,rfl⟩
        have HTOT:=hid htot
        have HDBP:=hid (HDB.out p hpm)
        rw[<-HTOT.out] at HDBP
        have HOS:=hid (show Qfg k (nz cs k) (Qfq cs) (p+1)=(Qfg k (nz cs k) (Qfq cs) p).set ((nz cs k).getD p 0).toNat ((Qfq cs).getD p 0) from rfl)
        rw[hsp,Int.toNat_natCast,HDBP.out] at HOS
        clear hsy hsp htot HDBP
        obtain⟨ip,hip⟩:∃ip,ip=(Qcx cs).I.getD p 0:=⟨_,rfl⟩
        rw[<-hip] at HTOT cI hup
        clear hip
        go_wp2_with fail
        go_loopw [9,10] (fun x y wr2=>∃(c:Nat) (q:Int),x= .int .i64 (c:Int)∧y= .int .i64 q∧ -1<=q∧q<(L:Int)∧(q<0∨(c:Int)<=q)∧c<=2*m∧Hid (tot=chn (Qcx cs).I (2*m-c) q+(c:Int))∧wr2=wr) (fun x _ _=>2*m+1-(intOf x).toNat)
        case atStart=>exact⟨0,ip,rfl,rfl,by omega,by omega,by omega,by omega,(by show _=_;rw[HTOT.out];simp),rfl⟩
        case round=>
         obtain⟨c,q,rfl,rfl,hq1,hqL,hcq,hc2,HCH,hwr⟩:=hrel
         subst hwr
         by_cases hq0:0<=q
         ·obtain⟨qn,rfl⟩:∃qn:Nat,q=(qn:Int):=⟨q.toNat,by omega⟩
          have hqn:qn<L:=by omega
          have cQ:=HCI.out qn hqn
          have hupq:=HUQ.out qn hqn
          have HCH2:Hid (tot=chn (Qcx cs).I (2*m-(c+1)) ((Qcx cs).I.getD qn 0)+((c:Int)+1)):=by
           show _=_
           have h:=HCH.out
           rw[show 2*m-c=(2*m-(c+1))+1 from by omega,chn,if_pos (by omega),Int.toNat_natCast] at h
           omega
          clear HCH
          obtain⟨iq,hiq⟩:∃iq,iq=(Qcx cs).I.getD qn 0:=⟨_,rfl⟩
          rw[<-hiq] at HCH2 cQ hupq
          clear hiq
          go_wp2
          exact⟨⟨c+1,iq,by go_num,rfl,by omega,by omega,by omega,by omega,HCH2,by first | rfl | trivial⟩,by simp[intOf];omega⟩
         ·have HCT:Hid (tot=(c:Int)):=by
           show _=_
           have h:=HCH.out
           rw[Qyt _ _ _ (by omega)] at h
           omega
          have co:=Qa3 HOU.out (Qb3 k (nz cs k) (Qfq cs) p) sp hspk
          have fo:=HOU.out.frozenAt sp
          generalize (Qfg k (nz cs k) (Qfq cs) p).getD sp 0=vo at *
          by_cases hc1:1<=c
          ·have hcz:(1:Int)<=(c:Int):=by omega
           have HOS2:Hid (Qfg k (nz cs k) (Qfq cs) (p+1)=(Qfg k (nz cs k) (Qfq cs) p).set sp (c:Int)):=by
            show _=_
            rw[HOS.out,HCT.out]
            congr 1
            first | omega | rfl
           have HON2:Hid ((wr.setCell ⟨gd,sp,none⟩ (.int .i64 (c:Int))).ownsRow w.heap.size 201 3 (.slice (some ⟨g,0,none⟩) L cl) L ((flat3 (tri (Qcx cs).W (Qcx cs).I (Qfz cs (m-1)))).map (Value.int .i64))):=by
            have hne:g<gd:=HGL.out g rfl
            refine ownsRow_setCell_other HON.out ?_ _
            simp[Value.ownBlock];omega
           have HOU2:Hid ((wr.setCell ⟨gd,sp,none⟩ (.int .i64 (c:Int))).ownsRow w.heap.size 3 1 (.slice (some ⟨gd,0,none⟩) k k) k ((Qfg k (nz cs k) (Qfq cs) (p+1)).map (Value.int .i64))):=by
            show World.ownsRow _ _ _ _ _ _ _
            rw[HOS2.out];exact Qh3 HOU.out (c:Int)
           have HBL2:=hid (HBL.out.setCell (show w.heap.size<=(Addr.mk gd sp none).block from(HOU.out.lt gd rfl).1) (.int .i64 (c:Int)))
           clear HOS HOS2 HCT HCH
           go_wp2_with fail
           try simp only[show max (c:Int) 1=(c:Int) from by omega]
           exact⟨⟨p+1,by omega,by go_num,HOU2,HON2,HBL2⟩,by simp[intOf];omega⟩
          ·obtain rfl:c=0:=by omega
           have HOS2:Hid (Qfg k (nz cs k) (Qfq cs) (p+1)=(Qfg k (nz cs k) (Qfq cs) p).set sp 1):=by
            show _=_
            rw[HOS.out,HCT.out]
            rfl
           have HON2:Hid ((wr.setCell ⟨gd,sp,none⟩ (.int .i64 1)).ownsRow w.heap.size 201 3 (.slice (some ⟨g,0,none⟩) L cl) L ((flat3 (tri (Qcx cs).W (Qcx cs).I (Qfz cs (m-1)))).map (Value.int .i64))):=by
            have hne:g<gd:=HGL.out g rfl
            refine ownsRow_setCell_other HON.out ?_ _
            simp[Value.ownBlock];omega
           have HOU2:Hid ((wr.setCell ⟨gd,sp,none⟩ (.int .i64 1)).ownsRow w.heap.size 3 1 (.slice (some ⟨gd,0,none⟩) k k) k ((Qfg k (nz cs k) (Qfq cs) (p+1)).map (Value.int .i64))):=by
            show World.ownsRow _ _ _ _ _ _ _
            rw[HOS2.out];exact Qh3 HOU.out 1
           have HBL2:=hid (HBL.out.setCell (show w.heap.size<=(Addr.mk gd sp none).block from(HOU.out.lt gd rfl).1) (.int .i64 1))
           clear HOS HOS2 HCT HCH
           go_wp2_with fail
           try simp only[show max (c:Int) 1=(c:Int) from by omega]
           exact⟨⟨p+1,by omega,by go_num,HOU2,HON2,HBL2⟩,by simp[intOf];omega⟩
       ·have HPM:Hid (p=m):=by show _=_;omega
        have HOF:Hid (wr.ownsRow w.heap.size 3 1 (.slice (some ⟨gd,0,none⟩) k k) k ((Xei cs).map (Value.int .i64))):=by
         show World.ownsRow _ _ _ _ _ _ _
         rw[HDD.out,<-HPM.out];exact HOU.out
        obtain⟨g,cp2,e,hgB,_⟩:=Qft HON.out (show 0<L by omega)
        injection e with e1 e2 e3
        subst e1 e3
        have HFL:Hid ((flat3 (tri (Qcx cs).W (Qcx cs).I (Qfz cs (m-1)))).length=L*3):=by show _=_;rw[Qb1,Qck,HEL.out,HML.out]
        have cS:=Qcr HON.out (p*3+2) (by rw[HFL.out];omega)
        rw[(Qgd _ _ _ p (by rw[HEL.out,<-HML.out];omega)).2.2] at cS
        have hs1:(Qfz cs (m-1)).getD p 0= -1:=by rw[HPM.out];exact HSP.out (by omega)
        rw[hs1] at cS
        clear hs1
        have hpL:(p:Int)<(L:Int):=by omega
        go_wp2
        go_ret
        exact⟨_,rfl,HOF.out,HBL.out⟩
    ·have ht0:t=0:=by omega
     subst ht0
     obtain⟨L,HLm⟩:∃L,Hid (L=m+0):=⟨_,rfl⟩
     have hz1:¬(1:Int)<(L:Int):=by have:=HLm.out;omega
     have HOE0:Hid (wr.ownsRow w.heap.size 201 3 u3 L ((flat3 (tri (Qcx cs).W (Qcx cs).I (Qfz cs (m-1)))).map (Value.int .i64))):=by
      show World.ownsRow _ _ _ _ _ _ _
      rw[HEN.out,show m-1=0 from by omega,HLm.out];exact HO.out
     obtain⟨al,cl,hv⟩:∃al cl,u3= .slice al L cl:=by
      rcases HOE0.out.2 with ⟨h1,h0⟩ | ⟨g,cap,cur,hv,_⟩
      ·exact⟨none,0,by rw[h1,h0]⟩
      ·exact⟨_,cap,hv⟩
     subst hv
     have HOE:=hid HOE0.out
     have HML:Hid (L=m+(m-1)):=by show _=_;have:=HLm.out;omega
     have hmL:m<=L:=by have:=HLm.out;omega
     have hLm2:L<=m:=by have:=HLm.out;omega
     have hL2:m=0∨L+1<=2*m:=by omega
     clear HO HOE0 HLm
     go_wp2_with (first
      | (at_make;refine wpList_make_full _ rfl _ _ 112 rfl w.heap.size 3 j0 (.int .i64 0) 1 Tryz.underlying112 hj hy0 hy1 .i64 .i64 _ _ k rfl rfl (by first | rfl | omega) (by first | rfl | omega) ?b2 ?b3 ?b4 ?_))
     case b2=>first | (rw[hy2];omega) | omega
     case b3=>unfold maxLen;omega
     case b4=>exact HB.out.size
     intro w5 hown0 hgrow
     have hb5:Below wr.heap.size wr w5:=(Below.refl _ _).grown hgrow (Nat.le_refl _) (fun k hk=>by cases hk)
     have hown1:w5.ownsRow w.heap.size 3 1 (.slice (some ⟨wr.heap.size,0,none⟩) k k) k ((List.replicate k (0:Int)).map (Value.int .i64)):=by
      rw[toList_madeCells_one] at hown0
      simpa using hown0
     have HO5:=hid (Qa9 HOE.out hb5)
     have HB5:=hid (Bn HB.out hb5)
     have HOZ:=hid hown1
     have HGL:=hid (fun g h=>(HOE.out.lt g h).2)
     clear hgrow hown0 hown1 hb5
     generalize wr.heap.size=gd at *
     go_wp2_with fail
     go_loopw [8] (fun y wr=>∃p:Nat,p<=m∧y= .int .i64 p∧Hid (wr.ownsRow w.heap.size 3 1 (.slice (some ⟨gd,0,none⟩) k k) k ((Qfg k (nz cs k) (Qfq cs) p).map (Value.int .i64)))∧Hid (wr.ownsRow w.heap.size 201 3 (.slice al L cl) L ((flat3 (tri (Qcx cs).W (Qcx cs).I (Qfz cs (m-1)))).map (Value.int .i64)))∧Hid (Below w.heap.size w wr)) (fun y _=>m-(intOf y).toNat)
     case atStart=>exact⟨0,by omega,rfl,HOZ,HO5,HB5⟩
     case round=>
      clear HOZ HO5 HB5
      obtain⟨p,hp,rfl,HOU,HON,HBL⟩:=hrel
      by_cases hpm:p<m
      ·obtain⟨g,cp2,e,hgB,_⟩:=Qft HON.out (show 0<L by omega)
       injection e with e1 e2 e3
       subst e1 e3
       have HFL:Hid ((flat3 (tri (Qcx cs).W (Qcx cs).I (Qfz cs (m-1)))).length=L*3):=by show _=_;rw[Qb1,Qck,HEL.out,HML.out]
       have HCI:Hid (∀q,q<L->wr.cell? ⟨g,q*3+1,none⟩=some (.int .i64 ((Qcx cs).I.getD q 0))):=fun q hq=>by
        rw[Qcr HON.out (q*3+1) (by rw[HFL.out];omega),(Qgd _ _ _ q (by rw[HEL.out,<-HML.out];exact hq)).2.1]
       have cI:=HCI.out p (by omega)
       have cS:=Qcr HON.out (p*3+2) (by rw[HFL.out];omega)
       rw[(Qgd _ _ _ p (by rw[HEL.out,<-HML.out];omega)).2.2] at cS
       have hsy:=HSY.out p hpm
       rw[hsy.1] at cS
       obtain⟨sp,hsp⟩:∃sp:Nat,(nz cs k).getD p 0=(sp:Int):=⟨((nz cs k).getD p 0).toNat,by omega⟩
       have hspk:sp<k:=by omega
       rw[hsp] at cS
       have hspz:(sp:Int)<(k:Int):=by omega
       have hpL:(p:Int)<(L:Int):=by omega
       have HUQ:Hid (∀q,q<L->(Qcx cs).I.getD q 0= -1∨((q:Int)<(Qcx cs).I.getD q 0∧(Qcx cs).I.getD q 0<(L:Int))):=fun q hq=>by
        have:=HUP.out q (by rw[<-HML.out];exact hq)
        rw[<-HML.out] at this
        exact this
       have hup:=HUQ.out p (by omega)
       obtain⟨tot,htot⟩:∃tot,tot=chn (Qcx cs).I (2*m) ((Qcx cs).I.getD p 0):=⟨_,rfl⟩
       have HTOT:=hid htot
       have HDBP:=hid (HDB.out p hpm)
       rw[<-HTOT.out] at HDBP
       have HOS:=hid (show Qfg k (nz cs k) (Qfq cs) (p+1)=(Qfg k (nz cs k) (Qfq cs) p).set ((nz cs k).getD p 0).toNat ((Qfq cs).getD p 0) from rfl)
       rw[hsp,Int.toNat_natCast,HDBP.out] at HOS
       clear hsy hsp htot HDBP
       obtain⟨ip,hip⟩:∃ip,ip=(Qcx cs).I.getD p 0:=⟨_,rfl⟩
       rw[<-hip] at HTOT cI hup
       clear hip
       go_wp2_with fail
       go_loopw [9,10] (fun x y wr2=>∃(c:Nat) (q:Int),x= .int .i64 (c:Int)∧y= .int .i64 q∧ -1<=q∧q<(L:Int)∧(q<0∨(c:Int)<=q)∧c<=2*m∧Hid (tot=chn (Qcx cs).I (2*m-c) q+(c:Int))∧wr2=wr) (fun x _ _=>2*m+1-(intOf x).toNat)
       case atStart=>exact⟨0,ip,rfl,rfl,by omega,by omega,by omega,by omega,(by show _=_;rw[HTOT.out];simp),rfl⟩
       case round=>
        obtain⟨c,q,rfl,rfl,hq1,hqL,hcq,hc2,HCH,hwr⟩:=hrel
        subst hwr
        by_cases hq0:0<=q
        ·obtain⟨qn,rfl⟩:∃qn:Nat,q=(qn:Int):=⟨q.toNat,by omega⟩
         have hqn:qn<L:=by omega
         have cQ:=HCI.out qn hqn
         have hupq:=HUQ.out qn hqn
         have HCH2:Hid (tot=chn (Qcx cs).I (2*m-(c+1)) ((Qcx cs).I.getD qn 0)+((c:Int)+1)):=by
          show _=_
          have h:=HCH.out
          rw[show 2*m-c=(2*m-(c+1))+1 from by omega,chn,if_pos (by omega),Int.toNat_natCast] at h
          omega
         clear HCH
         obtain⟨iq,hiq⟩:∃iq,iq=(Qcx cs).I.getD qn 0:=⟨_,rfl⟩
         rw[<-hiq] at HCH2 cQ hupq
         clear hiq
         go_wp2
         exact⟨⟨c+1,iq,by go_num,rfl,by omega,by omega,by omega,by omega,HCH2,by first | rfl | trivial⟩,by simp[intOf];omega⟩
        ·have HCT:Hid (tot=(c:Int)):=by
          show _=_
          have h:=HCH.out
          rw[Qyt _ _ _ (by omega)] at h
          omega
         have co:=Qa3 HOU.out (Qb3 k (nz cs k) (Qfq cs) p) sp hspk
         have fo:=HOU.out.frozenAt sp
         generalize (Qfg k (nz cs k) (Qfq cs) p).getD sp 0=vo at *
         by_cases hc1:1<=c
         ·have hcz:(1:Int)<=(c:Int):=by omega
          have HOS2:Hid (Qfg k (nz cs k) (Qfq cs) (p+1)=(Qfg k (nz cs k) (Qfq cs) p).set sp (c:Int)):=by
           show _=_
           rw[HOS.out,HCT.out]
           congr 1
           first | omega | rfl
          have HON2:Hid ((wr.setCell ⟨gd,sp,none⟩ (.int .i64 (c:Int))).ownsRow w.heap.size 201 3 (.slice (some ⟨g,0,none⟩) L cl) L ((flat3 (tri (Qcx cs).W (Qcx cs).I (Qfz cs (m-1)))).map (Value.int .i64))):=by
           have hne:g<gd:=HGL.out g rfl
           refine ownsRow_setCell_other HON.out ?_ _
           simp[Value.ownBlock];omega
          have HOU2:Hid ((wr.setCell ⟨gd,sp,none⟩ (.int .i64 (c:Int))).ownsRow w.heap.size 3 1 (.slice (some ⟨gd,0,none⟩) k k) k ((Qfg k (nz cs k) (Qfq cs) (p+1)).map (Value.int .i64))):=by
           show World.ownsRow _ _ _ _ _ _ _
           rw[HOS2.out];exact Qh3 HOU.out (c:Int)
          have HBL2:=hid (HBL.out.setCell (show w.heap.size<=(Addr.mk gd sp none).block from(HOU.out.lt gd rfl).1) (.int .i64 (c:Int)))
          clear HOS HOS2 HCT HCH
          go_wp2_with fail
          try simp only[show max (c:Int) 1=(c:Int) from by omega]
          exact⟨⟨p+1,by omega,by go_num,HOU2,HON2,HBL2⟩,by simp[intOf];omega⟩
         ·obtain rfl:c=0:=by omega
          have HOS2:Hid (Qfg k (nz cs k) (Qfq cs) (p+1)=(Qfg k (nz cs k) (Qfq cs) p).set sp 1):=by
           show _=_
           rw[HOS.out,HCT.out]
           rfl
          have HON2:Hid ((wr.setCell ⟨gd,sp,none⟩ (.int .i64 1)).ownsRow w.heap.size 201 3 (.slice (some ⟨g,0,none⟩) L cl) L ((flat3 (tri (Qcx cs).W (Qcx cs).I (Qfz cs (m-1)))).map (Value.int .i64))):=by
           have hne:g<gd:=HGL.out g rfl
           refine ownsRow_setCell_other HON.out ?_ _
           simp[Value.ownBlock];omega
          have HOU2:Hid ((wr.setCell ⟨gd,sp,none⟩ (.int .i64 1)).ownsRow w.heap.size 3 1 (.slice (some ⟨gd,0,none⟩) k k) k ((Qfg k (nz cs k) (Qfq cs) (p+1)).map (Value.int .i64))):=by
           show World.ownsRow _ _ _ _ _ _ _
           rw[HOS2.out];exact Qh3 HOU.out 1
          have HBL2:=hid (HBL.out.setCell (show w.heap.size<=(Addr.mk gd sp none).block from(HOU.out.lt gd rfl).1) (.int .i64 1))
          clear HOS HOS2 HCT HCH
          go_wp2_with fail
          try simp only[show max (c:Int) 1=(c:Int) from by omega]
          exact⟨⟨p+1,by omega,by go_num,HOU2,HON2,HBL2⟩,by simp[intOf];omega⟩
      ·have HPM:Hid (p=m):=by show _=_;omega
       have HOF:Hid (wr.ownsRow w.heap.size 3 1 (.slice (some ⟨gd,0,none⟩) k k) k ((Xei cs).map (Value.int .i64))):=by
        show World.ownsRow _ _ _ _ _ _ _
        rw[HDD.out,<-HPM.out];exact HOU.out
       have hpL:¬(p:Int)<(L:Int):=by omega
       go_wp2
       go_ret
       exact⟨_,rfl,HOF.out,HBL.out⟩
end
end Go.Proofs.YtibjlbcnapoblaaGreatDoor
