/-
 The contracts of slices.SortStableFunc at 1000 numbers or fewer, and of byCount.
-/
import Derived.Test.YtibjlbcnapoblaaGreatDoorPart12
import Derived.Test.YtibjlbcnapoblaaGreatDoorPart01
import Derived.Test.YtibjlbcnapoblaaGreatDoorPart05
namespace Go.Proofs.YtibjlbcnapoblaaGreatDoor
set_option maxRecDepth 100000
set_option maxHeartbeats 6400000
section
open Go.RowKit Hf
def Qoi:Nat:=1000
theorem Qs7(n cap B gb gs gc oc capc:Nat)(cs o:List Int)(w:World)(hcts:Cts w gb gs gc oc capc cs)(hn:n<=Qoi)(hl:o.length=n)
 (hown:w.ownsRow B 3 1 (.slice (some ⟨gs,0,none⟩) n cap) n (o.map (Value.int .i64))) (hcap:n<=cap) (ho:∀u∈o,0<=u∧u<(cs.length:Int)) (hinc:∀p q,p<q->q<n->o.getD p 0<o.getD q 0) :
 Calls Tryz.prog 178 #[.slice (some ⟨gs,0,none⟩) n cap,.int .i64 (n:Int),.func (.func 174) #[] #[.pointer (some ⟨gb,0,none⟩)]] w fun e w'=>e= .returned (.tuple #[])∧(∃X,Sorted cs 0 n o X∧w'.ownsRow B 3 1 (.slice (some ⟨gs,0,none⟩) n cap) n (X.map (Value.int .i64)))∧w.grownBy w' (some gs):=
 Xeo n cap B gb gs gc oc capc cs o w hcts (by unfold Qoi at hn;omega) hl hown hcap ho hinc
theorem Qvs(n cap B gb gs gc oc capc:Nat)(cs o:List Int)(w:World)(hcts:Cts w gb gs gc oc capc cs)(hn:n<=Qoi)(hl:o.length=n)
 (hown:w.ownsRow B 3 1 (.slice (some ⟨gs,0,none⟩) n cap) n (o.map (Value.int .i64))) (hcap:n<=cap) (ho:∀u∈o,0<=u∧u<(cs.length:Int)) (hinc:∀p q,p<q->q<n->o.getD p 0<o.getD q 0) :
 Calls Tryz.prog 173 #[.slice (some ⟨gs,0,none⟩) n cap,.func (.func 174) #[] #[.pointer (some ⟨gb,0,none⟩)]] w fun e w'=>e= .returned (.tuple #[])∧(∃X,Sorted cs 0 n o X∧w'.ownsRow B 3 1 (.slice (some ⟨gs,0,none⟩) n cap) n (X.map (Value.int .i64)))∧w.grownBy w' (some gs):=by
 have HS:=hid (Qs7 n cap B gb gs gc oc capc cs o w hcts hn hl hown hcap ho hinc)
 clear hown hcts ho hinc hl hn
 go_enter Tryz.func173,Tryz.ntmps173
 go_wp2_with fail
 refine HS.out.mono ?_
 rintro _ w1 ⟨rfl,hX,hg⟩
 have HX:=hid hX
 have HG:=hid hg
 clear hX hg
 go_wp2
 go_end0
 exact⟨rfl,HX.out,HG.out⟩
theorem Xg5(a:Option Addr)(cp:Nat)(fv:Value)(w:World):Calls Tryz.prog 182 #[.slice a 0 cp,.int .i64 0,.int .i64 0,fv] w fun e w'=>e= .returned (.tuple #[])∧w'=w:=by
 go_enter Tryz.func182,Tryz.ntmps182
 go_wp2
 refine wp_loop_rounds 1 ?_
 rw[rounds_succ]
 go_wp2
 go_end0
 exact⟨rfl,rfl⟩
theorem Qvo(a:Option Addr)(cp:Nat)(fv:Value)(w:World):Calls Tryz.prog 178 #[.slice a 0 cp,.int .i64 0,fv] w fun e w'=>e= .returned (.tuple #[])∧w'=w:=by
 have HI:=hid (Xg5 a cp fv w)
 go_enter Tryz.func178,Tryz.ntmps178
 go_wp2
 refine wp_loop_rounds 1 ?_
 rw[rounds_succ]
 go_wp2_with fail
 refine HI.out.mono ?_
 rintro _ w1 ⟨rfl,hw⟩
 obtain rfl:=hw.symm
 clear hw
 go_wp2
 refine wp_loop_rounds 1 ?_
 rw[rounds_succ]
 go_wp2
 go_end0
 exact⟨rfl,rfl⟩
theorem Qw3(a:Option Addr)(cp:Nat)(fv:Value)(w:World):Calls Tryz.prog 173 #[.slice a 0 cp,fv] w fun e w'=>e= .returned (.tuple #[])∧w'=w:=by
 have HI:=hid (Qvo a cp fv w)
 go_enter Tryz.func173,Tryz.ntmps173
 go_wp2_with fail
 refine HI.out.mono ?_
 rintro _ w1 ⟨rfl,hw⟩
 obtain rfl:=hw.symm
 clear hw
 go_wp2
 go_end0
 exact⟨rfl,rfl⟩
theorem Tryz.info3':(Tryz.prog.info? 3).map (fun i=>(i.zero,i.size,i.bytes))=some (some (.int .i64 0),1,8):=by kernel_rfl
theorem Qqu(a:Option Addr)(cap:Nat)(cs:List Int)(w:World)(hr:Ri w .i64 a cap cs)(hn:cs.length<=100000)(hm:(nz cs cs.length).length<=Qoi):
 Calls Tryz.prog 164 #[.slice a cs.length cap] w fun e w'=>∃v,e= .returned v∧w'.ownsRow w.heap.size 3 1 v (srt cs).length ((srt cs).map (Value.int .i64))∧Below w.heap.size w w':=by
 obtain⟨i0,hi,hz0,hz1,hz2⟩:=info_parts Tryz.info3'
 have HR:=hid hr
 obtain⟨len,hl⟩:∃n,n=cs.length:=⟨_,rfl⟩
 have HL:=hid hl
 rw[<-hl] at hn hm|-
 have HM:=hid hm
 have hbA:=Qaa w (.cells #[.slice a len cap] 112)
 have eA:=World.cell?_alloc_mark w #[.slice a len cap] 112 (0,0) 0
 have sA:(w.alloc (.cells #[.slice a len cap] 112)).heap.size=w.heap.size+1:=by simp
 have HBA:=hid hbA
 have HSA:=hid sA
 have cA:(w.alloc (.cells #[.slice a len cap] 112)).cell? ⟨w.heap.size,0,none⟩=some (.slice a len cap):=by simp
 have HCA:=hid cA
 clear hr hl hm hbA sA eA cA
 go_enter Tryz.func164,Tryz.ntmps164
 go_wp2_with fail
 generalize w.alloc (.cells #[.slice a len cap] 112)=wA at *
 go_loopw [3,8] (fun v y wr=>∃k:Nat,k<=len∧y= .int .i64 k∧wr.ownsRow (w.heap.size+1) 3 1 v (nz cs k).length ((nz cs k).map (Value.int .i64))∧Below (w.heap.size+1) wA wr) (fun _ y _=>len-(intOf y).toNat)
 case atStart=>exact⟨0,by omega,rfl,World.ownsRow_nil _ _ _ _,Below.refl _ _⟩
 case round=>
  obtain⟨k,hk,rfl,hown,hbel⟩:=hrel
  have hsz:w.heap.size+1<=wr.heap.size:=by rw[<-HSA.out];exact hbel.size
  by_cases hlt:k<len
  ·have hkl:(k:Int)<(len:Int):=by omega
   have K1:Hid (k<cs.length):=by show _<_;rw[<-HL.out];exact hlt
   obtain⟨b,off,rfl,hbw,hc⟩:=(HR.out).cells (by rw[<-HL.out];omega)
   have ck:wr.cell? ⟨b,off+k,none⟩=some (.int .i64 (cs.getD k 0)):=((hbel.cell (p:=⟨b,off+k,none⟩) (by show b<_;omega)).trans (HBA.out.cell (p:=⟨b,off+k,none⟩) hbw)).trans (hc k K1.out)
   clear hc
   have HNZ:=hid (show nz cs (k+1)=if 0<cs.getD k 0 then nz cs k++ [(k:Int)] else nz cs k from rfl)
   have hnl:=Qkg cs k
   generalize cs.getD k 0=c at *
   by_cases hc0:0<c
   ·have HN2:Hid (nz cs (k+1)=nz cs k++ [(k:Int)]):=by show _=_;rw[HNZ.out,if_pos hc0]
    go_wp2_with (at_builtin;refine wpList_append_own _ rfl _ _ 112 rfl (w.heap.size+1) 3 i0 (.int .i64 0) 1 8 Tryz.underlying112 hi hz0 hz1 hz2 rfl (by decide) _ _ _ rfl (hown.alloc _) ⟨wr.heap.size,0,none⟩ 1 1 [.int .i64 (k:Int)] rfl rfl ?c1 ?c2 ?c3 ?c4 ?c5 ?_)
    case c1=>
     intro j u hj
     match j,hj with
     | 0,hj=>simp at hj;subst hj;simp[Addr.add]
    case c2=>intro u hu;simp at hu;subst hu;rfl
    case c3=>unfold maxLen;omega
    case c4=>omega
    case c5=>simp;omega
    intro v1 w1 hown0 hgrow _
    have HB1:=hid ((hbel.alloc hsz _).grown hgrow (by simp;omega) (fun j hj=>(hown.lt j hj).1))
    have HO1:Hid (w1.ownsRow (w.heap.size+1) 3 1 v1 (nz cs (k+1)).length ((nz cs (k+1)).map (Value.int .i64))):=by
     show World.ownsRow _ _ _ _ _ _ _
     rw[HN2.out];simpa using hown0
    clear hown hown0 hgrow hbel ck
    go_wp2
    exact⟨⟨k+1,by omega,by go_num,HO1.out,HB1.out⟩,by simp[intOf];omega⟩
   ·have HN2:Hid (nz cs (k+1)=nz cs k):=by show _=_;rw[HNZ.out,if_neg hc0]
    go_wp2
    exact⟨⟨k+1,by omega,by go_num,by rw[HN2.out];exact hown,hbel⟩,by simp[intOf];omega⟩
  ·obtain rfl:k=len:=by omega
   have hboxr:wr.cell? ⟨w.heap.size,0,none⟩=some (.slice a k cap):=(hbel.cell (p:=⟨w.heap.size,0,none⟩) (by show w.heap.size<_;omega)).trans HCA.out
   have HBW:=hid (HBA.out.trans (hbel.mono (by omega)))
   by_cases h0:0<(nz cs k).length
   ·obtain⟨gs,cp,rfl,hgs,hcp⟩:=Qgr hown h0
    have hlen0:0<k:=by have:=Qkg cs k;omega
    obtain⟨b,off,rfl,hbw,hc⟩:=(HR.out).cells (by rw[<-HL.out];omega)
    have hcts:Cts wr w.heap.size gs b off cap cs:=by
     refine⟨by rw[<-HL.out];exact hboxr,fun j hj=>(HBW.out.cell (p:=⟨b,off+j,none⟩) hbw).trans (hc j hj),by rw[<-HL.out];omega,by omega,by omega⟩
    have HS:=hid (Qvs (nz cs k).length cp (w.heap.size+1) w.heap.size gs b off cap cs (nz cs k) wr hcts HM.out rfl hown hcp (fun u hu=>by have:=Qi9 cs k u hu;rw[<-HL.out];omega) (Qnn (Qtd cs k)))
    have hlt2:=(hown.lt gs rfl).2
    rw[HL.out] at HS
    have HKL:=hid HL.out
    clear hown hbel hc hcts
    rw[show nz cs k=nz cs cs.length from by rw[<-HL.out]]
    go_wp2_with fail
    refine HS.out.mono ?_
    rintro _ w1 ⟨rfl,⟨X,hX,hwX⟩,hg⟩
    have hXe:=Xiy hX
    subst hXe
    rw[<-Qb9] at hwX
    have HO:=hid (Qk2 hwX (show w.heap.size<=w.heap.size+1 from by omega))
    have HB:Hid (Below w.heap.size w w1):=HBW.out.grown hg HBW.out.size (fun j hj=>by injection hj with hj;omega)
    rw[<-Qb9]
    clear hX hwX hg
    go_wp2
    go_ret
    exact⟨_,rfl,HO.out,HB.out⟩
   ·have hnil:nz cs k= []:=List.length_eq_zero_iff.1 (by omega)
    obtain⟨a3,cp3,rfl⟩:∃a3 cp3,u3= .slice a3 0 cp3:=by
     rcases hown.2 with ⟨h1,_⟩ | ⟨g,cp,_,h1,_⟩
     ·exact⟨none,0,h1⟩
     ·exact⟨_,cp,by rw[h1,hnil];rfl⟩
    have hs0:srt cs= []:=by
     have:=Qb9 cs
     rw[<-HL.out,hnil] at this
     exact List.length_eq_zero_iff.1 this
    rw[hnil] at hown
    have HO:=hid (Qk2 hown (show w.heap.size<=w.heap.size+1 from by omega))
    have HSN:=hid (fun W=>Qw3 a3 cp3 (.func (.func 174) #[] #[.pointer (some ⟨w.heap.size,0,none⟩)]) W)
    have HE:=hid hs0
    clear hown hbel hnil hs0 h0
    go_wp2_with fail
    refine(HSN.out _).mono ?_
    rintro _ w1 ⟨rfl,hw⟩
    obtain rfl:=hw.symm
    clear hw
    go_wp2
    go_ret
    exact⟨_,rfl,by rw[HE.out];exact HO.out,HBW.out⟩
end
/-
 The contract of the closure that takes the least node.
-/
section
open Go.RowKit Hf
structure TM (w wr:World) (gy gN gl gp gr capN n:Nat) (vy:Value) (s:TS):Prop where
 sy:wr.heap[gy]?=some (.cells #[vy] 112 (0,0))
 nd:wr.heap[gN]?=some (.cells #[.slice (some ⟨gr,0,none⟩) s.N.length capN] 231 (0,0))
 lf:wr.heap[gl]?=some (.cells #[.int .i64 (s.l:Int)] 3 (0,0))
 pr:wr.heap[gp]?=some (.cells #[.int .i64 (s.p:Int)] 3 (0,0))
 row:wr.ownsRow w.heap.size 234 2 (.slice (some ⟨gr,0,none⟩) s.N.length capN) s.N.length ((Qc0 s.N).map (Value.int .i64))
 ne:gl≠gp
 by':w.heap.size<=gy
 bN:w.heap.size<=gN
 bl:w.heap.size<=gl
 bp:w.heap.size<=gp
 bel:Below w.heap.size w wr
theorem TM.wtCell{w wr:World}{gy gN gl gp gr capN n:Nat}{vy:Value}{s:TS}(h:TM w wr gy gN gl gp gr capN n vy s)(i:Nat)(hi:i<s.N.length):wr.cell? ⟨gr,i*2,none⟩=some (.int .i64 (wt s.N i)):=by
 rw[Nat.mul_comm i 2,h.row.cellAt (2*i) (by omega),List.getElem?_map,<-Qnx]
 have hl:=Qdx s.N
 simp[List.getD,List.getElem?_eq_getElem (show 2*i<(Qc0 s.N).length from by omega)]
theorem TM.rowBlk{w wr:World}{gy gN gl gp gr capN n:Nat}{vy:Value}{s:TS}(h:TM w wr gy gN gl gp gr capN n vy s):∃cur,wr.heap[gr]?=some (.cells cur 234 (0,0)):=by
 rcases h.row.2 with ⟨hv,_⟩ | ⟨g,cap,cur,hv,hb,hg,_⟩
 ·cases hv
 ·injection hv with hv
  injection hv with hv
  injection hv with hv _
  subst hv
  exact⟨cur,hg⟩
theorem Qat{wr:World}{a b:Nat}{c1 c2:Array Value}{t1 t2:TypeId}{m1 m2:Nat×Nat}(h1:wr.heap[a]?=some (.cells c1 t1 m1))(h2:wr.heap[b]?=some (.cells c2 t2 m2))(ht:t1≠t2):a≠b:=by
 intro e;subst e
 rw[h1] at h2
 injection h2 with h2
 injection h2 with _ h3 _
 exact ht h3
theorem TM.drew{w wr:World}{gy gN gl gp gr capN n:Nat}{vy:Value}{s:TS}(h:TM w wr gy gN gl gp gr capN n vy s):TM w wr.drew gy gN gl gp gr capN n vy s:=
 ⟨h.sy,h.nd,h.lf,h.pr,h.row,h.ne,h.by',h.bN,h.bl,h.bp,h.bel.drew⟩
theorem TM.setL{w wr:World}{gy gN gl gp gr capN n:Nat}{vy:Value}{s:TS}(h:TM w wr gy gN gl gp gr capN n vy s)(x:Nat):TM w (wr.setCell ⟨gl,0,none⟩ (.int .i64 (x:Int))) gy gN gl gp gr capN n vy ⟨s.N,x,s.p⟩:=by
 obtain⟨cur,hcur⟩:=h.rowBlk
 have n1:gy≠gl:=Qat h.sy h.lf (by decide)
 have n2:gN≠gl:=Qat h.nd h.lf (by decide)
 have n3:gr≠gl:=Qat hcur h.lf (by decide)
 refine⟨by rw[Qab h.lf n1];exact h.sy,by rw[Qab h.lf n2];exact h.nd,by rw[Joins.block_setCell h.lf];rfl,by rw[Qab h.lf (Ne.symm h.ne)];exact h.pr,?_,h.ne,h.by',h.bN,h.bl,h.bp,h.bel.setCell (show w.heap.size<=(Addr.mk gl 0 none).block from h.bl) _⟩
 exact ownsRow_setCell_other h.row (by simp[Value.ownBlock];exact n3) _
theorem TM.setP{w wr:World}{gy gN gl gp gr capN n:Nat}{vy:Value}{s:TS}(h:TM w wr gy gN gl gp gr capN n vy s)(x:Nat):TM w (wr.setCell ⟨gp,0,none⟩ (.int .i64 (x:Int))) gy gN gl gp gr capN n vy ⟨s.N,s.l,x⟩:=by
 obtain⟨cur,hcur⟩:=h.rowBlk
 have n1:gy≠gp:=Qat h.sy h.pr (by decide)
 have n2:gN≠gp:=Qat h.nd h.pr (by decide)
 have n3:gr≠gp:=Qat hcur h.pr (by decide)
 refine⟨by rw[Qab h.pr n1];exact h.sy,by rw[Qab h.pr n2];exact h.nd,by rw[Qab h.pr h.ne];exact h.lf,by rw[Joins.block_setCell h.pr];rfl,?_,h.ne,h.by',h.bN,h.bl,h.bp,h.bel.setCell (show w.heap.size<=(Addr.mk gp 0 none).block from h.bp) _⟩
 exact ownsRow_setCell_other h.row (by simp[Value.ownBlock];exact n3) _
theorem Qf2(gy gN gl gp gr capN n:Nat)(ay:Option Addr)(cy:Nat)(s:TS)(w wr:World)(h:TM w wr gy gN gl gp gr capN n (.slice ay n cy) s)(hn:n<=100000)(hlen:s.N.length<=200000)(ln:s.l<=n)(np:n<=s.p)(pl:s.p<=s.N.length)(hfree:0<(n-s.l)+(s.N.length-s.p)):
 Calls Tryz.prog 176 #[.pointer (some ⟨gp,0,none⟩),.pointer (some ⟨gN,0,none⟩),.pointer (some ⟨gl,0,none⟩),.pointer (some ⟨gy,0,none⟩)] wr fun e w'=>e= .returned (.int .i64 ((takeA n s.N s.l s.p:Nat):Int))∧TM w w' gy gN gl gp gr capN n (.slice ay n cy) ⟨s.N,Qay n s.N s.l s.p,Qax n s.N s.l s.p⟩:=by
 have c1:wr.cell? ⟨gp,0,none⟩=some (.int .i64 (s.p:Int)):=by have:=Joins.cell_of_block h.pr 0;simpa using this
 have c2:wr.cell? ⟨gN,0,none⟩=some (.slice (some ⟨gr,0,none⟩) s.N.length capN):=by have:=Joins.cell_of_block h.nd 0;simpa using this
 have c3:wr.cell? ⟨gl,0,none⟩=some (.int .i64 (s.l:Int)):=by have:=Joins.cell_of_block h.lf 0;simpa using this
 have c4:wr.cell? ⟨gy,0,none⟩=some (.slice ay n cy):=by have:=Joins.cell_of_block h.sy 0;simpa using this
 have f1:=Joins.unfrozen_of_block h.pr 0
 have f3:=Joins.unfrozen_of_block h.lf 0
 have hro:=h.row.1
 by_cases hp:s.p=s.N.length
 ·have hu:Qb4 n s.N s.l s.p=true:=by unfold Qb4;rw[hp];simp
  have hll:s.l<n:=by omega
  unfold takeA Qay Qax
  rw[hu]
  simp only[if_true]
  have HT:=hid (h.drew.setL (s.l+1))
  clear h hu hro
  rw[hp] at c1
  generalize s.N.length=len at *
  have hb:((len:Int)==(len:Int))=true:=by simp
  generalize s.l=l at *
  clear hp
  go_enter Tryz.func176,Tryz.ntmps176
  go_wp2_with fail
  go_region
  have d1:wr.drew.cell? ⟨gp,0,none⟩=some (.int .i64 (len:Int)):=c1
  have d3:wr.drew.cell? ⟨gl,0,none⟩=some (.int .i64 (l:Int)):=c3
  have g1:wr.drew.frozen? ⟨gp,0,none⟩=false:=f1
  have g3:wr.drew.frozen? ⟨gl,0,none⟩=false:=f3
  clear c1 c2 c3 c4 f1 f3
  generalize wr.drew=W at *
  go_wp2
  go_ret
  exact⟨rfl,HT.out⟩
 ·have hpl:s.p<s.N.length:=by omega
  have hpb:((s.p:Int)==(s.N.length:Int))=false:=by simp;omega
  have w2:=h.wtCell s.p hpl
  by_cases hll:s.l<n
  ·have w1:=h.wtCell s.l (by omega)
   have hlN:s.l<s.N.length:=by omega
   by_cases hw:wt s.N s.l<=wt s.N s.p
   ·have hu:Qb4 n s.N s.l s.p=true:=by unfold Qb4;simp[hll,hw]
    unfold takeA Qay Qax
    rw[hu]
    simp only[if_true]
    have HT:=hid (h.drew.setL (s.l+1))
    clear h hu hro hp
    generalize wt s.N s.l=x at *
    generalize wt s.N s.p=y at *
    generalize s.N.length=len at *
    generalize s.l=l at *
    generalize s.p=pp at *
    have hz1:(l:Int)<(len:Int):=by omega
    have hz2:(pp:Int)<(len:Int):=by omega
    have hz3:(l:Int)<(n:Int):=by omega
    go_enter Tryz.func176,Tryz.ntmps176
    go_wp2_with fail
    go_region
    have d1:wr.drew.cell? ⟨gp,0,none⟩=some (.int .i64 (pp:Int)):=c1
    have d3:wr.drew.cell? ⟨gl,0,none⟩=some (.int .i64 (l:Int)):=c3
    have g1:wr.drew.frozen? ⟨gp,0,none⟩=false:=f1
    have g3:wr.drew.frozen? ⟨gl,0,none⟩=false:=f3
    clear c1 c2 c3 c4 f1 f3 w1 w2
    generalize wr.drew=W at *
    go_wp2
    go_ret
    exact⟨rfl,HT.out⟩
   ·have hu:Qb4 n s.N s.l s.p=false:=by
     unfold Qb4
     rw[decide_eq_false hw,Bool.and_false,Bool.or_false]
     simpa using hp
    unfold takeA Qay Qax
    rw[hu]
    simp only[Bool.false_eq_true,if_false]
    have HT:=hid (h.drew.setP (s.p+1))
    clear h hu hro hp
    generalize wt s.N s.l=x at *
    generalize wt s.N s.p=y at *
    generalize s.N.length=len at *
    generalize s.l=l at *
    generalize s.p=pp at *
    have hz1:(l:Int)<(len:Int):=by omega
    have hz2:(pp:Int)<(len:Int):=by omega
    have hz3:(l:Int)<(n:Int):=by omega
    go_enter Tryz.func176,Tryz.ntmps176
    go_wp2_with fail
    go_region
    have d1:wr.drew.cell? ⟨gp,0,none⟩=some (.int .i64 (pp:Int)):=c1
    have d3:wr.drew.cell? ⟨gl,0,none⟩=some (.int .i64 (l:Int)):=c3
    have g1:wr.drew.frozen? ⟨gp,0,none⟩=false:=f1
    have g3:wr.drew.frozen? ⟨gl,0,none⟩=false:=f3
    clear c1 c2 c3 c4 f1 f3 w1 w2
    generalize wr.drew=W at *
    go_wp2
    go_ret
    exact⟨rfl,HT.out⟩
  ·have hu:Qb4 n s.N s.l s.p=false:=by
    unfold Qb4
    rw[decide_eq_false hll,Bool.false_and,Bool.or_false]
    simpa using hp
   unfold takeA Qay Qax
   rw[hu]
   simp only[Bool.false_eq_true,if_false]
   have HT:=hid (h.drew.setP (s.p+1))
   clear h hu hro hp
   generalize wt s.N s.p=y at *
   generalize s.N.length=len at *
   generalize s.l=l at *
   generalize s.p=pp at *
   have hz2:(pp:Int)<(len:Int):=by omega
   have hz3:¬(l:Int)<(n:Int):=by omega
   go_enter Tryz.func176,Tryz.ntmps176
   go_wp2_with fail
   go_region
   have d1:wr.drew.cell? ⟨gp,0,none⟩=some (.int .i64 (pp:Int)):=c1
   have d3:wr.drew.cell? ⟨gl,0,none⟩=some (.int .i64 (l:Int)):=c3
   have g1:wr.drew.frozen? ⟨gp,0,none⟩=false:=f1
   have g3:wr.drew.frozen? ⟨gl,0,none⟩=false:=f3
   clear c1 c2 c3 c4 f1 f3 w2
   generalize wr.drew=W at *
   go_wp2
   go_ret
   exact⟨rfl,HT.out⟩
end
/-
 The contract of huff's tree.
-/
section
open Go.RowKit Hf
theorem Tryz.info234:(Tryz.prog.info? 234).map (fun i=>(i.zero,i.size,i.bytes))=some (some (.agg #[.int .i64 0,.int .i64 0]),2,16):=by kernel_rfl
structure T0 (w wr:World) (gy gN gr capN:Nat) (vy:Value) (N:Nodes):Prop where
 sy:wr.heap[gy]?=some (.cells #[vy] 112 (0,0))
 nd:wr.heap[gN]?=some (.cells #[.slice (some ⟨gr,0,none⟩) N.length capN] 231 (0,0))
 row:wr.ownsRow w.heap.size 234 2 (.slice (some ⟨gr,0,none⟩) N.length capN) N.length ((Qc0 N).map (Value.int .i64))
 by':w.heap.size<=gy
 bN:w.heap.size<=gN
 bel:Below w.heap.size w wr
theorem TM.zero{w wr:World}{gy gN gl gp gr capN n:Nat}{vy:Value}{s:TS}(h:TM w wr gy gN gl gp gr capN n vy s):T0 w wr gy gN gr capN vy s.N:=⟨h.sy,h.nd,h.row,h.by',h.bN,h.bel⟩
theorem T0.drew{w wr:World}{gy gN gr capN:Nat}{vy:Value}{N:Nodes}(h:T0 w wr gy gN gr capN vy N):T0 w wr.drew gy gN gr capN vy N:=⟨h.sy,h.nd,h.row,h.by',h.bN,h.bel.drew⟩
theorem T0.box{w wr:World}{gy gN gr capN:Nat}{vy:Value}{N:Nodes}(h:T0 w wr gy gN gr capN vy N):wr.cell? ⟨gN,0,none⟩=some (.slice (some ⟨gr,0,none⟩) N.length capN):=by
 have:=Joins.cell_of_block h.nd 0;simpa using this
theorem T0.sym{w wr:World}{gy gN gr capN:Nat}{vy:Value}{N:Nodes}(h:T0 w wr gy gN gr capN vy N):wr.cell? ⟨gy,0,none⟩=some vy:=by
 have:=Joins.cell_of_block h.sy 0;simpa using this
theorem Qfc{w:World}{B e n size:Nat}{v:Value}{xs:List Value}(h:w.ownsRow B e size v n xs)(hn:0<n):∃g cap,v= .slice (some ⟨g,0,none⟩) n cap∧B<=g∧∃cur,w.heap[g]?=some (.cells cur e (0,0)):=by
 rcases h.2 with ⟨_,h0⟩ | ⟨g,cap,cur,hv,hb,hg,hnc,_⟩
 ·omega
 ·exact⟨g,cap,hv,hb,cur,hg⟩
structure App (w wr w2:World) (gy gN gr capN:Nat) (vy:Value) (N:Nodes) (x:Int):Prop where
 row:w2.ownsRow w.heap.size 234 2 (.slice (some ⟨gr,0,none⟩) (N++ [(x,0)]).length capN) (N++ [(x,0)]).length ((Qc0 (N++ [(x,0)])).map (Value.int .i64))
 nd:w2.heap[gN]?=some (.cells #[.slice (some ⟨gr,0,none⟩) N.length capN] 231 (0,0))
 sy:w2.heap[gy]?=some (.cells #[vy] 112 (0,0))
 bel:Below w.heap.size w w2
 oth:∀k,k<wr.heap.size->k≠gr->w2.heap[k]?=wr.heap[k]?
theorem T0.rowBlk{w wr:World}{gy gN gr capN:Nat}{vy:Value}{N:Nodes}(h:T0 w wr gy gN gr capN vy N):∃cur,wr.heap[gr]?=some (.cells cur 234 (0,0)):=by
 rcases h.row.2 with ⟨hv,_⟩ | ⟨g,cap,cur,hv,hb,hg,_⟩
 ·cases hv
 ·injection hv with hv
  injection hv with hv
  injection hv with hv _
  subst hv
  exact⟨cur,hg⟩
theorem T0.app{w wr w2:World}{gy gN gr capN:Nat}{vy:Value}{N:Nodes}{x:Int}{o:Obj}(h:T0 w wr gy gN gr capN vy N)(hg:(wr.alloc o).grownBy w2 (some gr))
 (hown2:w2.ownsRow w.heap.size 234 2 (.slice (some ⟨gr,0,none⟩) (N++ [(x,0)]).length capN) (N++ [(x,0)]).length ((Qc0 (N++ [(x,0)])).map (Value.int .i64))):App w wr w2 gy gN gr capN vy N x:=by
 obtain⟨cur,hcur⟩:=h.rowBlk
 have n1:gN≠gr:=Qat h.nd hcur (by decide)
 have n2:gy≠gr:=Qat h.sy hcur (by decide)
 have hl:∀k,k<wr.heap.size->k≠gr->w2.heap[k]?=wr.heap[k]?:=fun k hk hne=>by
  rw[hg.block k (by simp;omega) (by simp;exact hne)]
  exact(Qaa wr o).block k hk
 exact⟨hown2,by rw[hl gN (Array.getElem?_eq_some_iff.1 h.nd).1 n1];exact h.nd,by rw[hl gy (Array.getElem?_eq_some_iff.1 h.sy).1 n2];exact h.sy,
  (h.bel.alloc h.bel.size o).grown hg (by simp;have:=h.bel.size;omega) (fun k hk=>by injection hk with hk;subst hk;exact(h.row.lt gr rfl).1),hl⟩
theorem App.box{w wr w2:World}{gy gN gr capN:Nat}{vy:Value}{N:Nodes}{x:Int}(h:App w wr w2 gy gN gr capN vy N x):w2.cell? ⟨gN,0,none⟩=some (.slice (some ⟨gr,0,none⟩) N.length capN):=by
 have:=Joins.cell_of_block h.nd 0;simpa using this
theorem App.froz{w wr w2:World}{gy gN gr capN:Nat}{vy:Value}{N:Nodes}{x:Int}(h:App w wr w2 gy gN gr capN vy N x):w2.frozen? ⟨gN,0,none⟩=false:=Joins.unfrozen_of_block h.nd 0
theorem App.wt{w wr w2:World}{gy gN gr capN:Nat}{vy:Value}{N:Nodes}{x:Int}(h:App w wr w2 gy gN gr capN vy N x)(i:Nat)(hi:i<N.length):w2.cell? ⟨gr,i*2,none⟩=some (.int .i64 (Hf.wt N i)):=by
 have hl:=Qdx (N++ [(x,0)])
 have hl2:(N++ [(x,0)]).length=N.length+1:=by simp
 rw[Nat.mul_comm i 2,h.row.cellAt (2*i) (by omega),List.getElem?_map,<-Xa3 N (x,0) i hi,<-Qnx]
 simp[List.getD,List.getElem?_eq_getElem (show 2*i<(Qc0 (N++ [(x,0)])).length from by omega)]
theorem App.store{w wr w2:World}{gy gN gr capN:Nat}{vy:Value}{N:Nodes}{x:Int}(h:App w wr w2 gy gN gr capN vy N x)(h0:T0 w wr gy gN gr capN vy N):
 T0 w (w2.setCell ⟨gN,0,none⟩ (.slice (some ⟨gr,0,none⟩) (N++ [(x,0)]).length capN)) gy gN gr capN vy (N++ [(x,0)])∧(∀k,k<wr.heap.size->k≠gr->k≠gN->(w2.setCell ⟨gN,0,none⟩ (.slice (some ⟨gr,0,none⟩) (N++ [(x,0)]).length capN)).heap[k]?=wr.heap[k]?):=by
 have n3:gy≠gN:=Qat h.sy h.nd (by decide)
 have hrow:∃cur,w2.heap[gr]?=some (.cells cur 234 (0,0)):=by
  rcases h.row.2 with ⟨hv,_⟩ | ⟨g,cap,cur,hv,hb,hg,_⟩
  ·cases hv
  ·injection hv with hv
   injection hv with hv
   injection hv with hv _
   subst hv
   exact⟨cur,hg⟩
 obtain⟨cur,hcur⟩:=hrow
 have n4:gr≠gN:=Qat hcur h.nd (by decide)
 refine⟨⟨by rw[Qab h.nd n3];exact h.sy,by rw[Joins.block_setCell h.nd];rfl,ownsRow_setCell_other h.row (by simp[Value.ownBlock];exact n4) _,h0.by',h0.bN,h.bel.setCell (show w.heap.size<=(Addr.mk gN 0 none).block from h0.bN) _⟩,fun k hk h1 h2=>?_⟩
 rw[Qab h.nd h2,h.oth k hk h1]
theorem Qlc(w w0:World){o:Oper}{ac:Act}{K:Act->World->Prop}{Q:Exit->Act->World->Prop}(s x:Operand)
 (ho:o.op= .call {callee:= .builtin .append,args:= #[s,x],argTypes:= #[231,231]}) (B gr capN:Nat) (N:Nodes) (z:Int) (hs:ac.eval s= .slice (some ⟨gr,0,none⟩) N.length capN) (hown:w0.ownsRow B 234 2 (.slice (some ⟨gr,0,none⟩) N.length capN) N.length ((Qc0 N).map (Value.int .i64)))
 (hw:w=w0.alloc (.cells #[.int .i64 z,.int .i64 0] 234)) (hx:ac.eval x= .slice (some ⟨w0.heap.size,0,none⟩) 1 1) (hbd:N.length+1<=capN)
 (h:∀w',w'.ownsRow B 234 2 (.slice (some ⟨gr,0,none⟩) (N++ [(z,0)]).length capN) (N++ [(z,0)]).length ((Qc0 (N++ [(z,0)])).map (Value.int .i64))->w.grownBy w' (some gr)->K (ac.put o.dst (.slice (some ⟨gr,0,none⟩) (N++ [(z,0)]).length capN)) w'):o.wp Tryz.prog ac w K Q:=by
 obtain⟨i0,hi,hz0,hz1,hz2⟩:=info_parts Tryz.info234
 subst hw
 obtain⟨w',hr,h2,h3⟩:=run_append_fits (P:=Tryz.prog) (w0.alloc (.cells #[.int .i64 z,.int .i64 0] 234)) B 231 o.type 234 i0 2 Tryz.underlying231 hi hz1 gr N.length capN _ (hown.alloc _) ⟨w0.heap.size,0,none⟩ 1 1 [.int .i64 z,.int .i64 0] rfl (by
  intro j u hj
  match j,hj with
  | 0,hj=>simp at hj;subst hj;simp[Addr.add]
  | 1,hj=>simp at hj;subst hj;simp[Addr.add]) (by
  intro u hu
  simp at hu
  rcases hu with rfl | rfl<;>rfl) hbd
 unfold Oper.wp execOp
 simp only[ho,resolve,invoke,builtin,Sem.run_bind,Sem.run_pure,Result.andThen_ok,List.map_toArray,List.map_cons,List.map_nil,hs,hx,hr]
 have hl:(N++ [(z,0)]).length=N.length+1:=by simp
 have:=h w' (by rw[hl,Qqp,List.map_append];exact h2) h3
 rw[hl] at this
 exact this
def wsOf(cs sy:List Int):List Int:=sy.map (key cs)
theorem Qf6(cs sy:List Int)(k:Nat)(hk:k<sy.length):(wsOf cs sy).getD k 0=key cs (sy.getD k 0):=by
 unfold wsOf
 simp[List.getD,hk]
def Qd9(ws:List Int)(k:Nat):Nodes:=(ws.take k).map (fun x=>(x,0))
theorem Qn7(ws:List Int)(k:Nat)(hk:k<=ws.length):(Qd9 ws k).length=k:=by simp[Qd9];omega
theorem Qr0(ws:List Int)(k:Nat)(hk:k<ws.length):Qd9 ws (k+1)=Qd9 ws k++ [(ws.getD k 0,0)]:=by
 unfold Qd9
 rw[Qbo ws k hk,List.map_append]
 rfl
end
end Go.Proofs.YtibjlbcnapoblaaGreatDoor
