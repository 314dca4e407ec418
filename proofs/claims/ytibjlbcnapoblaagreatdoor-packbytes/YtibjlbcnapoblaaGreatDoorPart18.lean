/- Contracts and facts. -/
import Derived.Test.YtibjlbcnapoblaaGreatDoorPart16
import Derived.Laws.DeepNot64
namespace Go.Proofs.YtibjlbcnapoblaaGreatDoor
set_option maxRecDepth 100000
set_option maxHeartbeats 6400000
section
open Go.RowKit Hf
theorem Xe3(T:Tr)(i b:Nat)(hb:b<2):(Qc4 T).getD (i*2+b) 0=ent T i b:=by
 unfold ent
 by_cases e:b=0
 ·subst e;rw[if_pos rfl,Nat.add_zero,Nat.mul_comm];exact Qog T i
 ·obtain rfl:b=1:=by omega
  rw[if_neg (by omega),Nat.mul_comm];exact Ql6 T i
theorem Xbi(T:Tr)(i b:Nat)(x:Int)(hi:i<T.length)(hb:b<2):(Qc4 T).set (i*2+b) x=Qc4 (Qmo T i b x):=by
 unfold Qmo
 induction T generalizing i with
 | nil=>simp at hi
 | cons y T ih=>
   cases i with
   | zero=>
     by_cases e:b=0
     ·subst e;simp[Qdn]
     ·obtain rfl:b=1:=by omega
      simp[Qdn]
   | succ i=>
     have:=ih i (by simpa using hi)
     rw[show(i+1)*2+b=i*2+b+1+1 from by omega]
     simp only[Qdn,List.set_cons_succ,List.getD_cons_succ]
     rw[this]
theorem Tryz.info238:(Tryz.prog.info? 238).map (fun i=>(i.zero,i.size,i.bytes))=some (some (.agg #[.int .i64 0,.int .i64 0]),2,16):=by kernel_rfl
def Tm(B:Nat)(w:World)(v:Value)(T:Tr):Prop:=w.ownsRow B 238 2 v T.length ((Qc4 T).map (Value.int .i64))
theorem Tm.cells{B:Nat}{w:World}{v:Value}{T:Tr}(h:Tm B w v T)(h0:0<T.length):∃g cap,v= .slice (some ⟨g,0,none⟩) T.length cap∧B<=g∧T.length<=cap∧cap<=maxLen∧(∀i b,i<T.length->b<2->w.cell? ⟨g,i*2+b,none⟩=some (.int .i64 (ent T i b)))∧∀k,w.frozen? ⟨g,k,none⟩=false:=by
 have hr:=h
 unfold Tm at hr
 rcases hr.2 with ⟨_,h2⟩ | ⟨g,cap,cur,rfl,hB,hh,hn,hm,_⟩
 ·omega
 ·refine⟨g,cap,rfl,hB,hn,hm,fun i b hi hb=>?_,fun k=>hr.frozenAt k⟩
  have hlt:i*2+b<((Qc4 T).map (Value.int .i64)).length:=by rw[List.length_map,Qd2];omega
  rw[hr.cellAt _ (by omega),<-Xe3 T i b hb]
  simp only[List.length_map] at hlt
  simp[List.getD,List.getElem?_eq_getElem hlt]
theorem Tm.put{B g cap:Nat}{w:World}{T:Tr}(h:Tm B w (.slice (some ⟨g,0,none⟩) T.length cap) T)(i b:Nat)(x:Int)(hi:i<T.length)(hb:b<2):Tm B (w.setCell ⟨g,i*2+b,none⟩ (.int .i64 x)) (.slice (some ⟨g,0,none⟩) T.length cap) (Qmo T i b x):=by
 unfold Tm at h|-
 have hs:=(h.stored (i*2+b) (.int .i64 x)).1
 rw[<-List.map_set,Xbi T i b x hi hb] at hs
 rw[Qa6];exact hs
theorem Xi8(w:World)(x y:Value)(t:TypeId):∀j u,[x,y][j]?=some u->(w.alloc (.cells #[x,y] t)).cell? (Addr.add ⟨w.heap.size,0,none⟩ j)=some u:=by
 intro j u hj
 have h:=Qag w (.cells #[x,y] t)
 have h2:(w.alloc (.cells #[x,y] t)).cell? (Addr.add ⟨w.heap.size,0,none⟩ j)= #[x,y][j]?:=by
  rw[Go.WideShapes.add_plain]
  simp only[World.cell?,h,Nat.zero_add];rfl
 rw[h2,<-hj]
 simp
theorem Qyw(y:Nat)(h:y<65536):bits .and .u16 (y:Int) 1=((y%2:Nat):Int):=by
 rw[show(1:Int)=((1:Nat):Int) from rfl,u16_and_nat y 1 h (by omega),Nat.and_one_is_mod]
theorem Qt3(W w:World)(v:Value)(T:Tr)(P:List (Nat×Nat))(S:Nat×Nat->Prop)(s c n:Nat)(hown:Tm W.heap.size w v T)(hbel:Below W.heap.size W w)(hT:Tv T P S)(hn:1<=n)(hn2:n<=15)(hc:c<2^n)(hs:s<=1000)(hlen:T.length<=100000)
 (hap:∀l p,S (l,p)->l<n->c/2^(n-l)≠p) :
 Calls Tryz.prog 169 #[v,.int .i64 (s:Int),.int .u16 (c:Int),.int .i64 (n:Int)] w fun e w'=>∃v',e= .returned v'∧Tm W.heap.size w' v' (Qc0 s c (n-1) 0 T)∧Below W.heap.size W w':=by
 obtain⟨i0,hi,hz0,hz1,hz2⟩:=info_parts Tryz.info238
 have hc16:c<65536:=Nat.lt_of_lt_of_le hc (by have:=Nat.pow_le_pow_right (show 0<2 by decide) (show n<=16 by omega);simpa using this)
 have HAP:=hid hap
 have HST:Hid (∃(T':Tr) (P':List (Nat×Nat)),Tm W.heap.size w v T'∧Tv T' P' S∧0<T'.length∧P'.getD 0 (0,0)=(n-1-(n-1),c/2^(n-1+1))∧Qc0 s c (n-1) 0 T'=Qc0 s c (n-1) 0 T∧T'.length+(n-1)<=100100):=
  ⟨T,P,hown,hT,hT.pos,by rw[hT.root,show n-1+1=n from by omega,Nat.div_eq_of_lt hc,Nat.sub_self],rfl,by omega⟩
 have HB:=hid hbel
 clear hown hbel hT hap
 obtain⟨m0,hm0⟩:∃m,m=n-1:=⟨_,rfl⟩
 have HM0:=hid hm0
 rw[<-hm0] at HST|-
 have HNI:Hid ((n:Int)-1=(m0:Int)):=by show _=_;omega
 have hm14:m0<=14:=by omega
 clear hm0
 go_enter Tryz.func169,Tryz.ntmps169
 go_wp2_with fail
 rw[HNI.out]
 clear HNI
 go_loopw [0,3,9,10] (fun x y z _ wr=>∃(m at_:Nat),y= .int .i64 (m:Int)∧z= .int .i64 (at_:Int)∧m<=m0∧Hid (Below W.heap.size W wr)∧Hid (∃(T':Tr) (P':List (Nat×Nat)),Tm W.heap.size wr x T'∧Tv T' P' S∧at_<T'.length∧P'.getD at_ (0,0)=(m0-m,c/2^(m+1))∧Qc0 s c m at_ T'=Qc0 s c m0 0 T∧T'.length+m<=100100)) (fun _ y _ _ _=>(intOf y).toNat)
 case atStart=>exact⟨m0,0,rfl,rfl,by omega,HB.out,HST.out⟩
 case round=>
  obtain⟨m,at_,rfl,rfl,hm,HB1,HX⟩:=hrel
  clear HST HB
  obtain⟨T',P',hTm,hTv,hat,hP,hg,hln⟩:=HX.out
  clear HX
  obtain⟨g,cap,hv,hgB,hcap,hcm,hcl,hfz⟩:=hTm.cells hTv.pos
  subst hv
  rcases Nat.eq_zero_or_pos m with h0 | h0
  ·subst h0
   obtain⟨b,hb⟩:∃b,b=c%2:=⟨_,rfl⟩
   have hand:=Qyw c hc16
   rw[<-hb] at hand
   have hb2:b<2:=by omega
   have hbi:(b:Int)<2:=by omega
   have ce:=hcl at_ b hat hb2
   have fe:=hfz (at_*2+b)
   have hati:(at_:Int)<(T'.length:Int):=by omega
   have HG0:Hid (Qc0 s c m0 0 T=Qmo T' at_ b (-(s:Int)-1)):=by show _=_;rw[<-hg,Qc0,<-hb]
   have HTM:=hid (hTm.put at_ b (-(s:Int)-1) hat hb2)
   have HB3:=hid (HB1.out.setCell (p:=⟨g,at_*2+b,none⟩) hgB (.int .i64 (-(s:Int)-1)))
   obtain⟨tl,htl⟩:∃x,x=T'.length:=⟨_,rfl⟩
   rw[<-htl] at hat hcap hati HTM
   rw[<-htl]
   clear hb hcl hfz hTm hTv hP hg hln htl
   have hnot:bits .xor .i64 (-1) (s:Int)= -(s:Int)-1:=by rw[i64_not s (by omega)];omega
   go_wp2_with fail
   go_ret
   refine⟨_,rfl,?_,HB3.out⟩
   rw[HG0.out]
   exact HTM.out
  ·obtain⟨q,rfl⟩:∃q,m=q+1:=⟨m-1,by omega⟩
   have hq0:(0:Int)<((q:Int)+1):=by omega
   obtain⟨y,hy⟩:∃y,y=c/2^(q+1):=⟨_,rfl⟩
   have hyl:y<65536:=by rw[hy];exact Nat.lt_of_le_of_lt (Nat.div_le_self _ _) hc16
   have hsh:(c:Int)/2^(q+1)=(y:Int):=by rw[hy];simp
   have hand:=Qyw y hyl
   obtain⟨b,hb⟩:∃b,b=y%2:=⟨_,rfl⟩
   rw[<-hb] at hand
   have hb2:b<2:=by omega
   have hbi:(b:Int)<2:=by omega
   have ce:=hcl at_ b hat hb2
   have fe:=hfz (at_*2+b)
   have hati:(at_:Int)<(T'.length:Int):=by omega
   have HG0:Hid (Qc0 s c (q+1) at_ T'=if ent T' at_ b=0 then Qc0 s c q T'.length (Qmo T' at_ b (T'.length:Int)++ [(0,0)]) else Qc0 s c q (ent T' at_ b).toNat T'):=by show _=_;rw[Qc0,<-hy,<-hb]
   have HY:=hid hy
   have HBB:=hid hb
   have HTM:=hid hTm
   have HTV:=hid hTv
   have HPP:=hid hP
   have HGG:=hid hg
   have HLN:=hid hln
   obtain⟨tl,htl⟩:∃x,x=T'.length:=⟨_,rfl⟩
   have HTL:=hid htl
   rw[<-htl] at hat hcap hati HG0 HTM
   rw[<-htl]
   clear hy hb hcl hfz hTm hTv hP hg hln htl
   have hmi:((q+1:Nat):Int)=(q:Int)+1:=by omega
   rw[hmi]
   by_cases he:ent T' at_ b=0
   ·rw[he] at ce
    rw[if_pos he] at HG0
    have hB1s:=HB1.out.size
    have HO2:Hid ((wr.setCell ⟨g,at_*2+b,none⟩ (.int .i64 (tl:Int))).ownsRow W.heap.size 238 2 (.slice (some ⟨g,0,none⟩) tl cap) tl ((Qc4 (Qmo T' at_ b (tl:Int))).map (Value.int .i64))):=by
     have h1:=HTM.out
     rw[HTL.out] at h1|-
     have h2:=h1.put at_ b (T'.length:Int) (by rw[<-HTL.out];exact hat) hb2
     unfold Tm at h2
     rw[Qa6] at h2
     exact h2
    have HNW:Hid (∀j u,[Value.int .i64 0,Value.int .i64 0][j]?=some u->((wr.setCell ⟨g,at_*2+b,none⟩ (.int .i64 (tl:Int))).alloc (.cells #[.int .i64 0,.int .i64 0] 238)).cell? (Addr.add ⟨wr.heap.size,0,none⟩ j)=some u):=by
     have h1:=Xi8 (wr.setCell ⟨g,at_*2+b,none⟩ (.int .i64 (tl:Int))) (.int .i64 0) (.int .i64 0) 238
     rw[World.size_setCell] at h1
     exact h1
    have htl9:tl<=100100:=by have:=HLN.out;have:=HTL.out;omega
    go_wp2_with (at_builtin;refine wpList_append_own _ rfl _ _ 224 rfl W.heap.size 238 i0 (.agg #[.int .i64 0,.int .i64 0]) 2 16 Tryz.underlying224 hi hz0 hz1 hz2 rfl (by decide) _ _ _ rfl (HO2.out.alloc _) ⟨wr.heap.size,0,none⟩ 1 1 [.int .i64 0,.int .i64 0] rfl rfl HNW.out (by simp[Value.oneCell']) (by unfold maxLen;omega) (by omega) (by simp;omega) ?_)
    intro v' w3 hown3 hgrow3 _
    have HB3:Hid (Below W.heap.size W w3):=by
     refine((HB1.out.setCell (p:=⟨g,at_*2+b,none⟩) hgB _).alloc (by simp;omega) _).grown hgrow3 (by simp;omega) (fun k hk=>?_)
     simp only[Value.ownBlock,Option.some.injEq] at hk
     omega
    obtain⟨T2,hT2⟩:∃x,x=Qmo T' at_ b (tl:Int)++ [(0,0)]:=⟨_,rfl⟩
    have hl2:T2.length=tl+1:=by rw[hT2,List.length_append,Qa6,<-HTL.out];rfl
    have hTm2:Tm W.heap.size w3 v' T2:=by
     unfold Tm
     rw[hl2,hT2,Qrs,List.map_append]
     exact hown3
    have HTV2:Hid (Tv T2 (P'++ [((P'.getD at_ (0,0)).1+1,2*(P'.getD at_ (0,0)).2+b)]) S):=by
     have:=HTV.out.node at_ b (by rw[<-HTL.out];exact hat) hb2
     rw[<-HTL.out,<-hT2] at this
     exact this
    have HP2:Hid ((P'++ [((P'.getD at_ (0,0)).1+1,2*(P'.getD at_ (0,0)).2+b)]).getD tl (0,0)=(m0-q,c/2^(q+1))):=by
     have h1:=HTV.out.len
     have h2:=HTL.out
     have h3:=half c (q+1)
     have h4:=HBB.out
     rw[HY.out] at h4
     show _=_
     rw[h2,<-h1,HPP.out]
     simp only[List.getD,List.getElem?_concat_length,Option.getD_some,Prod.mk.injEq]
     exact⟨by omega,by omega⟩
    obtain⟨g3,cap3,hv3,hgB3,hcap3,hcm3,hcl3,hfz3⟩:=hTm2.cells HTV2.out.pos
    subst hv3
    have HTM2:=hid hTm2
    have ce3:=hcl3 at_ b (by omega) hb2
    rw[hT2,Qi6,Qee T' at_ b _ (by rw[<-HTL.out];exact hat) at_ b hb2 hb2,if_pos ⟨rfl,rfl⟩] at ce3
    rw[<-hT2] at HG0
    rw[hl2] at hcap3 HTM2
    rw[hl2]
    have HL2:=hid hl2
    clear hown3 hgrow3 hT2 hl2 hTm2 hcl3 hfz3 ce fe
    have hati3:(at_:Int)<((tl+1:Nat):Int):=by omega
    go_wp2_with fail
    refine⟨⟨q,tl,rfl,rfl,by omega,HB3,T2,_,HTM2.out,HTV2.out,by rw[HL2.out];omega,HP2.out,by rw[<-HG0.out];exact HGG.out,by have:=HLN.out;have:=HTL.out;rw[HL2.out];omega⟩,?_⟩
    simp only[intOf]
    omega
   ·have hpos:0<ent T' at_ b:=by
     rcases Int.lt_trichotomy (ent T' at_ b) 0 with h | h | h
     ·exfalso
      have h1:=HTV.out.leaf at_ b (by rw[<-HTL.out];exact hat) hb2 h
      have h3:=half c (q+1)
      have h4:=HBB.out
      have h5:=HM0.out
      rw[HY.out] at h4
      rw[HPP.out] at h1
      refine HAP.out _ _ h1 (by dsimp only;omega) ?_
      dsimp only
      rw[show n-(m0-(q+1)+1)=q+1 from by omega]
      omega
     ·exact absurd h he
     ·exact h
    have hup:=HTV.out.up at_ b (by rw[<-HTL.out];exact hat) hb2 hpos
    rw[if_neg he] at HG0
    obtain⟨e,hee⟩:∃e:Nat,ent T' at_ b=(e:Int):=⟨_,(Int.toNat_of_nonneg (by omega)).symm⟩
    rw[hee] at HG0 hup ce hpos
    rw[Int.toNat_natCast] at HG0 hup
    have HUP:=hid hup
    have he0:¬(e:Int)=0:=by omega
    clear hup hee he
    go_wp2_with fail
    refine⟨⟨q,e,rfl,rfl,by omega,HB1,T',P',HTM.out,HTV.out,HUP.out.1,?_,by rw[<-HG0.out];exact HGG.out,by have:=HLN.out;omega⟩,?_⟩
    ·have h3:=half c (q+1)
     have h4:=HBB.out
     rw[HY.out] at h4
     rw[HUP.out.2,HPP.out]
     simp only[Prod.mk.injEq]
     exact⟨by omega,by omega⟩
    ·simp only[intOf]
     omega
theorem Qsi(a:Option Addr)(cap:Nat)(zs:List Int)(w:World)(hr:Ri w .i64 a cap zs)(hc:Qaq zs=false):
 Calls Tryz.prog 157 #[.slice a zs.length cap] w fun e w'=>e= .panicked Qd4∧Below w.heap.size w w':=by
 have HC:=hid (Xd3 a cap zs w hr hc)
 generalize zs.length=len at *
 clear hr hc
 go_enter Tryz.func157,Tryz.ntmps157
 go_wp2_with fail
 refine HC.out.mono ?_
 rintro _ w1 ⟨rfl,hb1⟩
 go_wp2_with fail
 refine(Qd8 w1).mono ?_
 rintro _ w2 ⟨rfl,rfl⟩
 exact⟨rfl,rfl,hb1⟩
theorem Qmi(a:Option Addr)(cap:Nat)(zs:List Int)(w:World)(hr:Ri w .i64 a cap zs)(hc:Qaq zs=true):
 Calls Tryz.prog 157 #[.slice a zs.length cap] w fun e w'=>∃v,e= .returned v∧Tm w.heap.size w' v (Qbw zs zs.length)∧Below w.heap.size w w':=by
 have HC:=hid (Qne a cap zs w hr hc)
 have HCB:=hid hc
 have hok:Qhl zs=true:=by unfold Qaq at hc;rw[Bool.and_eq_true] at hc;exact hc.1
 have hlen:=(Qb0 hok).1
 have HA:=hid (Qb0 hok).2
 have HR:=hid hr
 obtain⟨len,hl⟩:∃n,n=zs.length:=⟨_,rfl⟩
 have HL:=hid hl
 rw[<-hl] at hlen HC|-
 clear hr hc hok hl
 go_enter Tryz.func157,Tryz.ntmps157
 go_wp2_with fail
 refine HC.out.mono ?_
 rintro _ w0 ⟨cv,rfl,hown1,hb1⟩
 go_wp2_with fail
 refine(Qct w0).mono ?_
 rintro _ w1 ⟨rfl,rfl⟩
 have HO1:=hid hown1
 have HB1:=hid hb1
 have hw1:=hb1.size
 clear HC hown1 hb1
 go_wp2_with fail
 have HT0:Hid (Tm w1.heap.size (w1.alloc (.cells #[.int .i64 0,.int .i64 0] 238)) (.slice (some ⟨w1.heap.size,0,none⟩) 1 1) (Qbw zs 0)):=by
  unfold Tm
  exact⟨rfl,.inr ⟨w1.heap.size,1,_,rfl,Nat.le_refl _,Qag _ _,Nat.le_refl _,by unfold maxLen;omega,rfl,rfl⟩⟩
 have HB0:=hid (Qab w1 (.cells #[.int .i64 0,.int .i64 0] 238))
 go_loopw [5,6,7,20] (fun t _ _ i wr=>∃k:Nat,k<=len∧i= .int .i64 k∧Hid (Below w1.heap.size w1 wr)∧Hid (Tm w1.heap.size wr t (Qbw zs k))) (fun _ _ _ i _=>len-(intOf i).toNat)
 case atStart=>exact⟨0,by omega,rfl,HB0,HT0⟩
 case round=>
  obtain⟨k,hk,rfl,HB,HTM⟩:=hrel
  clear HT0 HB0
  by_cases hlt:k<len
  ·have hkl:(k:Int)<(len:Int):=by omega
   have HZ:Hid (k<zs.length):=by show _<_;rw[<-HL.out];exact hlt
   obtain⟨b,off,rfl,hbw,hc⟩:=(HR.out).cells (by rw[<-HL.out];omega)
   have ck:wr.cell? ⟨b,off+k,none⟩=some (.int .i64 (zs.getD k 0)):=((Bn HB1.out HB.out).cell (p:=⟨b,off+k,none⟩) hbw).trans (hc k HZ.out)
   have hrng:=HA.out _ (Qbt zs k HZ.out)
   clear hc
   by_cases hz:0<zs.getD k 0
   ·have hcl:=Qax zs
    have how:=Qa9 HO1.out HB.out
    rcases how.2 with ⟨_,h2⟩ | ⟨gc,capc,curc,hv,hgB,hgc,hnc,hcm,_,_⟩
    ·rw[hcl,<-HL.out] at h2;omega
    ·subst hv
     have hlc:k<((Qam zs).map (Value.int .u16)).length:=by rw[List.length_map,hcl];exact HZ.out
     obtain⟨n,hn⟩:∃n:Nat,zs.getD k 0=(n:Int):=⟨(zs.getD k 0).toNat,by omega⟩
     rw[hn] at hrng hz ck
     have hcd:Qds zs k<2^n:=Qko HCB.out k n HZ.out hn (by omega) (by omega)
     have h15:2^n<=2^15:=Nat.pow_le_pow_right (by decide) (by omega)
     have hcF:(Qam zs).getD k 0=(Qds zs k:Int):=by
      rw[Qer zs k HZ.out]
      unfold codeF
      rw[hn,if_pos hz,Nat.mod_eq_of_lt (by simp at h15;omega)]
     have cc:wr.cell? ⟨gc,k,none⟩=some (.int .u16 (Qds zs k:Int)):=by
      rw[how.cellAt k (by simpa using hlc),<-hcF]
      rw[List.length_map] at hlc
      simp[List.getD,List.getElem?_eq_getElem hlc]
     rw[hcl,<-HL.out]
     have hcl2:(Qam zs).length=len:=by rw[hcl,HL.out]
     obtain⟨P,hTv,hTl⟩:=Qo1 HCB.out k (by rw[<-HL.out];exact hk)
     have hap:=Qly (zs:=zs) k n HZ.out hn
     have HG:=hid (Qt3 w1 wr u5 (Qbw zs k) P (coS zs (k+1)) k (Qds zs k) n HTM.out HB.out (hTv.mono (fun x ⟨s,hs,hx⟩=>⟨s,by omega,hx⟩)) (by omega) (by omega) hcd (by omega) (by omega) hap)
     have HE:Hid (Qbw zs (k+1)=Qc0 k (Qds zs k) (n-1) 0 (Qbw zs k)):=by
      show _=_
      rw[Qbw,hn,if_pos hz,Int.toNat_natCast]
     clear how hlc hcd h15 hcF hcl hcl2 hTv hTl hap hn HTM HB
     go_wp2_with fail
     refine HG.out.mono ?_
     rintro _ w4 ⟨v4,rfl,hT4,hb4⟩
     have HT4:Hid (Tm w1.heap.size w4 v4 (Qbw zs (k+1))):=by show Tm _ _ _ _;rw[HE.out];exact hT4
     have HB4:=hid hb4
     clear hT4 hb4 HG HE
     go_wp2_with fail
     exact⟨⟨k+1,by omega,rfl,HB4,HT4⟩,by simp only[intOf];omega⟩
   ·have HE:Hid (Qbw zs (k+1)=Qbw zs k):=by
     show _=_
     rw[Qbw,if_neg hz]
    rw[<-HE.out] at HTM
    generalize zs.getD k 0=z at *
    go_wp2_with fail
    exact⟨⟨k+1,by omega,rfl,HB,HTM⟩,by simp only[intOf];omega⟩
  ·have:k=len:=by omega
   subst this
   go_wp2_with fail
   go_ret
   refine⟨_,rfl,?_,Bn HB1.out HB.out⟩
   have:=HTM.out
   unfold Tm at this|-
   rcases this.2 with h | ⟨g,cp,cur,h1,h2,h3⟩
   ·exact⟨this.1,.inl h⟩
   ·exact⟨this.1,.inr ⟨g,cp,cur,h1,Nat.le_trans hw1 h2,h3⟩⟩
def Qb4(s:Bst):Nat:=8*s.1.length+s.2.2
theorem Qgw{s s':Bst}{b:Nat}(h:Qpr s=some (b,s')):b<2∧Qb4 s'+1=Qb4 s:=by
 obtain⟨zs,l,n⟩:=s
 cases n with
 | zero=>
   cases zs with
   | nil=>simp[Qpr] at h
   | cons z zs=>
     simp only[Qpr,Option.some.injEq,Prod.mk.injEq] at h
     obtain⟨rfl,rfl⟩:=h
     refine⟨Nat.mod_lt _ (by decide),?_⟩
     simp only[Qb4,List.length_cons];omega
 | succ n=>
   simp only[Qpr,Option.some.injEq,Prod.mk.injEq] at h
   obtain⟨rfl,rfl⟩:=h
   exact⟨Nat.mod_lt _ (by decide),rfl⟩
def Qsk(T:Tr):Nat->Nat->Bst->Option (Int×Bst)
 | 0,_,_=>none
 | f+1,i,s=>match Qpr s with
   | none=>none
   | some (b,s')=>if ent T i b=0 then none else if ent T i b<0 then some (-ent T i b-1,s') else Qsk T f (ent T i b).toNat s'
def Xdw(T:Tr)(s:Bst):Option (Int×Bst):=Qsk T (Qb4 s+1) 0 s
theorem Ql2(T:Tr)(i b:Nat)(x:Int)(hb:b<2)(j d:Nat)(hd:d<2):ent (Qmo T i b x) j d=x∨ent (Qmo T i b x) j d=ent T j d:=by
 by_cases hi:i<T.length
 ·rw[Qee T i b x hi j d hb hd]
  split
  ·exact .inl rfl
  ·exact .inr rfl
 ·unfold Qmo
  rw[List.set_eq_of_length_le (by omega)]
  exact .inr rfl
theorem Xap(s c:Nat)(B:Int)(hB:B<= -(s:Int)-1):∀(m at_:Nat) (T:Tr),(∀i b,b<2->B<=ent T i b)->∀i b,b<2->B<=ent (Qc0 s c m at_ T) i b:=by
 intro m
 induction m with
 | zero=>
   intro at_ T h i b hb
   rw[Qc0]
   rcases Ql2 T at_ (c%2) (-(s:Int)-1) (Nat.mod_lt _ (by decide)) i b hb with e | e
   ·rw[e];exact hB
   ·rw[e];exact h i b hb
 | succ m ih=>
   intro at_ T h
   rw[Qc0]
   split
   ·refine ih _ _ (fun i b hb=>?_)
    rw[Qi6]
    rcases Ql2 T at_ (c/2^(m+1)%2) (T.length:Int) (Nat.mod_lt _ (by decide)) i b hb with e | e
    ·rw[e];omega
    ·rw[e];exact h i b hb
   ·exact ih _ _ h
theorem Qk6(zs:List Int):∀k n:Nat,k<=n->∀i b,b<2-> -(n:Int)<=ent (Qbw zs k) i b:=by
 intro k
 induction k with
 | zero=>
   intro n _ i b _
   have:ent (Qbw zs 0) i b=0:=by
    unfold Qbw ent
    cases i<;>simp
   rw[this];omega
 | succ k ih=>
   intro n hn i b hb
   rw[Qbw]
   split
   ·exact Xap k _ (-(n:Int)) (by omega) _ _ _ (ih n (by omega)) i b hb
   ·exact ih n (by omega) i b hb
theorem not_neg(s:Nat)(h:s<9223372036854775808):bits .xor .i64 (-1) (-(s:Int)-1)=(s:Int):=by
 have e:=i64_not s h
 show IntKind.i64.wrap ((BitVec.ofInt 64 (-1)^^^BitVec.ofInt 64 (-(s:Int)-1)).toNat:Int)=_
 have h1:BitVec.ofInt 64 (-1)=BitVec.allOnes 64:=by decide
 have h2:BitVec.ofInt 64 (-(s:Int)-1) = ~~~ (BitVec.ofInt 64 (s:Int)):=by
  apply BitVec.eq_of_toNat_eq
  rw[BitVec.toNat_not,ofInt_u64 s (by omega)]
  simp[BitVec.toNat_ofInt]
  omega
 rw[h1,BitVec.allOnes_xor,h2,BitVec.not_not,ofInt_u64 s (by omega)]
 simp[IntKind.wrap,IntKind.bits,IntKind.signed]
 omega
structure Th (g:Nat) (w:World) (v:Value) (T:Tr):Prop where
 ex:∃gt cap,v= .slice (some ⟨gt,0,none⟩) T.length cap∧gt≠g∧T.length<=cap∧∀i b,i<T.length->b<2->w.cell? ⟨gt,i*2+b,none⟩=some (.int .i64 (ent T i b))
theorem Fg.cell{g:Nat}{w w':World}(h:Fg g w w')(p:Addr)(hp:p.block≠g):w'.cell? p=w.cell? p:=World.cell?_of_block (h.same _ hp)
theorem Th.keep{g:Nat}{w w':World}{v:Value}{T:Tr}(h:Th g w v T)(hf:Fg g w w'):Th g w' v T:=by
 obtain⟨gt,cap,h1,h2,h3,h4⟩:=h.ex
 exact⟨gt,cap,h1,h2,h3,fun i b hi hb=>(hf.cell ⟨gt,i*2+b,none⟩ h2).trans (h4 i b hi hb)⟩
structure Tkk (T:Tr):Prop where
 pos:0<T.length
 low:∀i b,b<2-> -100000<=ent T i b
 up:∀i b,i<T.length->b<2->0<ent T i b->(ent T i b).toNat<T.length
theorem Qoq{zs:List Int}(hc:Qaq zs=true):Tkk (Qbw zs zs.length):=by
 have hok:Qhl zs=true:=by unfold Qaq at hc;rw[Bool.and_eq_true] at hc;exact hc.1
 have hlen:=(Qb0 hok).1
 obtain⟨P,h,_⟩:=Qo1 hc zs.length (Nat.le_refl _)
 refine⟨h.pos,fun i b hb=>?_,fun i b hi hb hx=>(h.up i b hi hb hx).1⟩
 have:=Qk6 zs zs.length zs.length (Nat.le_refl _) i b hb
 omega
def Xhk(g:Nat)(w:World):Nat:=
 match w.cell? ⟨g,0,none⟩,w.cell? ⟨g,2,none⟩ with
 | some (.slice _ l _),some (.int _ n)=>8*l+n.toNat
 | _,_=>0
theorem Rk.Xhk{w0 w:World}{g:Nat}{s:Bst}(h:Rk w0 w g s):Xhk g w=Qb4 s:=by
 obtain⟨_,_,a,cap,hR⟩:=h
 have c0:=Joins.cell_of_block hR.blk 0
 have c2:=Joins.cell_of_block hR.blk 2
 simp only[List.getElem?_toArray,List.getElem?_cons_zero,List.getElem?_cons_succ] at c0 c2
 unfold Go.Proofs.YtibjlbcnapoblaaGreatDoor.Xhk
 rw[c0,c2]
 simp[Qb4]
def Qu2(w0 w:World)(g:Nat)(r:Option (Int×Bst))(e:Ending)(w':World):Prop:=
 match r with
 | none=>e= .panicked Qd4∧Fg g w w'∧Below w0.heap.size w0 w'
 | some (x,s')=>e= .returned (.int .i64 x)∧Rk w0 w' g s'∧Fg g w w'
theorem Qr8(w0 w:World)(g:Nat)(s:Bst)(v:Value)(T:Tr)(h:Rk w0 w g s)(hT:Th g w v T)(hok:Tkk T):
 Calls Tryz.prog 171 #[.pointer (some ⟨g,0,none⟩),v] w (Qu2 w0 w g (Xdw T s)):=by
 obtain⟨gt,cap,rfl,hgt,hcap,hcl⟩:=hT.ex
 have HOK:=hid hok
 have HCL:=hid hcl
 obtain⟨R,hR⟩:∃R,R=Xdw T s:=⟨_,rfl⟩
 rw[<-hR]
 have HST:Hid (∃s':Bst,Rk w0 w g s'∧Fg g w w∧Qsk T (Qb4 s'+1) 0 s'=R):=⟨s,h,Fg.refl g w,by rw[hR];rfl⟩
 obtain⟨tl,htl⟩:∃n,n=T.length:=⟨_,rfl⟩
 have HTL:=hid htl
 have htp:0<tl:=by rw[htl];exact hok.pos
 rw[<-htl] at hcap|-
 clear h hT hok hcl hR htl
 go_enter Tryz.func171,Tryz.ntmps171
 go_wp2_with fail
 go_loopw [5] (fun x wr=>∃x':Int,x= .int .i64 x'∧Hid (∃s':Bst,Rk w0 wr g s'∧Fg g w wr∧((0<=x'∧x'.toNat<tl∧Qsk T (Qb4 s'+1) x'.toNat s'=R)∨(x'<0∧ -100000<=x'∧R=some (-x'-1,s'))))) (fun _ wr=>Xhk g wr)
 case atStart=>
  obtain⟨s',h1,h2,h3⟩:=HST.out
  exact⟨0,rfl,s',h1,h2,.inl ⟨Int.le_refl _,htp,h3⟩⟩
 case round=>
  clear HST
  obtain⟨x',rfl,HX⟩:=hrel
  obtain⟨s',hRb,hFg,hx⟩:=HX.out
  clear HX
  rcases hx with ⟨hx0,hxl,hsy⟩ | ⟨hx0,hx1,hRR⟩
  ·obtain⟨at_,rfl⟩:=Int.eq_ofNat_of_zero_le hx0
   rw[Int.toNat_natCast] at hxl hsy
   have hati:(at_:Int)<(tl:Int):=by omega
   have HBW:Hid (Calls Tryz.prog 172 #[.pointer (some ⟨g,0,none⟩)] wr.drew (Qh4 w0 wr.drew g s')):=by
    refine Qkq w0 wr.drew g s' ?_
    obtain⟨q1,q2,a,c,q3⟩:=hRb
    exact⟨q1,q2,a,c,q3.drew⟩
   have HML:=hid hRb.Xhk
   have HFG:=hid hFg.drew
   have hS0:∀b,b<2->wr.drew.cell? ⟨gt,at_*2+b,none⟩=some (.int .i64 (ent T at_ b)):=fun b hb=>(hFg.drew.cell ⟨gt,at_*2+b,none⟩ hgt).trans (HCL.out at_ b (by rw[<-HTL.out];exact hxl) hb)
   have HS0:=hid hS0
   have HBL:Hid (Below w0.heap.size w0 wr.drew):=by obtain⟨_,_,a,c,q3⟩:=hRb;exact q3.drew.bel
   have HSY:=hid hsy
   clear hRb hFg hS0 hsy hx0
   go_wp2_with fail
   refine wp_region_held_drew (S:=fun W=>∀b,b<2->W.cell? ⟨gt,at_*2+b,none⟩=some (.int .i64 (ent T at_ b))) (by kernel_rfl) HS0.out (fun hS=>?_)
   clear HS0
   have HWD:Hid (wr.drew=wr.drew):=rfl
   generalize hWD:wr.drew=wD at *
   clear hWD HWD
   refine Ord.tk (i:=0) (d:=8) (v:=?v0) rfl rfl ?h0 (by assumption) ?_
   case h0=>intro w hSw;go_simp;try with_reducible rfl
   simp only[Ord.s1,Ord.s2,Ord.s3]
   refine Ord.tk (i:=1) (d:=9) (v:=?v1) rfl rfl ?h1 (by assumption) ?_
   case h1=>intro w hSw;go_simp;try with_reducible rfl
   simp only[Ord.s1,Ord.s2,Ord.s3]
   refine Ord.tk (i:=2) (d:=10) (v:=?v2) rfl rfl ?h2 (by assumption) ?_
   case h2=>intro w hSw;go_simp;try with_reducible rfl
   simp only[Ord.s1,Ord.s2,Ord.s3]
   refine Ord.tk (i:=4) (d:=12) (v:=?v4) rfl rfl ?h4 (by assumption) ?_
   case h4=>intro w hSw;go_simp;try with_reducible rfl
   simp only[Ord.s1,Ord.s2,Ord.s3]
   refine wpAnyH_ready (rs:= [3]) (by as_aux_lemma=>kernel_rfl) (by simp) (AllReadyH.cons rfl (fun K hK=>?_) AllReadyH.nil)
   go_simp
   refine HBW.out.mono ?_
   intro e w1 he
   unfold Qh4 at he
   cases hb:Qpr s' with
   | none=>
     rw[hb] at he
     obtain⟨rfl,hw⟩:=he
     obtain rfl:=hw.symm
     have hRn:R=none:=by rw[<-HSY.out,Qsk,hb]
     subst hRn
     exact⟨rfl,rfl,HFG.out,HBL.out⟩
   | some bs=>
     obtain⟨b,s2⟩:=bs
     rw[hb] at he
     obtain⟨rfl,hR1,hF1⟩:=he
     obtain⟨hb2,hbl⟩:=Qgw hb
     have hbi:(b:Int)<2:=by omega
     have hS1:∀b,b<2->w1.cell? ⟨gt,at_*2+b,none⟩=some (.int .i64 (ent T at_ b)):=fun b hb=>(hF1.cell ⟨gt,at_*2+b,none⟩ hgt).trans (hS b hb)
     have hsy2:R=if ent T at_ b=0 then none else if ent T at_ b<0 then some (-ent T at_ b-1,s2) else Qsk T (Qb4 s') (ent T at_ b).toNat s2:=by rw[<-HSY.out,Qsk,hb]
     have HSY2:=hid hsy2
     have HR1:=hid hR1
     have HF1:=hid (HFG.out.trans hF1)
     have HM1:=hid hR1.Xhk
     have HBL2:=hid hbl
     refine hK.out _ _ hS1 (fun _=>?_)
     clear hK K hS hsy2 hR1 hF1 HSY hb hbl HBW
     refine Ord.tk (i:=5) (d:=13) (v:=?v5) rfl rfl ?h5 (by assumption) ?_
     case h5=>intro w hSw;go_simp;try with_reducible rfl
     simp only[Ord.s1,Ord.s2,Ord.s3]
     refine Ord.tk (i:=6) (d:=14) (v:= .int .i64 (ent T at_ b)) rfl rfl ?h6 (by assumption) ?_
     case h6=>intro w hSw;have e:=hSw b hb2;go_simp;try with_reducible rfl
     simp only[Ord.s1,Ord.s2,Ord.s3]
     refine Ord.tk (i:=7) (d:=5) (v:=?v7) rfl rfl ?h7 (by assumption) ?_
     case h7=>intro w hSw;go_simp;try with_reducible rfl
     simp only[Ord.s1,Ord.s2,Ord.s3]
     refine wpAnyH_done (by as_aux_lemma=>kernel_rfl) ?_ _
     have hlow:=HOK.out.low at_ b hb2
     have hup:=HOK.out.up at_ b (by rw[<-HTL.out];exact hxl) hb2
     rw[<-HTL.out] at hup
     by_cases he0:ent T at_ b=0
     ·rw[he0,if_pos rfl] at HSY2
      have hRn:=HSY2.out
      subst hRn
      rw[he0]
      clear hup hlow hS1
      go_wp2_with fail
      refine(Qd8 w1).mono ?_
      rintro _ w2 ⟨rfl,rfl⟩
      obtain⟨_,_,_,_,q3⟩:=HR1.out
      exact⟨rfl,rfl,HF1.out,q3.bel⟩
     ·rw[if_neg he0] at HSY2
      have HNX:Hid ((0<=ent T at_ b∧(ent T at_ b).toNat<tl∧Qsk T (Qb4 s2+1) (ent T at_ b).toNat s2=R)∨(ent T at_ b<0∧ -100000<=ent T at_ b∧R=some (-ent T at_ b-1,s2))):=by
       by_cases hn:ent T at_ b<0
       ·exact .inr ⟨hn,hlow,by rw[HSY2.out,if_pos hn]⟩
       ·exact .inl ⟨by omega,hup (by omega),by rw[HSY2.out,if_neg hn,HBL2.out]⟩
      clear hup hS1 HSY2 hlow
      generalize ent T at_ b=x2 at *
      have hbne:(x2 != 0)=true:=bne_iff_ne.2 he0
      go_wp2_with fail
      refine(Qct w1).mono ?_
      rintro _ w2 ⟨rfl,hw2⟩
      obtain rfl:=hw2.symm
      clear hw2
      go_wp2_with fail
      refine⟨⟨x2,rfl,s2,HR1.out,HF1.out,HNX.out⟩,?_⟩
      have h1:=HM1.out
      have h2:=HML.out
      have h3:=HBL2.out
      show Xhk g w1<Xhk g wr
      omega
  ·obtain⟨y,hy⟩:∃y:Nat,x'= -(y:Int)-1:=⟨(-x'-1).toNat,by omega⟩
   subst hy
   have hnn:=not_neg y (by omega)
   have HRR:=hid hRR
   have HQ:=hid hRb
   have HF:=hid hFg
   clear hRR hRb hFg
   go_wp2_with fail
   go_ret
   have hR:=HRR.out
   subst hR
   refine⟨?_,HQ.out,HF.out⟩
   rw[show -(-(y:Int)-1)-1=(y:Int) from by omega]
   rfl
end
section
open Go.RowKit Lz
def Qff(t:Tkz):Int:=if t.1=0 then t.2.2 else 252+t.2.1
theorem Qlx(t:Tkz)(w:World)(h:t.1=0∨(0<=t.2.1∧t.2.1<=258))(h8:0<=t.2.2∧t.2.2<=255):Calls Tryz.prog 129 #[.agg (zC t)] w fun e w'=>e= .returned (.int .i64 (Qff t))∧Below w.heap.size w w':=by
 obtain⟨d,n,x⟩:=t
 have hx0:=h8.1
 have hx1:=h8.2
 clear h8
 simp only at hx0 hx1
 unfold zC
 by_cases hl:d=0
 ·subst hl
  have HK:Hid (Qff (0,n,x)=x):=rfl
  go_enter Tryz.func129,Tryz.ntmps129
  go_wp2
  go_ret
  exact⟨by rw[HK.out];rfl,Qaa _ _⟩
 ·have HK:Hid (Qff (d,n,x)=252+n):=by show Qff (d,n,x)=252+n;unfold Qff;rw[if_neg hl]
  have hd:(d==0)=false:=by rw[beq_eq_false_iff_ne];exact hl
  have h1:0<=n∧n<=258:=by
   rcases h with h | h
   ·exact absurd h hl
   ·exact h
  have h2:=h1.1
  have h3:=h1.2
  clear h h1
  go_enter Tryz.func129,Tryz.ntmps129
  go_wp2
  go_ret
  exact⟨by rw[HK.out];rfl,Qaa _ _⟩
def blN(x:Nat):Int:=if x=0 then 0 else (Nat.log2 x:Int)+1
theorem Xii(x:Nat)(h:256<=x):blN x=8+blN (x/256):=by
 unfold blN
 rw[if_neg (by omega),if_neg (by omega)]
 have e:Nat.log2 x=Nat.log2 (x/256)+8:=by
  have h1:∀y,2<=y->Nat.log2 y=Nat.log2 (y/2)+1:=fun y hy=>by rw[Nat.log2_def,if_pos hy]
  rw[h1 x (by omega),h1 (x/2) (by omega),h1 (x/2/2) (by omega),h1 (x/2/2/2) (by omega),h1 (x/2/2/2/2) (by omega),h1 (x/2/2/2/2/2) (by omega),h1 (x/2/2/2/2/2/2) (by omega),h1 (x/2/2/2/2/2/2/2) (by omega)]
  rw[show x/2/2/2/2/2/2/2/2=x/256 from by omega]
 omega
theorem Xdf(x:Nat)(w:World)(h:x<256):Calls Tryz.prog 162 #[.int .u64 (x:Int)] w fun e w'=>e= .returned (.int .i64 (blN x))∧w'=w:=by
 have h1:¬(4294967296:Int)<=(x:Int):=by omega
 have h2:¬(65536:Int)<=(x:Int):=by omega
 have h3:¬(256:Int)<=(x:Int):=by omega
 go_enter Tryz.func162,Tryz.ntmps162
 go_wp2
 go_ret
 refine⟨congrArg (fun z=>Ending.returned (Value.int .i64 z)) ?_,rfl⟩
 clear h1 h2
 revert x
 decide +kernel
theorem Qye(z:Int)(y:Nat)(w:World)(h3:256<=z)(h:z<65536)(hy:z/256=(y:Int)):Calls Tryz.prog 162 #[.int .u64 z] w fun e w'=>e= .returned (.int .i64 (8+blN y))∧w'=w:=by
 have h1:¬(4294967296:Int)<=z:=by omega
 have h2:¬(65536:Int)<=z:=by omega
 have hy2:y<256:=by omega
 have hw:IntKind.u8.wrap (z/256)=(y:Int):=by rw[hy,IntKind.wrap_u8];omega
 clear h
 go_enter Tryz.func162,Tryz.ntmps162
 go_wp2
 go_ret
 refine⟨congrArg (fun z=>Ending.returned (Value.int .i64 z)) ?_,rfl⟩
 clear hw hy h1 h2 h3 z
 revert y
 decide +kernel
theorem Xgd(x:Nat)(w:World)(h:x<65536):Calls Tryz.prog 146 #[.int .u64 (x:Int)] w fun e w'=>e= .returned (.int .i64 (blN x))∧w'=w:=by
 have HC:Hid (Calls Tryz.prog 162 #[.int .u64 (x:Int)] w fun e w'=>e= .returned (.int .i64 (blN x))∧w'=w):=by
  by_cases c:x<256
  ·exact Xdf x w c
  ·have:=Qye (x:Int) (x/256) w (by omega) (by omega) (by omega)
   rw[<-Xii x (by omega)] at this
   exact this
 clear h
 generalize blN x=z at *
 go_enter Tryz.func146,Tryz.ntmps146
 go_wp2_with fail
 refine HC.out.mono ?_
 rintro _ w1 ⟨rfl,hw⟩
 obtain rfl:=hw.symm
 clear hw
 go_wp2
 go_ret
 exact⟨rfl,rfl⟩
def Qfy(d:Int):Int:=(Nat.log2 d.toNat:Int)
theorem Qgl{d:Int}(h1:1<=d)(h2:d<=4096):0<=Qfy d∧Qfy d<=12:=by
 unfold Qfy
 refine⟨by omega,?_⟩
 have:Nat.log2 d.toNat<13:=(Nat.log2_lt (by omega)).2 (by omega)
 omega
theorem Qid(d:Int)(w:World)(h1:1<=d)(h2:d<=4096):Calls Tryz.prog 130 #[.int .i64 d] w fun e w'=>e= .returned (.int .i64 (Qfy d))∧w'=w:=by
 obtain⟨x,rfl⟩:=Int.eq_ofNat_of_zero_le (show 0<=d by omega)
 have hr:=Qgl h1 h2
 have e:blN x=Qfy (x:Int)+1:=by unfold blN Qfy;rw[if_neg (by omega),Int.toNat_natCast]
 have HC:=hid (Xgd x w (by omega))
 rw[e] at HC
 generalize Qfy (x:Int)=z at *
 have hz0:=hr.1
 have hz1:=hr.2
 clear hr e
 go_enter Tryz.func130,Tryz.ntmps130
 go_wp2_with fail
 refine HC.out.mono ?_
 rintro _ w1 ⟨rfl,hw⟩
 obtain rfl:=hw.symm
 clear hw HC
 go_wp2
 go_ret
 refine⟨congrArg (fun z=>Ending.returned (Value.int .i64 z)) ?_,rfl⟩
 omega
end
section
open Go.RowKit Lz Hf
def upL(l:List Nat)(i:Nat):List Nat:=l.set i (l.getD i 0+1)
theorem Qns(l:List Nat)(i:Nat):(upL l i).length=l.length:=by simp[upL]
theorem Xgu(l:List Nat)(i k:Nat)(h:∀j,l.getD j 0<=k)(j:Nat):(upL l i).getD j 0<=k+1:=by
 unfold upL
 have h1:=h j
 have h2:=h i
 simp only[List.getD,List.getElem?_set] at h1 h2|-
 split
 ·split
  ·simp only[Option.getD_some];omega
  ·simp
 ·omega
def Qau(l:List Tkz):Nat->List Nat
 | 0=>List.replicate 511 0
 | k+1=>upL (Qau l k) (Qff (l.getD k tk0)).toNat
def Qar(l:List Tkz):Nat->List Nat
 | 0=>List.replicate 13 0
 | k+1=>if 0<(l.getD k tk0).1 then upL (Qar l k) (Qfy (l.getD k tk0).1).toNat else Qar l k
theorem Qa7(l:List Tkz):∀k,(Qau l k).length=511
 | 0=>by rw[Qau,List.length_replicate]
 | k+1=>by rw[Qau,Qns,Qa7 l k]
theorem Qa2(l:List Tkz):∀k,(Qar l k).length=13
 | 0=>by rw[Qar,List.length_replicate]
 | k+1=>by
   rw[Qar]
   split
   ·rw[Qns,Qa2 l k]
   ·exact Qa2 l k
theorem Qu3(n j:Nat):(List.replicate n (0:Nat)).getD j 0=0:=by
 simp only[List.getD,List.getElem?_replicate]
 split<;>simp
theorem Qe6(l:List Tkz):∀k j,(Qau l k).getD j 0<=k
 | 0,j=>by rw[Qau,Qu3];omega
 | k+1,j=>Xgu _ _ _ (Qe6 l k) j
theorem Qec(l:List Tkz):∀k j,(Qar l k).getD j 0<=k
 | 0,j=>by rw[Qar,Qu3];omega
 | k+1,j=>by
   rw[Qar]
   split
   ·exact Xgu _ _ _ (Qec l k) j
   ·have:=Qec l k j;omega
theorem Tryz.zero152:∀w,(zeroValue 152).run Tryz.prog w= .ok (.agg (arr .i64 (List.replicate 511 0))) w:=(zero_of_info (t:=152) (n:=511) (by kernel_rfl)).1
theorem Tryz.size152:(Tryz.prog.info? 152).map (·.size)=some 511:=by kernel_rfl
theorem Tryz.zero153:∀w,(zeroValue 153).run Tryz.prog w= .ok (.agg (arr .i64 (List.replicate 13 0))) w:=(zero_of_info (t:=153) (n:=13) (by kernel_rfl)).1
theorem Tryz.size153:(Tryz.prog.info? 153).map (·.size)=some 13:=by kernel_rfl
structure Qmu (w wr:World) (K D:List Nat):Prop where
 ks:wr.heap[w.heap.size]?=some (.cells (arr .i64 K) 152 (0,0))
 ds:wr.heap[w.heap.size+1]?=some (.cells (arr .i64 D) 153 (0,0))
 bel:Below w.heap.size w wr
theorem Qmu.later{w wr w':World}{K D:List Nat}(h:Qmu w wr K D)(hb:Below wr.heap.size wr w'):Qmu w w' K D:=by
 have hlt:∀ {g:Nat} {o:Obj},wr.heap[g]?=some o->g<wr.heap.size:=fun {g o} e=>by
  by_cases c:g<wr.heap.size
  ·exact c
  ·rw[Array.getElem?_eq_none (by omega)] at e;cases e
 exact⟨(hb.block _ (hlt h.ks)).trans h.ks,(hb.block _ (hlt h.ds)).trans h.ds,Bn h.bel hb⟩
theorem Qmu.putK{w wr:World}{K D:List Nat}(h:Qmu w wr K D)(i v:Nat):Qmu w (wr.setCell ⟨w.heap.size,i,none⟩ (.int .i64 (v:Int))) (K.set i v) D:=by
 refine⟨?_,?_,h.bel.setCell (Nat.le_refl _) _⟩
 ·rw[Joins.block_setCell h.ks,Qdf]
 ·rw[Qac h.ks (by omega)];exact h.ds
theorem Qmu.putD{w wr:World}{K D:List Nat}(h:Qmu w wr K D)(i v:Nat):Qmu w (wr.setCell ⟨w.heap.size+1,i,none⟩ (.int .i64 (v:Int))) K (D.set i v):=by
 refine⟨?_,?_,h.bel.setCell (by simp) _⟩
 ·rw[Qac h.ds (by omega)];exact h.ks
 ·rw[Joins.block_setCell h.ds,Qdf]
theorem Qmu.drew{w wr:World}{K D:List Nat}(h:Qmu w wr K D):Qmu w wr.drew K D:=⟨h.ks,h.ds,h.bel.drew⟩
theorem Qf5{P:Program}{ρ:Operand->Value}{o:Oper}{t:TypeId}{x:Operand}{p v:Value}{w:World}(ho:o.op= .load t x)(hx:ρ x=p)(h:(Instr.loadAt t p).run P w= .ok v w):(execOp ρ o).run P w= .ok (.value v) w:=by
 unfold execOp
 rw[ho]
 simp[hx,h,Result.andThen]
theorem Qdv{P:Program}(w:World)(g:Nat)(t ty:TypeId)(cs:Array Value)(fr:Nat×Nat)(d:TypeDesc)(hg:w.heap[g]?=some (.cells cs t fr))(hu:P.underlying ty=some d)(hd:(match d with | .struct _ | .array _ _=>true | _=>false)=true)(hi:(P.info? ty).map (·.size)=some cs.size):
 (Instr.loadAt ty (.pointer (some ⟨g,0,none⟩))).run P w= .ok (.agg cs) w:=by
 simp[Instr.loadAt,Instr.sureAddr,run_loadVar_row w g t ty cs fr d hg hu hd hi]
theorem Qj3{P:Program}{fn:Func}{p q:Tmp}{ty ty2:TypeId}(h:fn.results= #[.cell p ty,.cell q ty2])(tmps:Array Value)(w:World)(g g2:Nat)(v v2:Value)(hp:tmps.getD p undef= .pointer (some ⟨g,0,none⟩))(hq:tmps.getD q undef= .pointer (some ⟨g2,0,none⟩))
 (hl:(loadVar ty ⟨g,0,none⟩).run P w= .ok v w) (hl2:(loadVar ty2 ⟨g2,0,none⟩).run P w= .ok v2 w):(results fn tmps).run P w= .ok (.tuple #[v,v2]) w:=by
 have hp':tmps[p]?.getD undef= .pointer (some ⟨g,0,none⟩):=by simpa using hp
 have hq':tmps[q]?.getD undef= .pointer (some ⟨g2,0,none⟩):=by simpa using hq
 simp[results,h,hp',hq',asAddr,hl,hl2]
theorem Qmu.same1{w wr:World}{K D:List Nat}(h:Qmu w wr K D):Qmu w (wr.setRow w.heap.size (arr .i64 K)) K D:=
 ⟨setRow_heap _ _ _ _ _ _ h.ks,(setRow_other _ _ _ _ (by omega)).trans h.ds,below_setRow h.bel (Nat.le_refl _) _⟩
theorem Qmu.same2{w wr:World}{K D:List Nat}(h:Qmu w wr K D):Qmu w (wr.setRow (w.heap.size+1) (arr .i64 D)) K D:=
 ⟨(setRow_other _ _ _ _ (by omega)).trans h.ks,setRow_heap _ _ _ _ _ _ h.ds,below_setRow h.bel (by omega) _⟩
theorem Qf9{t:Tkz}(h:Qew t=0)(h8:0<=t.2.2∧t.2.2<=255):(t.1=0∧0<=Qff t∧Qff t<511)∨(1<=t.1∧t.1<=4096∧0<=t.2.1∧t.2.1<=258∧0<=Qff t∧Qff t<511):=by
 have hk:Qc5 t≠0:=fun e=>by unfold Qew at h;rw[if_pos e] at h;omega
 have hf:=Qkh t
 unfold Qff
 rcases Qhj t with k | k | k
 ·exact absurd k hk
 ·have:=hf.1 k
  left;rw[if_pos (by omega)];omega
 ·have:=hf.2 k
  right;rw[if_neg (by omega)];omega
theorem Qth(a:Option Addr)(cap:Nat)(l:List Tkz)(w:World)(hr:Rt w a cap l)(hn:l.length<=100000)(hall:∀j,j<l.length->Qew (l.getD j tk0)=0):
 Calls Tryz.prog 101 #[.slice a l.length cap] w fun e w'=>e= .returned (.tuple #[.agg (arr .i64 (Qau l l.length)),.agg (arr .i64 (Qar l l.length))])∧Below w.heap.size w w':=by
 have hroom:=hr.room
 have hmost:=hr.most
 unfold maxLen at hmost
 have HR:=hid hr
 have HALL:=hid hall
 obtain⟨len,hle⟩:∃n,n=l.length:=⟨_,rfl⟩
 have HL:=hid hle
 rw[<-hle] at hn hroom|-
 have b1:=Qab w (.cells (arr .i64 (List.replicate 511 0)) 152)
 have s1:(w.alloc (.cells (arr .i64 (List.replicate 511 0)) 152)).heap.size=w.heap.size+1:=by simp
 have e1:=Qag w (.cells (arr .i64 (List.replicate 511 0)) 152)
 have b2:=Qab (w.alloc (.cells (arr .i64 (List.replicate 511 0)) 152)) (.cells (arr .i64 (List.replicate 13 0)) 153)
 have e2:=Qag (w.alloc (.cells (arr .i64 (List.replicate 511 0)) 152)) (.cells (arr .i64 (List.replicate 13 0)) 153)
 rw[s1] at e2
 have HM:Hid (Qmu w ((w.alloc (.cells (arr .i64 (List.replicate 511 0)) 152)).alloc (.cells (arr .i64 (List.replicate 13 0)) 153)) (Qau l 0) (Qar l 0)):=⟨(b2.block _ (by omega)).trans e1,e2,Bn b1 b2⟩
 clear hr hle hall b1 s1 e1 b2 e2
 have HZ43:=hid Tryz.zero152
 have HZ44:=hid Tryz.zero153
 generalize List.replicate 511 0=Z1 at *
 generalize List.replicate 13 0=Z2 at *
 go_enter Tryz.func101,Tryz.ntmps101
 go_wp2_with (first
  | (refine Qad rfl 152 rfl (some 2) rfl (arr .i64 Z1) HZ43.out (w.heap.size) rfl ?_)
  | (refine Qad rfl 153 rfl (some 3) rfl (arr .i64 Z2) HZ44.out (w.heap.size+1) (by simp) ?_))
 generalize (w.alloc (.cells (arr .i64 Z1) 152)).alloc (.cells (arr .i64 Z2) 153)=w3 at *
 clear HZ43 HZ44
 go_loopw [8] (fun x wr=>∃k:Nat,k<=len∧x= .int .i64 (k:Int)∧Hid (Qmu w wr (Qau l k) (Qar l k))) (fun x _=>len-(intOf x).toNat)
 case atStart=>exact⟨0,by omega,rfl,HM.out⟩
 case round=>
  obtain⟨k,hk,rfl,HMK⟩:=hrel
  clear HM
  by_cases hlt:k<len
  ·have hkz:(k:Int)<(len:Int):=by omega
   have hbel:=HMK.out.bel
   obtain⟨b,off,rfl,hbw,hc⟩:=HR.out.cells (by rw[<-HL.out];omega)
   obtain⟨c0,c1,c2⟩:=hc k (by rw[<-HL.out];exact hlt)
   have d0:=(hbel.cell (p:=⟨b,off+k*3,none⟩) hbw).trans c0
   have d1:=(hbel.cell (p:=⟨b,off+k*3+1,none⟩) hbw).trans c1
   have d2:=(hbel.cell (p:=⟨b,off+k*3+2,none⟩) hbw).trans c2
   have h8:=wf_u8 (HR.out.fits k (by rw[<-HL.out];exact hlt)).2.2
   have htwo:=Qf9 (HALL.out k (by rw[<-HL.out];exact hlt)) h8
   have HKN:Hid (Qau l (k+1)=upL (Qau l k) (Qff (l.getD k tk0)).toNat):=rfl
   have HDN:Hid (Qar l (k+1)=if 0<(l.getD k tk0).1 then upL (Qar l k) (Qfy (l.getD k tk0).1).toNat else Qar l k):=rfl
   have HKL:=hid (Qa7 l k)
   have HDL:=hid (Qa2 l k)
   have HKE:=hid (Qe6 l k)
   have HDE:=hid (Qec l k)
   have HCK:=hid (Qlx (l.getD k tk0) (wr.alloc (.cells (zC (l.getD k tk0)) 109)) (by rcases htwo with h | h;exact Or.inl h.1;exact Or.inr ⟨h.2.2.1,h.2.2.2.1⟩) h8)
   generalize Qau l k=KK at *
   generalize Qar l k=DD at *
   obtain⟨KK1,hk1⟩:∃x,x=Qau l (k+1):=⟨_,rfl⟩
   obtain⟨DD1,hd1⟩:∃x,x=Qar l (k+1):=⟨_,rfl⟩
   rw[<-hk1] at HKN
   rw[<-hd1] at HDN
   have HK1:=hid hk1
   have HDD1:=hid hd1
   clear hk1 hd1
   clear hc c0 c1 c2 h8
   generalize l.getD k tk0=t at *
   have hsr:0<=Qff t∧Qff t<511:=by rcases htwo with h | h;exact h.2;exact h.2.2.2.2
   obtain⟨s,hs⟩:=Int.eq_ofNat_of_zero_le hsr.1
   rw[hs] at HCK HKN
   rw[Int.toNat_natCast] at HKN
   have hs511:(s:Int)<511:=by omega
   have hd:t.1=0∨(1<=t.1∧t.1<=4096):=by rcases htwo with h | h;exact Or.inl h.1;exact Or.inr ⟨h.1,h.2.1⟩
   clear htwo hs hsr
   obtain⟨d,n,x⟩:=t
   unfold zC at HCK
   dsimp only at *
   have hB1:=Qab wr (.cells #[.int .i64 d,.int .i64 n,.int .u8 x] 109)
   have e0:(wr.alloc (.cells #[.int .i64 d,.int .i64 n,.int .u8 x] 109)).heap[wr.heap.size]?=some (.cells #[.int .i64 d,.int .i64 n,.int .u8 x] 109 (0,0)):=Qag _ _
   have HE0:=hid e0
   have HM1:=hid (HMK.out.later hB1)
   have HSZ:=hid (show w.heap.size+1<wr.heap.size from by
    by_cases c:w.heap.size+1<wr.heap.size
    ·exact c
    ·have:=HMK.out.ds;rw[Array.getElem?_eq_none (by omega)] at this;cases this)
   clear hB1 e0 hbel HMK
   go_wp2_with fail
   refine HCK.out.mono ?_
   rintro _ w2 ⟨rfl,hb2⟩
   have e2:=(hb2.block wr.heap.size (by simp)).trans HE0.out
   have HE2:=hid e2
   have HM2:=hid (HM1.out.later hb2)
   clear hb2 HCK HE0 HM1 e2
   have ck:=(Joins.cell_of_block HM2.out.ks s).trans (Qas .i64 _ s (by rw[HKL.out];omega))
   have fk:=Joins.unfrozen_of_block HM2.out.ks s
   have hv:=HKE.out s
   have HM3:=hid (HM2.out.putK s (KK.getD s 0+1))
   have HE3:Hid ((w2.setCell ⟨w.heap.size,s,none⟩ (.int .i64 ((KK.getD s 0+1:Nat):Int))).heap[wr.heap.size]?=some (.cells #[.int .i64 d,.int .i64 n,.int .u8 x] 109 (0,0))):=by
    show _=_
    rw[Qac HM2.out.ks (by have:=HSZ.out;omega)];exact HE2.out
   have hup:KK.set s (KK.getD s 0+1)=KK1:=by rw[HKN.out];rfl
   rw[hup] at HM3
   clear hup
   generalize KK.getD s 0=v at *
   have hv1:((v+1:Nat):Int)=(v:Int)+1:=by omega
   rw[hv1] at HM3 HE3
   clear hv1 HM2 HE2
   have m0:=Joins.cell_of_block HE3.out 0
   simp only[List.getElem?_toArray,List.getElem?_cons_zero] at m0
   rcases hd with hd | hd
   ·subst hd
    have HD1:Hid (DD1=DD):=by show _=_;rw[HDN.out,if_neg (by omega)]
    rw[<-HD1.out] at HM3
    clear HD1 HDN HDE HDL HE3
    go_wp2
    exact⟨⟨k+1,by omega,by go_num,by rw[<-HK1.out,<-HDD1.out];exact HM3.out⟩,by simp[intOf];omega⟩
   ·obtain⟨hd1,hd2⟩:=hd
    have hdr:=Qgl hd1 hd2
    obtain⟨q,hq⟩:=Int.eq_ofNat_of_zero_le hdr.1
    have hq13:(q:Int)<13:=by omega
    have hpos:0<d:=by omega
    have HDW:=hid (Qid d (w2.setCell ⟨w.heap.size,s,none⟩ (.int .i64 ((v:Int)+1))) hd1 hd2)
    rw[hq] at HDW
    have HDN2:Hid (DD1=upL DD q):=by show _=_;rw[HDN.out,if_pos hpos,hq];rfl
    clear HDN hdr hq HE3
    go_wp2_with fail
    go_at_call 130
    refine HDW.out.mono ?_
    rintro _ w4 ⟨rfl,hw⟩
    obtain rfl:=hw.symm
    clear hw HDW m0 ck fk
    generalize w2.setCell ⟨w.heap.size,s,none⟩ (.int .i64 ((v:Int)+1))=W3 at *
    have cd:=(Joins.cell_of_block HM3.out.ds q).trans (Qas .i64 _ q (by rw[HDL.out];omega))
    have fd:=Joins.unfrozen_of_block HM3.out.ds q
    have hu:=HDE.out q
    have HM4:=hid (HM3.out.putD q (DD.getD q 0+1))
    have hup:DD.set q (DD.getD q 0+1)=DD1:=by rw[HDN2.out];rfl
    rw[hup] at HM4
    clear hup HDN2 HM3
    generalize DD.getD q 0=u at *
    have hu1:((u+1:Nat):Int)=(u:Int)+1:=by omega
    rw[hu1] at HM4
    clear hu1
    go_wp2
    exact⟨⟨k+1,by omega,by go_num,by rw[<-HK1.out,<-HDD1.out];exact HM4.out⟩,by simp[intOf];omega⟩
  ·obtain rfl:k=len:=by omega
   have HK2:=hid (Qa7 l k)
   have HD2:=hid (Qa2 l k)
   obtain⟨KK,hKK⟩:∃x,x=Qau l k:=⟨_,rfl⟩
   obtain⟨DD,hDD⟩:∃x,x=Qar l k:=⟨_,rfl⟩
   have HKK:=hid hKK
   have HDD:=hid hDD
   rw[<-hKK] at HK2 HMK
   rw[<-hDD] at HD2 HMK
   clear hKK hDD
   have hzk:(Tryz.prog.info? 152).map (·.size)=some (arr .i64 KK).size:=by rw[Qav,HK2.out];exact Tryz.size152
   have hzd:(Tryz.prog.info? 153).map (·.size)=some (arr .i64 DD).size:=by rw[Qav,HD2.out];exact Tryz.size153
   clear HR HALL HL
   go_wp2_with fail
   refine wp_region_held_drew (S:=fun W=>Qmu w W KK DD) (by kernel_rfl) HMK.out.drew (fun hS=>?_)
   generalize wr.drew=wD at *
   clear HMK
   refine Ord.tk (i:=0) (d:=29) (v:= .agg (arr .i64 KK)) rfl rfl ?h0 hS ?_
   case h0=>intro W hW;exact Qf5 rfl rfl (Qdv W _ 152 152 _ _ _ hW.ks Tryz.underlying152 rfl hzk)
   simp only[Ord.s1,Ord.s2,Ord.s3]
   refine Ord.tk (i:=1) (d:=30) (v:= .agg (arr .i64 DD)) rfl rfl ?h1 hS ?_
   case h1=>intro W hW;exact Qf5 rfl rfl (Qdv W _ 153 153 _ _ _ hW.ds Tryz.underlying153 rfl hzd)
   simp only[Ord.s1,Ord.s2,Ord.s3]
   refine wpAnyH_ready (rs:= [2]) (by as_aux_lemma=>kernel_rfl) (by simp) (AllReadyH.cons rfl (fun K hK=>?_) AllReadyH.nil)
   rw[if_pos (by rfl)]
   refine wp_store_row 152 _ _ rfl w.heap.size (arr .i64 KK) rfl rfl 152 _ hS.ks hzk rfl (Qbe _ _) ?_
   refine hK.out _ _ hS.same1 (fun hS2=>?_)
   clear hK K
   generalize wD.setRow w.heap.size (arr .i64 KK)=W2 at *
   refine wpAnyH_ready (rs:= [3]) (by as_aux_lemma=>kernel_rfl) (by simp) (AllReadyH.cons rfl (fun K hK=>?_) AllReadyH.nil)
   rw[if_pos (by rfl)]
   refine wp_store_row 153 _ _ rfl (w.heap.size+1) (arr .i64 DD) rfl rfl 153 _ hS2.ds hzd rfl (Qbe _ _) ?_
   refine hK.out _ _ hS2.same2 (fun hS3=>?_)
   clear hK K
   generalize W2.setRow (w.heap.size+1) (arr .i64 DD)=W3 at *
   have HS3:=hid hS3
   clear hS3 hS2 hS
   refine wpAnyH_done (by as_aux_lemma=>kernel_rfl) ?_ _
   go_wp2
   refine bodyPost_ret (Qj3 (p:=2) (q:=3) (ty:=152) (ty2:=153) rfl _ _ w.heap.size (w.heap.size+1) (.agg (arr .i64 KK)) (.agg (arr .i64 DD)) rfl rfl (run_loadVar_row _ _ 152 152 _ _ _ HS3.out.ks Tryz.underlying152 rfl hzk) (run_loadVar_row _ _ 153 153 _ _ _ HS3.out.ds Tryz.underlying153 rfl hzd)) rfl ?_
   exact⟨by rw[HKK.out,HDD.out],HS3.out.bel⟩
end
end Go.Proofs.YtibjlbcnapoblaaGreatDoor
