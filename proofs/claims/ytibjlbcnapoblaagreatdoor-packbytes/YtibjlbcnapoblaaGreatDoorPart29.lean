/- Contracts and facts. -/
import Derived.Test.YtibjlbcnapoblaaGreatDoorPart28
namespace Go.Proofs.YtibjlbcnapoblaaGreatDoor
set_option maxRecDepth 100000
set_option maxHeartbeats 6400000
section
open Go.RowKit
def Qhn(bs:List Int):List Int:=
 Qif bs.length (Qb6 bs).length (Qf4 bs)++Sh.Wd.leL 4 (Qoy (Qif bs.length (Qb6 bs).length (Qf4 bs)++Qb6 bs))++Qb6 bs++List.replicate (512*Qdu (Qb6 bs).length-44-(Qb6 bs).length) 0
theorem Qnc{l m:List Int}(h1:∀j,(Lit.int .u8 (l.getD j 0)).wf=true)(h2:∀j,(Lit.int .u8 (m.getD j 0)).wf=true):∀j,(Lit.int .u8 ((l++m).getD j 0)).wf=true:=fun j=>by
 by_cases h:j<l.length
 ·have:=h1 j
  rw[List.getD_eq_getElem?_getD,List.getElem?_append_left h,<-List.getD_eq_getElem?_getD];exact this
 ·rw[List.getD_eq_getElem?_getD,List.getElem?_append_right (by omega),<-List.getD_eq_getElem?_getD];exact h2 _
theorem Xb5(n:Nat)(x:Int)(j:Nat):(Lit.int .u8 ((Sh.Wd.leL n x).getD j 0)).wf=true:=by
 have:=Sh.Wd.Qjn n 2 x j
 rw[show Sh.Wd.Qep n 2 x=Sh.Wd.leL n x from rfl] at this
 exact Qa8 this.1 this.2
theorem Qub(n k:Nat)(d:List Int)(h:∀j,(Lit.int .u8 (d.getD j 0)).wf=true):∀j,(Lit.int .u8 ((Qif n k d).getD j 0)).wf=true:=by
 refine Qnc (Qnc (Qnc (fun j=>?_) (Xb5 2 _)) (Xb5 2 _)) h
 match j with
 | 0=>rfl
 | 1=>rfl
 | 2=>rfl
 | 3=>rfl
 | j+4=>simp;exact Qb8 _
def isC(n:Nat):Bool:=decide (1<=n∧n<=4096)
def Qtw(bs:List Int)(w:World)(e:Ending)(w':World):Prop:=
 Below w.heap.size w w'∧((isC bs.length=false∧e= .returned (.tuple #[.slice none 0 0,.int .i64 113]))∨(isC bs.length=true∧∃a c,e= .returned (.tuple #[.slice a (Qb6 bs).length c,.int .i64 0])∧Ri w' .u8 a c (Qb6 bs)))
theorem Qwa(a:Option Addr)(cap:Nat)(bs:List Int)(w:World)(hn:bs.length<=1000000)(hE:bs.length<=4096->Calls Tryz.prog 43 #[.slice a bs.length cap] w (Qgb bs w)):Calls Tryz.prog 23 #[.slice a bs.length cap] w (Qtw bs w):=by
 have HC:=hid (Qd3 bs.length w (by omega))
 change Hid (Calls Tryz.prog 42 _ w fun e w'=>e= .returned (.bool (isC bs.length))∧w'=w) at HC
 cases hq:isC bs.length with
 | false=>
   rw[hq] at HC
   have HQ:=hid hq
   obtain⟨L,hLe⟩:∃L,L=bs.length:=⟨_,rfl⟩
   rw[<-hLe] at HC|-
   clear hq hLe
   go_enter Tryz.func23,Tryz.ntmps23
   go_wp2_with fail
   refine HC.out.mono ?_
   rintro _ w1 ⟨rfl,hw⟩
   obtain rfl:=hw.symm
   clear hw
   go_wp2_with fail
   go_ret2
   exact⟨Below.refl _ _,.inl ⟨HQ.out,rfl⟩⟩
 | true=>
   have hb:bs.length<=4096:=(of_decide_eq_true hq).2
   have HEN:=hid (hE hb)
   unfold Qgb at HEN
   rw[hq] at HC
   have HQ:=hid hq
   obtain⟨L,hLe⟩:∃L,L=bs.length:=⟨_,rfl⟩
   rw[<-hLe] at HC HEN|-
   obtain⟨E,hE⟩:∃E,E=Qb6 bs:=⟨_,rfl⟩
   rw[<-hE] at HEN
   have HE:=hid hE
   clear hq hb hLe hE
   go_enter Tryz.func23,Tryz.ntmps23
   go_wp2_with fail
   refine HC.out.mono ?_
   rintro _ w1 ⟨rfl,hw⟩
   obtain rfl:=hw.symm
   clear hw
   go_wp2_with fail
   refine HEN.out.mono ?_
   rintro _ w1 ⟨hb,a1,c1,rfl,h1⟩
   have HB:=hid hb
   have H1:=hid h1
   obtain⟨l,hl⟩:∃l,l=E.length:=⟨_,rfl⟩
   have HL:=hid hl
   rw[<-hl]
   clear hb h1 hl
   go_wp2_with fail
   go_ret2
   exact⟨HB.out,.inr ⟨HQ.out,a1,c1,by rw[<-HE.out,<-HL.out];rfl,by rw[<-HE.out];exact H1.out⟩⟩
theorem Xdl(w:World):Calls Tryz.prog 14 #[] w fun e w'=>e= .returned (.slice (some ⟨w.heap.size,0,none⟩) 512 512)∧w'=w.alloc (.cells (madeCells #[.int .u8 0] 512) 5):=by
 have hm:(Instr.makeSlice 22 (.int .i64 512) (.int .i64 512)).run Tryz.prog w= .ok (.slice (some ⟨w.heap.size,0,none⟩) 512 512) (w.alloc (.cells (madeCells #[.int .u8 0] 512) 5)):=Qwh 512 (by omega) w
 generalize madeCells #[.int .u8 0] 512=M at *
 go_enter Tryz.func14,Tryz.ntmps14
 go_wp2
 go_ret
 exact⟨rfl,rfl⟩
theorem Qn9{P:Program}{ops:Array Oper}{rest:List Oper}{o:Oper}{a:Act}{w:World}{Q:Exit->Act->World->Prop}(hg:o.guard=none)(t:TypeId)(x0 x1 x2:Operand)(ho:o.op= .build t #[(0,x0),(1,x1),(2,x2)])
 (v0 v1 v2 v:Value) (h0:a.eval x0=v0) (h1:a.eval x1=v1) (h2:a.eval x2=v2) (hr:(Instr.build t #[(0,v0),(1,v1),(2,v2)]).run P w= .ok v w) (h:wpList P ops Q rest (a.put o.dst v) w):wpList P ops Q (o::rest) a w:=
 wpList_plain hg fun K hK=>by
  unfold Oper.wp execOp
  simp only[ho,List.map_toArray,List.map_cons,List.map_nil,h0,h1,h2,Sem.run_bind,hr,Result.andThen_ok]
  exact hK _ _ h
theorem Xfv(n k:Int):∀(d:List Int),d.length=32->Tryz.prog.built 53 [(0,.int .i64 n),(1,.int .i64 k),(2,.agg (u8A d))]=some (hdL n k d).toArray
 | [d0,d1,d2,d3,d4,d5,d6,d7,d8,d9,d10,d11,d12,d13,d14,d15,d16,d17,d18,d19,d20,d21,d22,d23,d24,d25,d26,d27,d28,d29,d30,d31],_=>by kernel_rfl
def hdZ:Array Value:=(hdL 0 0 z32).toArray
theorem Tryz.zero53:∀w,(zeroValue 53).run Tryz.prog w= .ok (.agg hdZ) w:=fun w=>by kernel_rfl
theorem Qku{n:Nat}(h:isC n=true):1<=n∧n<=4096:=of_decide_eq_true h
def Qmw(bs:List Int)(w:World)(e:Ending)(w':World):Prop:=
 Below w.heap.size w w'∧((isC bs.length=false∧e= .returned (.tuple #[.slice none 0 0,.int .i64 113]))∨(isC bs.length=true∧∃v,e= .returned (.tuple #[v,.int .i64 0])∧w'.ownsRow w.heap.size 5 1 v (Qhn bs).length ((Qhn bs).map (Value.int .u8))))
theorem Qv4(a:Option Addr)(cap:Nat)(bs:List Int)(w:World)(hr:Ri w .u8 a cap bs)(hn:bs.length<=1000000)(hL:Sh.Laid w)(hE:bs.length<=4096->Calls Tryz.prog 43 #[.slice a bs.length cap] w (Qgb bs w)):Calls Tryz.prog 10 #[.slice a bs.length cap] w (Qmw bs w):=by
 have HC:=hid (Qwa a cap bs w hn hE)
 clear hE
 unfold Qtw at HC
 have HR:=hid hr
 have HLd:=hid hL
 cases hq:isC bs.length with
 | false=>
   rw[hq] at HC
   have HQ:=hid hq
   obtain⟨L,hLe⟩:∃L,L=bs.length:=⟨_,rfl⟩
   rw[<-hLe] at hn HC|-
   clear hr hq hL hLe
   go_enter Tryz.func10,Tryz.ntmps10
   go_wp2_with fail
   refine HC.out.mono ?_
   rintro _ w1 ⟨hb,⟨_,rfl⟩ | ⟨h,_⟩⟩
   ·have HB:=hid hb
    clear hb HC
    go_wp2_with fail
    go_ret2
    exact⟨HB.out,.inl ⟨HQ.out,rfl⟩⟩
   ·cases h
 | true=>
   have hrg:=Qku hq
   have hel:=Ql5 bs (by omega)
   obtain⟨b,off,rfl,_,_⟩:=hr.cells (by omega)
   rw[hq] at HC
   have HQ:=hid hq
   obtain⟨E,hE⟩:∃E,E=Qb6 bs:=⟨_,rfl⟩
   obtain⟨d,hd⟩:∃d,d=Qf4 bs:=⟨_,rfl⟩
   have hdl:d.length=32:=by rw[hd];exact Qgc bs
   have hd8:∀j,0<=d.getD j 0∧d.getD j 0<=255:=by rw[hd];exact Qo2 bs
   obtain⟨L,hLe⟩:∃L,L=bs.length:=⟨_,rfl⟩
   obtain⟨M,hM⟩:∃M,M=E.length:=⟨_,rfl⟩
   have HPB:Hid (Qhn bs=Qif L M d++Sh.Wd.leL 4 (Qoy (Qif L M d++E))++E++List.replicate (512*Qdu M-44-M) 0):=by show _=_;rw[hM,hE,hd,hLe];rfl
   have HPS:Hid (∀V,Below w.heap.size w V->Calls Tryz.prog 21 #[.slice (some ⟨V.heap.size,0,none⟩) 1 1] (V.alloc (.cells #[.slice (some ⟨b,off,none⟩) L cap] 22)) fun e w'=>e= .returned (.agg (u8A d))∧Below V.heap.size V w'):=fun V hV=>by
    have:=Qp5 b off cap bs V (HLd.out.later hV) (hr.later hV) (by omega) V.heap.size rfl
    rw[<-hd,<-hLe] at this
    exact this
   rw[<-hE] at HC hel
   rw[<-hM] at HC hel
   rw[<-hLe] at hn HC hel hrg|-
   have HDL:=hid hdl
   have HD8:=hid hd8
   have HML:=hid hM
   have HEP:Hid (0<E.length):=by show _<_;rw[hE];unfold Qb6 Qgi;split<;>simp
   have HBD:Hid (∀W,(Instr.build 53 #[(0,.int .i64 (L:Int)),(1,.int .i64 (M:Int)),(2,.agg (u8A d))]).run Tryz.prog W= .ok (.agg (hdL L M d).toArray) W):=fun W=>run_build W 53 _ _ (Xfv L M d hdl)
   have hLb:=hrg.2
   clear hr hq hL hLe hE hd hdl hd8 hM hrg hn HR HLd
   go_enter Tryz.func10,Tryz.ntmps10
   go_wp2_with fail
   refine HC.out.mono ?_
   rintro _ W1 ⟨hb1,⟨h,_⟩ | ⟨_,a1,c1,rfl,hr1⟩⟩
   ·cases h
   have HB1:=hid hb1
   have HI1:=hid hr1
   have HS1:=hid (HPS.out W1 hb1)
   clear hb1 hr1 HC
   go_wp2_with fail
   refine HS1.out.mono ?_
   rintro _ W2 ⟨rfl,hb2⟩
   have HB2:=hid (Bn HB1.out hb2)
   have HI2:=hid (HI1.out.later hb2)
   have HE2:=hid (Qbf W2 (.cells hdZ 53))
   have HA2:=hid (Qbr W2 (.cells hdZ 53))
   have HZS:Hid (hdZ.size=34):=rfl
   have HHS:=hid (Qv3 L M d HDL.out)
   have HH1:=hid (Xih L M d)
   clear hb2 HS1 HB1 HI1 HPS
   have HHB:Hid (∀W,Calls Tryz.prog 24 #[.agg (hdL L M d).toArray] W fun e w'=>∃v,e= .returned v∧w'.ownsRow W.heap.size 5 1 v (Qif L M d).length ((Qif L M d).map (Value.int .u8))∧Below W.heap.size W w'):=fun W=>Qur L M d W (by omega) (by omega) HDL.out HD8.out
   have HBK:Hid (∀W,Calls Tryz.prog 25 #[.agg (hdL L M d).toArray] W fun e w'=>e= .returned (.int .i64 (Qdu M:Int))∧Below W.heap.size W w'):=fun W=>Qf1 L M d W (by omega)
   have HBH:Hid (∀W,Calls Tryz.prog 28 #[.agg (hdL L M d).toArray] W fun e w'=>e= .returned (.int .i64 ((512*Qdu M-44-M:Nat):Int))∧Below W.heap.size W w'):=fun W=>Qlw L M d W (by omega) HDL.out
   obtain⟨q,hq⟩:∃q,q=Qdu M:=⟨_,rfl⟩
   obtain⟨m,hm⟩:∃m,m=512*Qdu M-44-M:=⟨_,rfl⟩
   have hq9:q<=10:=by rw[hq];unfold Qdu;omega
   have hm9:m<=511:=by rw[hm];unfold Qdu;omega
   rw[<-hq] at HBK
   rw[<-hm] at HBH HPB
   have HHL:=hid (Qpm L M d HDL.out)
   obtain⟨hd,hhd⟩:∃hd,hd=Qif L M d:=⟨_,rfl⟩
   rw[<-hhd] at HHB HPB HHL
   have h8h:Hid (∀j,(Lit.int .u8 (hd.getD j 0)).wf=true):=by rw[hhd];exact Qub L M d (fun j=>Qa8 (HD8.out j).1 (HD8.out j).2)
   generalize (hdL L M d).toArray=H at *
   clear hq hm hhd
   have HLV:Hid (∀V:World,V.heap[W2.heap.size]?=some (.cells H 53)->(Instr.loadAt 53 (.pointer (some ⟨W2.heap.size,0,none⟩))).run Tryz.prog V= .ok (.agg H) V):=fun V hV=>by
    have:=run_loadVar_row (P:=Tryz.prog) V W2.heap.size 53 53 H (0,0) _ hV Tryz.underlying53 rfl (by rw[HHS.out];exact Tryz.size53)
    simp only[Instr.loadAt,Instr.sureAddr,Sem.run_bind,Sem.run_pure,Result.andThen_ok,this]
   have HE3:Hid (((W2.alloc (.cells hdZ 53)).setRow W2.heap.size H).heap[W2.heap.size]?=some (.cells H 53)):=setRow_heap _ _ _ _ _ _ HE2.out
   have HB3:Hid (Below w.heap.size w ((W2.alloc (.cells hdZ 53)).setRow W2.heap.size H)):=below_setRow (Bn HB2.out HA2.out) HB2.out.size _
   have HI3:Hid (Ri ((W2.alloc (.cells hdZ 53)).setRow W2.heap.size H) .u8 a1 c1 E):=HI2.out.later (below_setRow HA2.out (Nat.le_refl _) _)
   have HL3:=hid (HLV.out _ HE3.out)
   have HG3:Hid (W2.heap.size<((W2.alloc (.cells hdZ 53)).setRow W2.heap.size H).heap.size):=(Array.getElem?_eq_some_iff.1 HE3.out).1
   go_wp2_with (first
    | (refine Qn9 rfl 53 (.tmp 18) (.tmp 20) (.tmp 23) rfl (.int .i64 (L:Int)) (.int .i64 (M:Int)) (.agg (u8A d)) (.agg H) rfl rfl rfl (HBD.out _) ?_)
    | (refine Qad rfl 53 rfl (some 6) rfl hdZ Tryz.zero53 W2.heap.size rfl ?_)
    | (refine wpList_store_rowTo rfl 53 _ _ rfl rfl W2.heap.size H rfl rfl 53 _ HE2.out (by rw[HHS.out];exact Tryz.size53) (by rw[HHS.out];rfl) HH1.out ?_)
    | (refine Qbn rfl 53 (.tmp 6) rfl _ _ rfl HL3.out ?_))
   clear HE2 HA2 HZS HHS HH1 HBD HB2 HI2 HL3
   generalize (W2.alloc (.cells hdZ 53)).setRow W2.heap.size H=W3 at *
   generalize W2.heap.size=g at *
   refine(HHB.out W3).mono ?_
   rintro _ W4 ⟨v4,rfl,ho4,hb4⟩
   obtain⟨a4,c4,rfl,hr4⟩:=Ri.own ho4 h8h.out
   have HI4:=hid hr4
   have HE4:=hid ((hb4.block _ HG3.out).trans HE3.out)
   have HB4:=hid (Bn HB3.out hb4)
   have HE4i:=hid (HI3.out.later hb4)
   have HG4:=hid (Nat.lt_of_lt_of_le HG3.out hb4.size)
   have HL4:=hid (HLV.out _ HE4.out)
   obtain⟨hl,hhl⟩:∃hl,hl=hd.length:=⟨_,rfl⟩
   have HHL2:=hid hhl
   rw[<-hhl]
   clear ho4 hb4 hr4 HB3 HE3 HI3 HG3 hhl
   go_wp2_with (refine Qbn rfl 53 (.tmp 6) rfl _ _ rfl HL4.out ?_)
   refine(HBK.out W4).mono ?_
   rintro _ W5 ⟨rfl,hb5⟩
   have HI5:=hid (HI4.out.later hb5)
   have HE5:=hid ((hb5.block _ HG4.out).trans HE4.out)
   have HB5:=hid (Bn HB4.out hb5)
   have HE5i:=hid (HE4i.out.later hb5)
   have HG5:=hid (Nat.lt_of_lt_of_le HG4.out hb5.size)
   obtain⟨i0,hi,hz0,hz1,hz2⟩:=info_parts Tryz.info5Z
   obtain⟨W6,hmk,ho6,hg6⟩:=run_make_own (P:=Tryz.prog) W5 W5.heap.size 22 5 i0 (.int .u8 0) 1 Tryz.underlying22 hi hz0 hz1 .i64 .i64 (q*512) (by rw[hz2];omega) (by unfold maxLen;omega) (Nat.le_refl _)
   rw[show((q*512:Nat):Int)=(q:Int)*512 from by omega] at hmk
   have hb6:Below W5.heap.size W5 W6:=⟨hg6.os,hg6.tape,hg6.output,hg6.size,fun k hk=>hg6.block k hk (by simp)⟩
   have G1:Hid (Gr W5.heap.size W6 (.slice (some ⟨W5.heap.size,0,none⟩) 0 (q*512)) []):= .inl ho6
   have HV6:=hid hb6
   have HI6:=hid (HI5.out.later hb6)
   have HS6:=hid hb6.size
   have HX0:Hid (0<hd.length):=by show _<_;rw[HHL.out];decide
   have HX1:Hid (([]:List Int).length+hd.length<=1000000):=by show _<=_;rw[HHL.out];decide
   have HX2:Hid (hd.length<=10000):=by show _<=_;rw[HHL.out];decide
   clear hb5 HI4 HE4 HB4 HE4i HG4 HL4 ho6 hg6 hb6 hi hz0 hz1 hz2
   go_wp2_with (at_builtin;refine Qwk _ rfl _ _ rfl W5.heap.size _ [] rfl G1.out a4 c4 hd (by rw[<-HHL2.out];rfl) HI6.out HX0.out HX1.out HS6.out ?_)
   intro v7 W7 ho7 hb7
   have ho7':W7.ownsRow W5.heap.size 5 1 v7 hd.length (hd.map (Value.int .u8)):=by simpa using ho7
   have HV7:=hid (HV6.out.trans hb7)
   have HPC:Hid (Calls Tryz.prog 27 #[.slice (some ⟨W7.heap.size,0,none⟩) 2 2] (W7.alloc (.cells #[.slice a4 hl c4,.slice a1 M c1] 22)) fun e w'=>e= .returned (.int .u32 (Qoy (hd++E):Int))∧w'=W7.alloc (.cells #[.slice a4 hl c4,.slice a1 M c1] 22)):=by
    have:=Qq0 a4 a1 c4 c1 hd E W7 (HI5.out.later HV7.out) (HE5i.out.later HV7.out) W7.heap.size rfl
    rw[<-HHL2.out,<-HML.out] at this
    exact this
   have HO8:=hid (Qa9 ho7' (Qbr W7 (.cells #[.slice a4 hl c4,.slice a1 M c1] 22)))
   have HV8:=hid (HV7.out.alloc HV7.out.size (.cells #[.slice a4 hl c4,.slice a1 M c1] 22))
   have hC:=Qph (hd++E)
   generalize hCe:Qoy (hd++E)=C at *
   clear hCe hC ho7 ho7' hb7 G1 HI6 HX0 HX1 HS6 HV6 hmk HV7
   go_wp2_with fail
   refine HPC.out.mono ?_
   rintro _ W8 ⟨rfl,hw⟩
   obtain rfl:=hw.symm
   clear hw HPC
   generalize W7.alloc (.cells #[.slice a4 hl c4,.slice a1 M c1] 22)=W8 at *
   go_wp2_with fail
   refine(Qok W5.heap.size v7 hd C 4 32 W8 (.inr ⟨rfl,rfl⟩) (.inl HO8.out) HX2.out HV8.out.size).mono ?_
   rintro _ W9 ⟨v9,rfl,ho9,hb9⟩
   have HV9:=hid (HV8.out.trans hb9)
   have G9:Hid (Gr W5.heap.size W9 v9 (hd++Sh.Wd.leL 4 C)):= .inl ho9
   have HE9:=hid (HE5i.out.later HV9.out)
   have HL9:Hid ((hd++Sh.Wd.leL 4 C).length=44):=by show _=_;rw[List.length_append,HHL.out,Sh.Wd.Qbb]
   obtain⟨l9,hl9⟩:∃l,l=hd++Sh.Wd.leL 4 C:=⟨_,rfl⟩
   rw[<-hl9] at G9 HL9 HPB
   have HX3:Hid (0<E.length):=HEP.out
   have HX4:Hid (l9.length+E.length<=1000000):=by show _<=_;rw[HL9.out,<-HML.out];omega
   have HS9:=hid HV9.out.size
   clear ho9 hb9 hl9 HO8 HV8 HX2
   go_wp2_with (at_builtin;refine Qwk _ rfl _ _ rfl W5.heap.size _ l9 rfl G9.out a1 c1 E (by rw[<-HML.out];rfl) HE9.out HX3.out HX4.out HS9.out ?_)
   intro v10 W10 ho10 hb10
   have ho10':W10.ownsRow W5.heap.size 5 1 v10 (l9++E).length ((l9++E).map (Value.int .u8)):=by simpa using ho10
   have HV10:=hid (HV9.out.trans hb10)
   have HE10:=hid ((HV10.out.block _ HG5.out).trans HE5.out)
   have HL10:=hid (HLV.out _ HE10.out)
   have HO10:=hid ho10'
   clear ho10 ho10' hb10 G9 HE9 HX3 HS9 HV9 HE10
   go_wp2_with (refine Qbn rfl 53 (.tmp 6) rfl _ _ rfl HL10.out ?_)
   refine(HBH.out W10).mono ?_
   rintro _ W11 ⟨rfl,hb11⟩
   have hbb:W5.heap.size<=W10.heap.size:=HV10.out.size
   have HV11:=hid (HV10.out.trans (hb11.mono hbb))
   obtain⟨v12,W12,hz12,ho12,hb12⟩:=Xc3 W11 W5.heap.size v10 (l9++E) m 22 (Qa9 HO10.out hb11) (by rw[List.length_append,HL9.out];omega) (by rw[List.length_append,HL9.out,<-HML.out];omega) HV11.out.size
   have HZ12:=hid hz12
   have HO12:=hid ho12
   have HB12:=hid (Bn HB5.out (HV11.out.trans hb12))
   rw[<-HPB.out] at HO12
   have HGB:=hid HB5.out.size
   clear hb11 hbb hz12 ho12 hb12 HO10 HL10 HV10 HV11
   go_wp2_with (at_builtin;refine Lib.wpList_append_run _ rfl _ _ 22 3 rfl _ _ rfl rfl v12 W12 HZ12.out ?_)
   go_ret2
   exact⟨HB12.out,.inr ⟨HQ.out,v12,rfl,Joins.ownsRow_le HO12.out HGB.out⟩⟩
theorem Rr.keepB{w0 w w':World}{g:Nat}{t:TypeId}{tl:List Value}{a:Option Addr}{cap:Nat}{zs:List Int}(h:Rr w0 w g t tl a cap zs)(hb:Below w.heap.size w w'):Rr w0 w' g t tl a cap zs:=⟨(hb.block _ h.lt).trans h.blk,h.row,Bn h.bel hb,h.ge⟩
theorem Rr.headVar{w0 w:World}{g:Nat}{t:TypeId}{n k s:Int}{d:List Int}{ah:Value}{a:Option Addr}{cap:Nat}{zs:List Int}(h:Rr w0 w g t (opT n k d ah s) a cap zs)(hd:d.length=32):(loadVar 53 ⟨g,1,none⟩).run Tryz.prog w= .ok (.agg (hdL n k d).toArray) w:=
 run_loadVar_mid w g 1 53 (hdL n k d) _ h.head Tryz.underlying53 rfl (by rw[show(hdL n k d).length=34 from by simp[hdL,hd]];exact Tryz.size53)
theorem Rr.digVar{w0 w:World}{g:Nat}{t:TypeId}{n k s:Int}{d:List Int}{ah:Value}{a:Option Addr}{cap:Nat}{zs:List Int}(h:Rr w0 w g t (opT n k d ah s) a cap zs)(hd:d.length=32):(loadVar 37 ⟨g,3,none⟩).run Tryz.prog w= .ok (.agg (u8A d)) w:=
 run_loadVar_mid w g 3 37 (d.map (Value.int .u8)) _ (fun j v hv=>by
  have hh:=h.head (j+2) v (by simp[hdL];simpa using hv)
  rw[show 3+j=1+(j+2) from by omega];exact hh) Tryz.underlying37 rfl (by rw[List.length_map,hd];kernel_rfl)
theorem Xkm(n k:Int)(d:List Int)(ah:Value)(s:Int)(h:d.length=32):(opT n k d ah s)[34]?=some ah∧(opT n k d ah s)[35]?=some (.int .u32 s):=by
 have hl:(hdL n k d).length=34:=by simp[hdL,h]
 unfold opT
 rw[List.getElem?_append_right (by omega),List.getElem?_append_right (by omega),hl]
 exact⟨rfl,rfl⟩
def Xj2(l:List Int):Bool:=l.all fun z=>z==0
def Xde(hd zs:List Int)(n k:Nat)(d:List Int)(s:Nat):Int×List Int:=
 if Qoy (hd++zs.take k)≠s then (111,[])
 else if Xj2 ((zs.drop k).take (512*Qdu k-44-k))=false then (110,[])
 else match Qsl (zs.take k) with
 | none=>(113,[])
 | some bs=>if bs.length≠n then (113,[]) else if Qf4 bs≠d then (112,[]) else (0,bs)
def Qzw(w0:World)(g:Nat)(tl:List Value)(r:Int×List Int)(e:Ending)(w':World):Prop:=
 Below w0.heap.size w0 w'∧(∃a c z,Rr w0 w' g 65 tl a c z)∧((r.1≠0∧e= .returned (.tuple #[.slice none 0 0,.int .i64 r.1]))∨(r.1=0∧∃a c,e= .returned (.tuple #[.slice a r.2.length c,.int .i64 0])∧Ri w' .u8 a c r.2))
theorem Qqt(w0 w:World)(g b off cap:Nat)(zs hd d:List Int)(n k s:Nat)(a1:Option Addr)(c1:Nat)(hR:Rr w0 w g 65 (opT n k d (.slice a1 40 c1) s) (some ⟨b,off,none⟩) cap zs)(hh:Ri w0 .u8 a1 c1 hd)(hhl:hd.length=40)(hk1:1<=k)(hk:k<=4100)(hz:512*Qdu k-44<=zs.length)(hd32:d.length=32)(hn1:1<=n)(hn:n<=4096)(hL:Sh.Laid w0):
 Calls Tryz.prog 35 #[.pointer (some ⟨g,0,none⟩)] w (Qzw w0 g (opT n k d (.slice a1 40 c1) s) (Xde hd zs n k d s)):=by
 have hq:(512:Nat)*Qdu k ≥ 44+k:=by unfold Qdu;omega
 have HKZ:Hid (k<=zs.length):=by show _<=_;omega
 have HMZ:Hid (512*Qdu k-44-k<=(zs.drop k).length):=by show _<=_;rw[List.length_drop];omega
 have HRC:=hid hR.row
 have HD:=hid hd32
 have HL:=hid hL
 have HH:=hid hh
 have HHL:=hid hhl
 have HR:=hid hR
 have HO:=hid (Xkm n k d (.slice a1 40 c1) s hd32)
 obtain⟨R,hRe⟩:∃R,R=Xde hd zs n k d s:=⟨_,rfl⟩
 have HRE:=hid hRe
 rw[<-hRe]
 clear hR hh hhl hz hd32 hq hL hRe
 go_enter Tryz.func35,Tryz.ntmps35
 go_wp2_with fail
 refine wp_region_held_drew (S:=fun V=>V.cell? ⟨g,2,none⟩=some (.int .i64 (k:Int))) (by kernel_rfl) ((HR.out.drewN 1).cellT 1) (fun hS0=>?_)
 have HR0:=hid (HR.out.drewN 1)
 change Hid (Rr w0 w.drew _ _ _ _ _ _) at HR0
 clear HR
 generalize w.drew=v0 at *
 simp only[List.size_toArray,List.length_cons,List.length_nil,Nat.reduceAdd]
 refine Ord.tk (i:=0) (d:=9) (v:=?vA0) rfl rfl ?hA0 (by assumption) ?_
 case hA0=>intro w hSw;go_simp;try with_reducible rfl
 simp only[Ord.s1,Ord.s2,Ord.s3]
 refine Ord.tk (i:=1) (d:=10) (v:=?vA1) rfl rfl ?hA1 (by assumption) ?_
 case hA1=>intro w hSw;go_simp;try with_reducible rfl
 simp only[Ord.s1,Ord.s2,Ord.s3]
 refine Ord.tk (i:=2) (d:=11) (v:=?vA2) rfl rfl ?hA2 (by assumption) ?_
 case hA2=>intro w hSw;go_simp;try with_reducible rfl
 simp only[Ord.s1,Ord.s2,Ord.s3]
 refine Ord.tk (i:=3) (d:=12) (v:=?vA3) rfl rfl ?hA3 (by assumption) ?_
 case hA3=>intro w hSw;go_simp;try with_reducible rfl
 simp only[Ord.s1,Ord.s2,Ord.s3]
 refine Ord.tk (i:=4) (d:=13) (v:=?vA4) rfl rfl ?hA4 (by assumption) ?_
 case hA4=>intro w hSw;go_simp;try with_reducible rfl
 simp only[Ord.s1,Ord.s2,Ord.s3]
 refine Ord.tk (i:=5) (d:=14) (v:=?vA5) rfl rfl ?hA5 (by assumption) ?_
 case hA5=>intro w hSw;go_simp;try with_reducible rfl
 simp only[Ord.s1,Ord.s2,Ord.s3]
 refine Ord.tk (i:=6) (d:=15) (v:=?vA6) rfl rfl ?hA6 (by assumption) ?_
 case hA6=>intro w hSw;go_simp;try with_reducible rfl
 simp only[Ord.s1,Ord.s2,Ord.s3]
 refine Ord.tk (i:=7) (d:=16) (v:= .int .i64 (k:Int)) rfl rfl ?hA7 (by assumption) ?_
 case hA7=>intro w hSw;have q:=hSw;go_simp;try with_reducible rfl
 simp only[Ord.s1,Ord.s2,Ord.s3]
 refine wpAnyH_ready (rs:= [8]) (by as_aux_lemma=>kernel_rfl) (by simp) (AllReadyH.cons rfl (fun K hK=>?_) AllReadyH.nil)
 go_simp
 refine(Qfo w0 v0 g 65 _ b off cap k zs HR0.out HKZ.out).mono ?_
 rintro _ v1 ⟨rfl,o1,e1,rfl,hr1⟩
 have HR1:=hid (HR0.out.put hr1)
 refine hK.out _ _ ((HR1.out.cellT 1).trans rfl) (fun _=>?_)
 clear hK K hr1 HR0
 try simp only[Ord.s1,Ord.s2,Ord.s3]
 refine Ord.tk (i:=9) (d:=4) (v:=?vA9) rfl rfl ?hA9 (by assumption) ?_
 case hA9=>intro w hSw;go_simp;try with_reducible rfl
 simp only[Ord.s1,Ord.s2,Ord.s3]
 refine wpAnyH_done (by as_aux_lemma=>kernel_rfl) ?_ _
 generalize v0.setCell ⟨g,0,none⟩ (.slice (some ⟨b,o1,none⟩) (zs.drop k).length e1)=W1 at *
 obtain⟨C,hC⟩:∃C,C=Qoy (hd++zs.take k):=⟨_,rfl⟩
 have hC2:C<4294967296:=by rw[hC];exact Qph _
 have HC:=hid hC
 obtain⟨q2,hq2⟩:∃q2,((C:Int) !=(s:Int))=q2:=⟨_,rfl⟩
 have HQ2:=hid hq2
 have HPC:Hid (∀V,Below W1.heap.size W1 V->Calls Tryz.prog 27 #[.slice (some ⟨V.heap.size,0,none⟩) 2 2] (V.alloc (.cells #[.slice a1 40 c1,.slice (some ⟨b,off,none⟩) k cap] 22)) fun e w'=>e= .returned (.int .u32 (C:Int))∧w'=V.alloc (.cells #[.slice a1 40 c1,.slice (some ⟨b,off,none⟩) k cap] 22)):=fun V hV=>by
  have:=Qq0 a1 (some ⟨b,off,none⟩) c1 cap hd (zs.take k) V (HH.out.later (Bn HR1.out.bel hV)) ((HRC.out.take k).later (Bn HR1.out.bel hV)) V.heap.size rfl
  rw[HHL.out,show(zs.take k).length=k from by have:=HKZ.out;simp;omega,<-hC] at this
  exact this
 have HC35:Hid (∀V,Below W1.heap.size W1 V->V.cell? ⟨g,35,none⟩=some (.slice a1 40 c1)):=fun V hV=>((HR1.out.keepB hV).cellT 34).trans HO.out.1
 have HC36:Hid (∀V,Below W1.heap.size W1 V->V.cell? ⟨g,36,none⟩=some (.int .u32 (s:Int))):=fun V hV=>((HR1.out.keepB hV).cellT 35).trans HO.out.2
 clear hC hC2 hq2 hS0
 go_wp2_with fail
 refine wp_region_held_drew (S:=fun V=>Below W1.heap.size W1 V) (by kernel_rfl) (Below.refl _ _).drew (fun hS0=>?_)
 generalize W1.drew=v0 at *
 simp only[List.size_toArray,List.length_cons,List.length_nil,Nat.reduceAdd]
 refine Ord.tk (i:=0) (d:=18) (v:=?vB0) rfl rfl ?hB0 (by assumption) ?_
 case hB0=>intro w hSw;go_simp;try with_reducible rfl
 simp only[Ord.s1,Ord.s2,Ord.s3]
 refine Ord.tk (i:=1) (d:=19) (v:=?vB1) rfl rfl ?hB1 (by assumption) ?_
 case hB1=>intro w hSw;go_simp;try with_reducible rfl
 simp only[Ord.s1,Ord.s2,Ord.s3]
 refine Ord.tk (i:=2) (d:=20) (v:=?vB2) rfl rfl ?hB2 (by assumption) ?_
 case hB2=>intro w hSw;go_simp;try with_reducible rfl
 simp only[Ord.s1,Ord.s2,Ord.s3]
 refine Ord.tk (i:=3) (d:=21) (v:= .slice a1 40 c1) rfl rfl ?hB3 (by assumption) ?_
 case hB3=>intro w hSw;have q:=HC35.out w hSw;go_simp;try with_reducible rfl
 simp only[Ord.s1,Ord.s2,Ord.s3]
 refine Ord.tk (i:=4) (d:=22) (v:=?vB4) rfl rfl ?hB4 (by assumption) ?_
 case hB4=>intro w hSw;go_simp;try with_reducible rfl
 simp only[Ord.s1,Ord.s2,Ord.s3]
 refine Ord.tk (i:=7) (d:=25) (v:=?vB7) rfl rfl ?hB7 (by assumption) ?_
 case hB7=>intro w hSw;go_simp;try with_reducible rfl
 simp only[Ord.s1,Ord.s2,Ord.s3]
 refine Ord.tk (i:=8) (d:=26) (v:=?vB8) rfl rfl ?hB8 (by assumption) ?_
 case hB8=>intro w hSw;go_simp;try with_reducible rfl
 simp only[Ord.s1,Ord.s2,Ord.s3]
 refine Ord.tk (i:=9) (d:=27) (v:=?vB9) rfl rfl ?hB9 (by assumption) ?_
 case hB9=>intro w hSw;go_simp;try with_reducible rfl
 simp only[Ord.s1,Ord.s2,Ord.s3]
 refine Ord.tk (i:=10) (d:=28) (v:= .int .u32 (s:Int)) rfl rfl ?hB10 (by assumption) ?_
 case hB10=>intro w hSw;have q:=HC36.out w hSw;go_simp;try with_reducible rfl
 simp only[Ord.s1,Ord.s2,Ord.s3]
 refine wpAnyH_ready (rs:= [5]) (by as_aux_lemma=>kernel_rfl) (by simp) (AllReadyH.cons rfl (fun K hK=>?_) AllReadyH.nil)
 go_simp
 refine hK.out _ _ (hS0.alloc hS0.size _) (fun _=>?_)
 clear hK K
 try simp only[Ord.s1,Ord.s2,Ord.s3]
 refine wpAnyH_ready (rs:= [6]) (by as_aux_lemma=>kernel_rfl) (by simp) (AllReadyH.cons rfl (fun K hK=>?_) AllReadyH.nil)
 go_simp
 refine(HPC.out v0 hS0).mono ?_
 rintro _ v1 ⟨rfl,hw⟩
 obtain rfl:=hw.symm
 refine hK.out _ _ (hS0.alloc hS0.size _) (fun _=>?_)
 clear hK K hw
 try simp only[Ord.s1,Ord.s2,Ord.s3]
 refine Ord.tk (i:=11) (d:=29) (v:= .bool q2) rfl rfl ?hB11 (by assumption) ?_
 case hB11=>intro w hSw;have q:=HQ2.out;go_simp;try with_reducible rfl
 simp only[Ord.s1,Ord.s2,Ord.s3]
 refine wpAnyH_done (by as_aux_lemma=>kernel_rfl) ?_ _
 have HR2:=hid (HR1.out.keepB (hS0.alloc hS0.size (.cells #[.slice a1 40 c1,.slice (some ⟨b,off,none⟩) k cap] 22)))
 clear hS0 HPC HC35 HC36 HR1
 generalize v0.alloc (.cells #[.slice a1 40 c1,.slice (some ⟨b,off,none⟩) k cap] 22)=W2 at *
 cases q2 with
 | true=>
   have hne:C≠s:=fun e=>by have:=HQ2.out;rw[e] at this;simp at this
   go_wp2_with fail
   go_ret2
   refine⟨HR2.out.bel,⟨_,_,_,HR2.out⟩,.inl ?_⟩
   rw[HRE.out]
   unfold Xde
   rw[if_pos (by rw[<-HC.out];exact hne)]
   exact⟨by decide,rfl⟩
 | false=>
   have HEQ:Hid (C=s):=by
    show _=_
    have:=HQ2.out
    rw[bne_eq_false_iff_eq] at this
    omega
   clear HQ2
   have HLV:Hid (∀V,(∃a c z,Rr w0 V g 65 (opT n k d (.slice a1 40 c1) s) a c z)->(loadVar 53 ⟨g,1,none⟩).run Tryz.prog V= .ok (.agg (hdL n k d).toArray) V):=fun V ⟨_,_,_,hV⟩=>hV.headVar HD.out
   go_wp2_with fail
   refine wp_region_held_drew (S:=fun V=>∃a c z,Rr w0 V g 65 (opT n k d (.slice a1 40 c1) s) a c z) (by kernel_rfl) ⟨_,_,_,HR2.out.drewN 1⟩ (fun hS0=>?_)
   have HR2':=hid (HR2.out.drewN 1)
   change Hid (Rr w0 W2.drew _ _ _ _ _ _) at HR2'
   clear HR2
   have HR2:=HR2'
   clear HR2'
   generalize W2.drew=v0 at *
   simp only[List.size_toArray,List.length_cons,List.length_nil,Nat.reduceAdd]
   refine Ord.tk (i:=0) (d:=30) (v:=?vC0) rfl rfl ?hC0 (by assumption) ?_
   case hC0=>intro w hSw;go_simp;try with_reducible rfl
   simp only[Ord.s1,Ord.s2,Ord.s3]
   refine Ord.tk (i:=1) (d:=31) (v:=?vC1) rfl rfl ?hC1 (by assumption) ?_
   case hC1=>intro w hSw;go_simp;try with_reducible rfl
   simp only[Ord.s1,Ord.s2,Ord.s3]
   refine Ord.tk (i:=2) (d:=32) (v:=?vC2) rfl rfl ?hC2 (by assumption) ?_
   case hC2=>intro w hSw;go_simp;try with_reducible rfl
   simp only[Ord.s1,Ord.s2,Ord.s3]
   refine Ord.tk (i:=3) (d:=33) (v:=?vC3) rfl rfl ?hC3 (by assumption) ?_
   case hC3=>intro w hSw;go_simp;try with_reducible rfl
   simp only[Ord.s1,Ord.s2,Ord.s3]
   refine Ord.tk (i:=4) (d:=34) (v:=?vC4) rfl rfl ?hC4 (by assumption) ?_
   case hC4=>intro w hSw;go_simp;try with_reducible rfl
   simp only[Ord.s1,Ord.s2,Ord.s3]
   refine Ord.tk (i:=5) (d:=35) (v:=?vC5) rfl rfl ?hC5 (by assumption) ?_
   case hC5=>intro w hSw;go_simp;try with_reducible rfl
   simp only[Ord.s1,Ord.s2,Ord.s3]
   refine Ord.tk (i:=6) (d:=36) (v:= .agg (hdL n k d).toArray) rfl rfl ?hC6 (by assumption) ?_
   case hC6=>intro w hSw;exact(Qk3 53 (.tmp 35) rfl g 1 rfl (HLV.out w hSw))
   simp only[Ord.s1,Ord.s2,Ord.s3]
   refine Ord.tk (i:=10) (d:=40) (v:=?vC10) rfl rfl ?hC10 (by assumption) ?_
   case hC10=>intro w hSw;go_simp;try with_reducible rfl
   simp only[Ord.s1,Ord.s2,Ord.s3]
   refine wpAnyH_ready (rs:= [7]) (by as_aux_lemma=>kernel_rfl) (by simp) (AllReadyH.cons rfl (fun K hK=>?_) AllReadyH.nil)
   go_simp
   refine(Qlw n k d v0 (by omega) HD.out).mono ?_
   rintro _ v1 ⟨rfl,hb1⟩
   have HR3:=hid (HR2.out.keepB hb1)
   refine hK.out _ _ ⟨_,_,_,HR3.out⟩ (fun _=>?_)
   clear hK K hb1 HR2
   obtain⟨m,hm⟩:∃m,m=512*Qdu k-44-k:=⟨_,rfl⟩
   rw[<-hm] at HMZ|-
   have HM:=hid hm
   clear hm
   try simp only[Ord.s1,Ord.s2,Ord.s3]
   refine wpAnyH_ready (rs:= [8]) (by as_aux_lemma=>kernel_rfl) (by simp) (AllReadyH.cons rfl (fun K hK=>?_) AllReadyH.nil)
   go_simp
   refine(Qfo w0 v1 g 65 _ b o1 e1 m (zs.drop k) HR3.out HMZ.out).mono ?_
   rintro _ v2 ⟨rfl,o2,e2,rfl,hr2⟩
   have HR4:=hid (HR3.out.put hr2)
   refine hK.out _ _ ⟨_,_,_,HR4.out⟩ (fun _=>?_)
   clear hK K hr2
   try simp only[Ord.s1,Ord.s2,Ord.s3]
   refine Ord.tk (i:=9) (d:=39) (v:=?vC9) rfl rfl ?hC9 (by assumption) ?_
   case hC9=>intro w hSw;go_simp;try with_reducible rfl
   simp only[Ord.s1,Ord.s2,Ord.s3]
   refine wpAnyH_done (by as_aux_lemma=>kernel_rfl) ?_ _
   generalize v1.setCell ⟨g,0,none⟩ (.slice (some ⟨b,o2,none⟩) ((zs.drop k).drop m).length e2)=W4 at *
   obtain⟨zz,hzz⟩:∃zz,zz=(zs.drop k).take m:=⟨_,rfl⟩
   have hzl:zz.length=m:=by rw[hzz];have:=HMZ.out;simp at this|-;omega
   have HZR:Hid (Ri W4 .u8 (some ⟨b,o1,none⟩) e1 zz):=by show Ri _ _ _ _ _;rw[hzz];exact(HR3.out.row.take m).later HR4.out.bel
   have HZZ:=hid hzz
   have HZL:=hid hzl
   have hmb:m<=511:=by rw[HM.out];unfold Qdu;omega
   clear hzz hzl HR3 hS0 HLV
   go_wp2_with fail
   go_loop [40] (fun i=>∃j:Nat,j<=m∧i= .int .i64 (j:Int)∧Hid (∀q,q<j->zz.getD q 0=0)) (fun i=>m-(intOf i).toNat)
   case atStart=>exact⟨0,by omega,rfl,fun q hq=>absurd hq (by omega)⟩
   case round=>
    obtain⟨j,hj,rfl,HZJ⟩:=hrel
    by_cases hlt:j<m
    ·have hjm:(j:Int)<(m:Int):=by omega
     obtain⟨b',off',hb',_,hc'⟩:=HZR.out.cells (by have:=HZL.out;omega)
     injection hb' with hb'
     injection hb' with h1 h2
     subst h1 h2
     have hcj:=hc' j (by have:=HZL.out;omega)
     have hz8:=wf_u8 (HZR.out.fits j)
     have HZE:=hid (rfl:zz.getD j 0=zz.getD j 0)
     clear hc'
     by_cases hz0:zz.getD j 0=0
     ·have HZ0:=hid hz0
      rw[hz0] at hcj
      clear hz8 HZE hz0
      go_wp2
      exact⟨⟨j+1,by omega,by go_num,fun q hq=>by
       rcases Nat.lt_succ_iff_lt_or_eq.1 hq with h | h
       ·exact HZJ.out q h
       ·rw[h];exact HZ0.out⟩,by simp[intOf];omega⟩
     ·have HNZ:=hid hz0
      generalize hy:zz.getD j 0=y at *
      have HY:=hid hy
      have hyb:(y != 0)=true:=by rw[bne_iff_ne];exact hz0
      clear hy hz0 HZE
      go_wp2_with fail
      go_ret2
      refine⟨HR4.out.bel,⟨_,_,_,HR4.out⟩,.inl ?_⟩
      rw[HRE.out]
      unfold Xde
      rw[<-HC.out,if_neg (fun h=>h HEQ.out),<-HM.out,<-HZZ.out,if_pos]
      ·exact⟨by decide,rfl⟩
      ·unfold Xj2
       rw[Bool.eq_false_iff]
       intro h
       rw[List.all_eq_true] at h
       have h2:=h (zz.getD j 0) (by have:=HZL.out;simp[List.getD,List.getElem?_eq_getElem (show j<zz.length by omega)])
       rw[HY.out] at h2
       exact HNZ.out (by simpa using h2)
    ·obtain rfl:j=m:=by omega
     have hjm:¬(j:Int)<(j:Int):=by omega
     have HZB:Hid (Xj2 zz=true):=by
      show _=_
      unfold Xj2
      rw[List.all_eq_true]
      intro x hx
      obtain⟨q,hq,rfl⟩:=List.getElem_of_mem hx
      have:=HZJ.out q (by have:=HZL.out;omega)
      simp[List.getD,List.getElem?_eq_getElem hq] at this
      simp[this]
     have HCO:Hid (R=match Qsl (zs.take k) with
      | none=>(113,[])
      | some bs=>if bs.length≠n then (113,[]) else if Qf4 bs≠d then (112,[]) else (0,bs)):=by
      show _=_
      rw[HRE.out]
      unfold Xde
      rw[<-HC.out,if_neg (fun h=>h HEQ.out),<-HM.out,<-HZZ.out,HZB.out,if_neg (by decide)]
     have HDC:Hid (Calls Tryz.prog 53 #[.slice (some ⟨b,off,none⟩) k cap] W4 (Qpa (zs.take k) W4)):=by
      have:=Qt6 (some ⟨b,off,none⟩) cap (zs.take k) W4 ((HRC.out.take k).later HR4.out.bel) (by simp;omega)
      rw[show(zs.take k).length=k from by have:=HKZ.out;simp;omega] at this
      exact this
     unfold Qpa at HDC
     clear HRE HC HEQ HZJ HZB HZZ HZL HZR HMZ HM
     generalize Qsl (zs.take k)=RO at *
     go_wp2_with fail
     refine HDC.out.mono ?_
     rintro _ W5 ⟨hb5,hp5⟩
     have HR5:=hid (HR4.out.keepB hb5)
     clear HR4 HDC
     cases RO with
     | none=>
       dsimp only at hp5
       subst hp5
       clear hb5
       go_wp2_with fail
       go_ret2
       refine⟨HR5.out.bel,⟨_,_,_,HR5.out⟩,.inl ?_⟩
       rw[HCO.out]
       exact⟨by decide,rfl⟩
     | some bs=>
       obtain⟨a5,c5,rfl,hr5⟩:=hp5
       have HI5:=hid hr5
       obtain⟨L5,hL5⟩:∃L5,L5=bs.length:=⟨_,rfl⟩
       have HL5:=hid hL5
       have c1':=(HR5.out.cellT 0).trans (show(opT n k d (.slice a1 40 c1) s)[0]?=some (.int .i64 (n:Int)) from rfl)
       rw[<-hL5]
       clear hb5 hr5 hL5
       by_cases hln:L5=n
       ·subst hln
        have hbe:((L5:Int) !=(L5:Int))=false:=by simp
        obtain⟨b5,f5,rfl,_,_⟩:=HI5.out.cells (by have:=HL5.out;omega)
        have HHS:Hid (∀V,Below W5.heap.size W5 V->Calls Tryz.prog 21 #[.slice (some ⟨V.heap.size,0,none⟩) 1 1] (V.alloc (.cells #[.slice (some ⟨b5,f5,none⟩) L5 c5] 22)) fun e w'=>e= .returned (.agg (u8A (Qf4 bs)))∧Below V.heap.size V w'):=fun V hV=>by
         have:=Qp5 b5 f5 c5 bs V (HL.out.later (Bn HR5.out.bel hV)) (HI5.out.later hV) (by have:=HL5.out;omega) V.heap.size rfl
         rw[<-HL5.out] at this
         exact this
        have HLD:Hid (∀V,(∃a c z,Rr w0 V g 65 (opT L5 k d (.slice a1 40 c1) s) a c z)->(loadVar 37 ⟨g,3,none⟩).run Tryz.prog V= .ok (.agg (u8A d)) V):=fun V ⟨_,_,_,hV⟩=>hV.digVar HD.out
        have HEQ37:Hid (∀V,(Op.equalIn 10000 37 (.agg (u8A (Qf4 bs))) (.agg (u8A d))).run Tryz.prog V= .ok (decide (Qf4 bs=d)) V):=fun V=>Xl3 _ _ (Qgc _) HD.out V
        have HI6:=hid (HI5.out.later (Below.refl _ W5).drew)
        have HR5':=hid (HR5.out.drewN 1)
        change Hid (Rr w0 W5.drew _ _ _ _ _ _) at HR5'
        have HSM:=hid (HHS.out W5.drew (Below.refl _ W5).drew)
        go_wp2_with fail
        refine wp_region_held_drew (S:=fun V=>∃a c z,Rr w0 V g 65 (opT L5 k d (.slice a1 40 c1) s) a c z) (by kernel_rfl) ⟨_,_,_,HR5'.out⟩ (fun hS0=>?_)
        clear HR5 HI5 c1' HHS
        have HR5:=HR5'
        clear HR5'
        generalize W5.drew=v5 at *
        simp only[List.size_toArray,List.length_cons,List.length_nil,Nat.reduceAdd]
        refine Ord.tk (i:=0) (d:=64) (v:=?vD0) rfl rfl ?hD0 (by assumption) ?_
        case hD0=>intro w hSw;go_simp;try with_reducible rfl
        simp only[Ord.s1,Ord.s2,Ord.s3]
        refine Ord.tk (i:=3) (d:=67) (v:=?vD3) rfl rfl ?hD3 (by assumption) ?_
        case hD3=>intro w hSw;go_simp;try with_reducible rfl
        simp only[Ord.s1,Ord.s2,Ord.s3]
        refine Ord.tk (i:=4) (d:=68) (v:=?vD4) rfl rfl ?hD4 (by assumption) ?_
        case hD4=>intro w hSw;go_simp;try with_reducible rfl
        simp only[Ord.s1,Ord.s2,Ord.s3]
        refine Ord.tk (i:=5) (d:=69) (v:=?vD5) rfl rfl ?hD5 (by assumption) ?_
        case hD5=>intro w hSw;go_simp;try with_reducible rfl
        simp only[Ord.s1,Ord.s2,Ord.s3]
        refine Ord.tk (i:=6) (d:=70) (v:=?vD6) rfl rfl ?hD6 (by assumption) ?_
        case hD6=>intro w hSw;go_simp;try with_reducible rfl
        simp only[Ord.s1,Ord.s2,Ord.s3]
        refine Ord.tk (i:=7) (d:=71) (v:= .agg (u8A d)) rfl rfl ?hD7 (by assumption) ?_
        case hD7=>intro w hSw;exact(Qk3 37 (.tmp 70) rfl g 3 rfl (HLD.out w hSw))
        simp only[Ord.s1,Ord.s2,Ord.s3]
        refine wpAnyH_ready (rs:= [1]) (by as_aux_lemma=>kernel_rfl) (by simp) (AllReadyH.cons rfl (fun K hK=>?_) AllReadyH.nil)
        go_simp
        refine hK.out _ _ ⟨_,_,_,HR5.out.keepB (Qbr _ _)⟩ (fun _=>?_)
        clear hK K
        try simp only[Ord.s1,Ord.s2,Ord.s3]
        refine wpAnyH_ready (rs:= [2]) (by as_aux_lemma=>kernel_rfl) (by simp) (AllReadyH.cons rfl (fun K hK=>?_) AllReadyH.nil)
        go_simp
        refine(HSM.out).mono ?_
        rintro _ v1 ⟨rfl,hb1⟩
        have HR6:=hid (HR5.out.keepB hb1)
        have HB6:=hid hb1
        refine hK.out _ _ ⟨_,_,_,HR6.out⟩ (fun _=>?_)
        clear hK K hb1
        try simp only[Ord.s1,Ord.s2,Ord.s3]
        refine Ord.tk (i:=8) (d:=72) (v:= .bool (!decide (Qf4 bs=d))) rfl rfl ?hD8 (by assumption) ?_
        case hD8=>intro w hSw;exact(Qwq rfl rfl rfl Xjj (HEQ37.out w))
        simp only[Ord.s1,Ord.s2,Ord.s3]
        refine wpAnyH_done (by as_aux_lemma=>kernel_rfl) ?_ _
        have HI7:=hid (HI6.out.later HB6.out)
        clear HR5 HI6 HB6 HSM HLD HEQ37 hS0
        by_cases hdg:Qf4 bs=d
        ·rw[decide_eq_true hdg]
         go_wp2_with fail
         go_ret2
         refine⟨HR6.out.bel,⟨_,_,_,HR6.out⟩,.inr ?_⟩
         rw[HCO.out,if_neg (fun h=>h HL5.out.symm),if_neg (fun h=>h hdg)]
         exact⟨rfl,_,_,by rw[<-HL5.out];rfl,HI7.out⟩
        ·rw[decide_eq_false hdg]
         go_wp2_with fail
         go_ret2
         refine⟨HR6.out.bel,⟨_,_,_,HR6.out⟩,.inl ?_⟩
         rw[HCO.out,if_neg (fun h=>h HL5.out.symm),if_pos hdg]
         exact⟨by decide,rfl⟩
       ·have hbe:((L5:Int) !=(n:Int))=true:=by rw[bne_iff_ne];omega
        go_wp2_with fail
        go_ret2
        refine⟨HR5.out.bel,⟨_,_,_,HR5.out⟩,.inl ?_⟩
        rw[HCO.out]
        dsimp only
        rw[if_pos (by rw[<-HL5.out];exact hln)]
        exact⟨by decide,rfl⟩
end
end Go.Proofs.YtibjlbcnapoblaaGreatDoor
