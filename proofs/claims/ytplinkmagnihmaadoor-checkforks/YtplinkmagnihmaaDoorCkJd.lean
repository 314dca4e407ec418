/-
  What an audit finds: the contract of check's Audit, over hold's. What hold makes of what was found, and what it finds. The first mark of each number: the contract of check's first.
-/
import Derived.Test.YtplinkmagnihmaaDoorCkJb
import Derived.Maps.OwnSet
import Derived.Maps.OwnOps
namespace Go.Proofs.YtplinkmagnihmaaDoor
open Go.ChangeShapes Go.WideShapes Go.ChangeAt Go.RowKit Go.Deep Go.Lib
theorem Tryd.keyed3:Maps.Keyed Tryd.prog 3:=Maps.int_keyed Tryd.underlying3
theorem Tryd.zero3:∀w,(zeroValue 3).run Tryd.prog w= .ok (.int .i64 0) w:=fun w=>by kernel_rfl
def kI(s:Int):Lit:= .int .i64 s
theorem kI_ne{s t:Int}(h:s≠t):kI s≠kI t:=fun e=>h (by unfold kI at e;injection e)
theorem kI_is(s:Int):WideAt.IsKeyLit (kI s):=trivial
def fsI(l:List Mrk)(s:Int):Option Nat:=l.findIdx? fun m=>decide (m.2.1.1=s)
theorem fsI_snoc(l:List Mrk)(m:Mrk)(s:Int):fsI (l++ [m]) s=(fsI l s).or (if m.2.1.1=s then some l.length else none):=by
 unfold fsI
 rw[List.findIdx?_append]
 congr 1
 by_cases h:m.2.1.1=s
 ·rw[if_pos h]
  simp[List.findIdx?_cons,h]
 ·rw[if_neg h]
  simp[List.findIdx?_cons,h]
theorem fsI_lt{l:List Mrk}{s:Int}{j:Nat}(h:fsI l s=some j):j<l.length∧(l.getD j mkZ).2.1.1=s:=by
 unfold fsI at h
 rw[List.findIdx?_eq_some_iff_getElem] at h
 obtain⟨h1,h2,_⟩:=h
 exact⟨h1,by simpa [List.getD,List.getElem?_eq_getElem h1] using h2⟩
theorem take_mk{l:List Mrk}{k:Nat}(h:k<l.length):l.take (k+1)=l.take k++ [l.getD k mkZ]:=by
 rw[List.take_succ_eq_append_getElem h]
 simp[List.getD,List.getElem?_eq_getElem h]
structure Fs1 (ms:List Mrk) (i:Nat) (D:DataW Value):Prop where
 has:∀s,Maps.has D (kI s)=(fsI (ms.take i) s).isSome
 at_:∀s j,fsI (ms.take i) s=some j->∀z,D.atKey (kI s) z= .lit (.int .i64 (j:Int))
theorem Fs1.nil(ms:List Mrk):Fs1 ms 0 (.map []):=⟨fun s=>rfl,fun s j h=>by cases h⟩
def fst1(ms:List Mrk)(i:Nat):Nat:=(fsI (ms.take (i+1)) (ms.getD i mkZ).2.1.1).getD 0
theorem fst1_there{ms:List Mrk}{i j:Nat}(hi:i<ms.length)(h:fsI (ms.take i) (ms.getD i mkZ).2.1.1=some j):fst1 ms i=j:=by
 unfold fst1
 rw[take_mk hi,fsI_snoc,h]
 rfl
theorem fst1_new{ms:List Mrk}{i:Nat}(hi:i<ms.length)(h:fsI (ms.take i) (ms.getD i mkZ).2.1.1=none):fst1 ms i=i:=by
 unfold fst1
 rw[take_mk hi,fsI_snoc,h,if_pos rfl]
 simp
 omega
theorem fst1_lt{ms:List Mrk}{i:Nat}(hi:i<ms.length):fst1 ms i<=i:=by
 cases h:fsI (ms.take i) (ms.getD i mkZ).2.1.1 with
 | none=>rw[fst1_new hi h];exact Nat.le_refl _
 | some j=>
   rw[fst1_there hi h]
   have:=(fsI_lt h).1
   rw[List.length_take] at this
   omega
theorem Fs1.same{ms:List Mrk}{i j:Nat}{D:DataW Value}(h:Fs1 ms i D)(hi:i<ms.length)(hj:fsI (ms.take i) (ms.getD i mkZ).2.1.1=some j):Fs1 ms (i+1) D:=by
 have e:∀s,fsI (ms.take (i+1)) s=fsI (ms.take i) s:=fun s=>by
  rw[take_mk hi,fsI_snoc]
  by_cases hs:(ms.getD i mkZ).2.1.1=s
  ·rw[<-hs,hj]
   rfl
  ·rw[if_neg hs]
   simp
 exact⟨fun s=>by rw[e];exact h.has s,fun s k hk=>h.at_ s k (by rw[<-e];exact hk)⟩
theorem Fs1.put{ms:List Mrk}{i:Nat}{D:DataW Value}(h:Fs1 ms i D)(hi:i<ms.length)(hm:Maps.IsMap D)(hj:fsI (ms.take i) (ms.getD i mkZ).2.1.1=none):Fs1 ms (i+1) (D.put (kI (ms.getD i mkZ).2.1.1) (.lit (.int .i64 (i:Int)))):=by
 have hlen:(ms.take i).length=i:=by rw[List.length_take];omega
 refine⟨fun s=>?_,fun s k hk z=>?_⟩
 ·rw[take_mk hi,fsI_snoc]
  by_cases hs:s=(ms.getD i mkZ).2.1.1
  ·subst hs
   rw[Maps.has_put_same hm (kI_is _),hj,if_pos rfl]
   rfl
  ·rw[Maps.has_put_other (kI_ne hs),if_neg (fun e=>hs e.symm),h.has]
   simp
 ·rw[take_mk hi,fsI_snoc] at hk
  by_cases hs:s=(ms.getD i mkZ).2.1.1
  ·subst hs
   rw[hj,if_pos rfl,hlen] at hk
   have:k=i:=by simpa using hk.symm
   subst this
   exact Maps.atKey_put_same hm (kI_is _) _ z
  ·rw[if_neg (fun e=>hs e.symm)] at hk
   rw[Maps.atKey_put_other (kI_ne hs)]
   exact h.at_ s k (by simpa using hk) z
set_option maxHeartbeats 6400000 in
set_option maxRecDepth 100000 in
theorem first_word(A:Nat)(kv hv:Value)(ma:Option Addr)(mn mc mp nn:Nat)(f:Int×Int×Int)(ms:List Mrk)(i:Nat)(D:DataW Value)(w:World)(hb:w.heap[A]?=some (.cells (auC kv hv (.slice ma mn mc) mp f) 74))
 (hrw:Rw 67 mkV mkZ w ma mc ms) (hmn:mn=ms.length) (hi:i<ms.length) (hfew:ms.length<=100000) (hok:∀m∈ms,MOk m) (hown:w.ownsMap Tryd.prog 3 (plainElem Tryd.prog 3) mp nn D) (hnn:nn<=100000) (hf:Fs1 ms i D) :
 Calls Tryd.prog 47 #[.pointer (some ⟨A,0,none⟩),.int .i64 (i:Int)] w fun e w'=>e= .returned (.int .i64 (fst1 ms i:Int))∧∃D' nn',w'.ownsMap Tryd.prog 3 (plainElem Tryd.prog 3) mp nn' D'∧nn'<=nn+1∧Fs1 ms (i+1) D'∧w.grownBy w' (some mp):=by
 have hroom:=hrw.room
 have hmost:=hrw.most
 rw[<-hmn] at hroom
 unfold maxLen at hmost
 obtain⟨b,off,rfl,hbw,hcc⟩:=hrw.cells (by omega)
 obtain⟨m,hm⟩:∃m,m=ms.getD i mkZ:=⟨_,rfl⟩
 have hcm:=hcc i hi
 rw[<-hm] at hcm
 have hmk:MOk m:=hok m (by rw[hm];simp[List.getD,List.getElem?_eq_getElem hi])
 obtain⟨s,hs⟩:∃s,s=m.2.1.1:=⟨_,rfl⟩
 have hws:(Lit.int .i64 s).wf=true:=by rw[hs];exact hmk.hd.seq
 have cs:=hd_seq (mk_hd hcm)
 rw[<-hs] at cs
 have c2:=(Joins.cell_of_block hb 2).trans (show _=some (Value.slice (some ⟨b,off,none⟩) mn mc) from rfl)
 have c3:=(Joins.cell_of_block hb 3).trans (show _=some (Value.map (some mp)) from rfl)
 have him:(i:Int)<(mn:Int):=by omega
 have hi0:i<=100000:=by omega
 have HWI:Hid ((Lit.int .i64 (i:Int)).wf=true):=wf_mk_i64 (by omega) (by omega)
 have HKEY:Hid (keyOf Tryd.prog 3 (.int .i64 s)=some (kI s)):=Maps.keyOf_int_mk Tryd.underlying3 hws
 have HOW:=hid hown
 have HZ3:=hid Tryd.zero3
 have HNN:Hid (nn<maxLen):=by show _<_;unfold maxLen;omega
 have HS0:Hid (s=(ms.getD i mkZ).2.1.1):=by show _=_;rw[hs,hm]
 have HF:=hid hf
 have HI:=hid hi
 cases hj:fsI (ms.take i) s with
 | some j=>
   have HHS:Hid (Maps.has D (kI s)=true):=by show _=_;rw[hf.has,hj];rfl
   have HAT:=hid (hf.at_ s j hj)
   have HFT:Hid (fst1 ms i=j):=fst1_there hi (by rw[<-HS0.out];exact hj)
   have HSM:Hid (Fs1 ms (i+1) D):=hf.same hi (by rw[<-HS0.out];exact hj)
   rw[HFT.out]
   clear hb hrw hmn hi hfew hok hown hnn hf hcc hm hcm hmk hs hws hj hbw
   go_enter Tryd.func47,Tryd.ntmps47
   go_wp2_with (first | refine wpList_lookup_own_ok_int w rfl _ _ 72 rfl 3 3 .i64 Tryd.keyed3 Tryd.underlying72 Tryd.underlying3 (HZ3.out _) mp nn D rfl HOW.out (.int .i64 s) (kI s) rfl HKEY.out ?_ | fail)
   intro c hat hwc
   rw[HAT.out] at hat
   injection hat with hat
   injection hat with _ hat
   subst hat
   rw[HHS.out]
   clear hwc
   go_wp2
   go_ret
   exact⟨rfl,D,nn,HOW.out,Nat.le_succ _,HSM.out,⟨rfl,rfl,rfl,Nat.le_refl _,fun _ _ _=>rfl⟩⟩
 | none=>
   have HHS:Hid (Maps.has D (kI s)=false):=by show _=_;rw[hf.has,hj];rfl
   have HFT:Hid (fst1 ms i=i):=fst1_new hi (by rw[<-HS0.out];exact hj)
   have HSM:Hid (Fs1 ms (i+1) (D.put (kI s) (.lit (.int .i64 (i:Int))))):=by
    have:=hf.put hi hown.isMap (by rw[<-HS0.out];exact hj)
    rw[<-HS0.out] at this
    exact this
   rw[HFT.out]
   clear hb hrw hmn hi hfew hok hown hnn hf hcc hm hcm hmk hs hws hj hbw
   go_enter Tryd.func47,Tryd.ntmps47
   go_wp2_with (first | refine wpList_lookup_own_ok_int w rfl _ _ 72 rfl 3 3 .i64 Tryd.keyed3 Tryd.underlying72 Tryd.underlying3 (HZ3.out _) mp nn D rfl HOW.out (.int .i64 s) (kI s) rfl HKEY.out ?_ | fail)
   intro c hat hwc
   rw[HHS.out]
   clear hat hwc
   go_wp2_with (first | (at_mapUpdate;refine wpList_mapUpdate_own w rfl _ _ _ 72 rfl 3 3 Tryd.keyed3 Tryd.underlying72 (plainElem Tryd.prog 3) mp nn D rfl HOW.out HNN.out (.int .i64 s) (.int .i64 (i:Int)) (kI s) rfl rfl HKEY.out (.lit (.int .i64 (i:Int))) [] (plainElem_int Tryd.underlying3 HWI.out) ?_) | fail)
   intro W5 hown5 hgr5
   have HO5:=hid hown5
   have HG5:=hid hgr5
   clear hown5 hgr5
   go_wp2
   go_ret
   exact⟨rfl,_,nn+1,HO5.out,Nat.le_refl _,HSM.out,HG5.out⟩
end Go.Proofs.YtplinkmagnihmaaDoor
namespace Go.Proofs.YtplinkmagnihmaaDoor
open Go.ChangeShapes Go.WideShapes Go.ChangeAt Go.RowKit Go.Deep Go.Lib
def forkB(ms:List Mrk)(i:Nat):Bool:= !decide ((ms.getD (fst1 ms i) mkZ).2.1=(ms.getD i mkZ).2.1)
def stepA(key:List Nat)(hs:List Hd)(ms:List Mrk)(i:Nat)(f:Int×Int×Int):Int×Int×Int:=
 if (f.1=6∨f.1=5∨f.1=4∨f.1=3)∧sealedB key (ms.getD i mkZ)=false then (2,(i:Int),0)
 else if (f.1=6∨f.1=5∨f.1=4)∧forkB ms i=true then (3,(fst1 ms i:Int),(i:Int))
 else if (f.1=6∨f.1=5)∧(ms.getD i mkZ).2.1.1<(hs.length:Int)∧hasB hs (ms.getD i mkZ).2.1=false then (4,(i:Int),0)
 else if f.1=6∧¬(ms.getD i mkZ).2.1.1<(hs.length:Int) then (5,(i:Int),0) else f
structure Hc (W0 w:World) (A mp nn:Nat) (ka:Option Addr) (kc:Nat) (key:List Nat) (ha:Option Addr) (hc:Nat) (hs:List Hd) (ma:Option Addr) (mc:Nat) (ms:List Mrk) (i:Nat) (D:DataW Value) (f:Int×Int×Int):Prop where
 laid:Sh.Laid W0
 krd:Sh.Rd W0 (.slice ka key.length kc) ka kc key
 kfew:key.length<=100000
 hrow:Rw 34 hdV hdZ W0 ha hc hs
 h32:∀y∈hs,y.2.2.length=32
 mrow:Rw 67 mkV mkZ W0 ma mc ms
 mok:∀m∈ms,MOk m
 mfew:ms.length<=100000
 bel:Below W0.heap.size W0 w
 blk:w.heap[A]?=some (.cells (auC (.slice ka key.length kc) (.slice ha hs.length hc) (.slice ma ms.length mc) mp f) 74)
 own:w.ownsMap Tryd.prog 3 (plainElem Tryd.prog 3) mp nn D
 nfew:nn<=i
 ilt:i<ms.length
 age:W0.heap.size<=A
 mge:W0.heap.size<=mp
 fs:4<=f.1->Fs1 ms i D
def HoP(W0:World)(A mp:Nat)(kv hv mv:Value)(ms:List Mrk)(i:Nat)(f':Int×Int×Int)(e:Ending)(w':World):Prop:=
 e= .returned (.tuple #[])∧Below W0.heap.size W0 w'∧w'.heap[A]?=some (.cells (auC kv hv mv mp f') 74)∧∃D' nn',w'.ownsMap Tryd.prog 3 (plainElem Tryd.prog 3) mp nn' D'∧nn'<=i+1∧(4<=f'.1->Fs1 ms (i+1) D')
theorem Hc.ne{W0 w:World}{A mp nn:Nat}{ka:Option Addr}{kc:Nat}{key:List Nat}{ha:Option Addr}{hc:Nat}{hs:List Hd}{ma:Option Addr}{mc:Nat}{ms:List Mrk}{i:Nat}{D:DataW Value}{f:Int×Int×Int}(h:Hc W0 w A mp nn ka kc key ha hc hs ma mc ms i D f):A≠mp:=by
 obtain⟨es,clock,hb,_⟩:=h.own
 intro e
 have hk:=h.blk
 rw[e,hb] at hk
 cases hk
theorem mk_get{ms:List Mrk}{n:Nat}(h:n<ms.length){P:Mrk->Prop}(hp:∀y∈ms,P y):P (ms.getD n mkZ):=hp _ (by simp[List.getD,List.getElem?_eq_getElem h])
theorem Tryd.size40:(Tryd.prog.info? 40).map (·.size)=some 3:=by kernel_rfl
end Go.Proofs.YtplinkmagnihmaaDoor
namespace Go.Proofs.YtplinkmagnihmaaDoor
open Go.ChangeShapes Go.WideShapes Go.ChangeAt Go.RowKit Go.Deep Go.Lib
def audF(key:List Nat)(hs:List Hd)(ms:List Mrk):Nat->Int×Int×Int
 | 0=>(6,0,0)
 | i+1=>stepA key hs ms i (audF key hs ms i)
def audR(key:List Nat)(l:List Rec)(ms:List Mrk):Int×Int×Int:=
 if (hsL hdZ l).length=l.length+1 then audF key (hsL hdZ l) ms ms.length else (1,((hsL hdZ l).length:Int)-1,0)
def fnV(f:Int×Int×Int):List Value:= [.int .i64 f.1,.int .i64 f.2.1,.int .i64 f.2.2]
theorem Tryd.zero40:∀w,(zeroValue 40).run Tryd.prog w= .ok (.agg (fnV (0,0,0)).toArray) w:=fun w=>by kernel_rfl
theorem Tryd.zero74:∀w,(zeroValue 74).run Tryd.prog w= .ok (.agg #[.slice none 0 0,.slice none 0 0,.slice none 0 0,.map none,.int .i64 0,.int .i64 0,.int .i64 0]) w:=fun w=>by kernel_rfl
theorem Tryd.size74:(Tryd.prog.info? 74).map (·.size)=some 7:=by kernel_rfl
theorem fnV_one(f:Int×Int×Int):(fnV f).toArray.all (·.oneCell')=true:=all_oneCell_toArray (fun v hv=>by unfold fnV at hv;simp at hv;rcases hv with rfl | rfl | rfl<;>rfl)
theorem Tryd.size40c:(Tryd.prog.info? 40).map (·.size)=some 3:=by kernel_rfl
set_option maxHeartbeats 12800000 in
set_option maxRecDepth 100000 in
theorem audit_word(ka:Option Addr)(kc:Nat)(key:List Nat)(ra:Option Addr)(rc:Nat)(l:List Rec)(ma:Option Addr)(mc:Nat)(ms:List Mrk)(w:World)(hL:Sh.Laid w)(hk:Sh.Rd w (.slice ka key.length kc) ka kc key)(hkf:key.length<=100000)
 (hr:Rr w ra rc l) (hn:∀r∈l,r.ps.length<=1000) (hfew:l.length<=90000) (hm:Rw 67 mkV mkZ w ma mc ms) (hok:∀m∈ms,MOk m) (hmf:ms.length<=90000)
 (hstep:∀(W0 V:World) (A mp nn:Nat) (ha:Option Addr) (hc i:Nat) (D:DataW Value),Hc W0 V A mp nn ka kc key ha hc (hsL hdZ l) ma mc ms i D (audF key (hsL hdZ l) ms i) ->
  Calls Tryd.prog 32 #[.pointer (some ⟨A,0,none⟩),.int .i64 (i:Int)] V (HoP W0 A mp (.slice ka key.length kc) (.slice ha (hsL hdZ l).length hc) (.slice ma ms.length mc) ms i (audF key (hsL hdZ l) ms (i+1)))) :
 Calls Tryd.prog 16 #[.slice ka key.length kc,.slice ra l.length rc,.slice ma ms.length mc] w fun e w'=>e= .returned (.agg (fnV (audR key l ms)).toArray)∧Below w.heap.size w w':=by
 have hmroom:=hm.room
 have hmmost:=hm.most
 unfold maxLen at hmmost
 have HL:=hid hL
 have HK:=hid hk
 have HKF:=hid hkf
 have HR:=hid hr
 have HM:=hid hm
 have HOK:=hid hok
 have HST:=hid hstep
 have HHW:=hid (fun V (hV:Below w.heap.size w V)=>heads_word ra rc l V (hr.later hV) (hL.later hV) hn (by omega))
 have HPOS:=hid (hsL_pos l hdZ)
 have HLE:=hid (hsL_le l hdZ)
 have H32:=hid (hsL_32 l hdZ rfl)
 have HZ40:=hid Tryd.zero40
 have HZ74:=hid Tryd.zero74
 have hmm:=@run_makeMap Tryd.prog
 obtain⟨mn,hmn⟩:∃n,n=ms.length:=⟨_,rfl⟩
 obtain⟨len,hle⟩:∃n,n=l.length:=⟨_,rfl⟩
 obtain⟨kn,hkn⟩:∃n,n=key.length:=⟨_,rfl⟩
 obtain⟨G,hG⟩:∃G,G=w.heap.size:=⟨_,rfl⟩
 obtain⟨RR,hRR⟩:∃RR,RR=audR key l ms:=⟨_,rfl⟩
 have HMN:=hid hmn
 have HLN:=hid hle
 have HKN:=hid hkn
 have HGQ:=hid hG
 have HRR:=hid hRR
 unfold audR at hRR
 rw[<-hle,<-hmn] at hRR
 have HRE:=hid hRR
 rw[<-HRR.out]
 rw[<-hle] at hfew HLE HHW
 rw[<-hmn] at hmroom hmf
 rw[<-hmn,<-hle,<-hkn]
 clear hL hk hkf hr hn hm hok hstep hmn hle hkn hG hRR
 obtain⟨HS,hHS⟩:∃HS,HS=hsL hdZ l:=⟨_,rfl⟩
 have HHS:=hid hHS
 rw[<-hHS] at HPOS HLE H32 HST HRE
 clear hHS
 go_enter Tryd.func16,Tryd.ntmps16
 go_wp2_with (first | refine wpList_alloc_W rfl 40 rfl (some 6) rfl _ HZ40.out G HGQ.out ?_ | fail)
 intro V1 HG1 HBl1 HS1
 have HB1:Hid (Below w.heap.size w V1):=by show Below _ _ _;rw[<-HGQ.out];exact HBl1.out
 clear HBl1 HS1
 go_wp2_with fail
 refine(HHW.out V1 HB1.out).mono ?_
 rintro _ V2 ⟨ha,hc,rfl,hrw,hb2⟩
 rw[<-HHS.out] at hrw|-
 have HRW:=hid hrw
 have HB2:=hid (Bn HB1.out hb2)
 have HG2:=hid (blk_later HG1.out hb2)
 obtain⟨hn,hhn⟩:∃n,n=HS.length:=⟨_,rfl⟩
 have HHN:=hid hhn
 have hroomh:=hrw.room
 rw[<-hhn] at HPOS HLE hroomh HRE
 rw[<-hhn]
 have hmosth:=hrw.most
 unfold maxLen at hmosth
 have hn0:=HPOS.out
 have hnle:=HLE.out
 clear hrw hb2 hhn HHW HB1 HG1
 by_cases hlt:(hn:Int)-1<(len:Int)
 ·have HAU:Hid (RR=(1,(hn:Int)-1,0)):=by
   show _=_
   rw[HRE.out,if_neg (by omega)]
  go_wp2_with (first | refine wpList_store_W rfl 40 _ _ rfl rfl G (fnV (1,(hn:Int)-1,0)).toArray rfl rfl 40 _ HG2.out Tryd.size40c rfl (fnV_one _) ?_ | fail)
  intro V3 HG3 HGR3 HS3
  have HB3:Hid (Below w.heap.size w V3):=HB2.out.trans (bel_grown HGR3.out (by rw[HGQ.out];exact Nat.le_refl _) HB2.out.size)
  go_wp2
  refine bodyPost_ret (results_cell_row (ty:=40) rfl _ _ _ _ _ _ _ rfl HG3.out Tryd.underlying40 rfl Tryd.size40) rfl ?_
  exact⟨by rw[HAU.out],HB3.out⟩
 ·have hfl:hn=len+1:=by omega
  have HAU:Hid (RR=audF key HS ms mn):=by
   show _=_
   rw[HRE.out,if_pos hfl]
  obtain⟨mp,hmp⟩:∃mp,mp=V2.heap.size:=⟨_,rfl⟩
  obtain⟨V3,hV3⟩:∃V3,V3=V2.alloc (.map #[] 0):=⟨_,rfl⟩
  have HV3:=hid hV3
  have HMP:=hid hmp
  have HO3:Hid (V3.ownsMap Tryd.prog 3 (plainElem Tryd.prog 3) mp 0 (.map []:DataW Value)):=by
   show World.ownsMap _ _ _ _ _ _ _
   rw[hV3,hmp]
   exact World.ownsMap_made V2 Tryd.prog 3 (plainElem (H:=Value) Tryd.prog 3)
  have HB3:Hid (Below V2.heap.size V2 V3):=by show Below _ _ _;rw[hV3];exact bel_alc V2 _
  have HS3:Hid (V3.heap.size=mp+1):=by show _=_;rw[hV3,hmp];simp
  have HNL:Hid (hn=HS.length):=HHN.out
  clear hV3 hmp hfl hmm
  have hmm:=@run_makeMap Tryd.prog
  obtain⟨A,hA⟩:∃A,A=mp+1:=⟨_,rfl⟩
  have HAQ:Hid (A=V3.heap.size):=hA.trans HS3.out.symm
  have HAE:=hid hA
  clear hA
  go_wp2_with (first | (rw[<-HV3.out,<-HMP.out];refine wpList_alloc_W rfl 74 rfl (some 9) rfl _ HZ74.out A HAQ.out ?_) | fail)
  intro V4 HG4 HBl4 HS4
  clear hmm
  go_wp2_with (first | refine wpList_store_W rfl 74 _ _ rfl rfl A (auC (.slice ka kn kc) (.slice ha hn hc) (.slice ma mn mc) mp (6,0,0)) rfl rfl 74 _ HG4.out Tryd.size74 rfl (all_oneCell_toArray (cs:= [.slice ka kn kc,.slice ha hn hc,.slice ma mn mc,.map (some mp),.int .i64 6,.int .i64 0,.int .i64 0]) (fun v hv=>by simp at hv;rcases hv with rfl | rfl | rfl | rfl | rfl | rfl<;>rfl)) ?_ | fail)
  intro V5 HG5 HGR5 HS5
  have HB35:Hid (Below V3.heap.size V3 V5):=by
   show Below _ _ _
   rw[<-HAQ.out]
   exact HBl4.out.trans (bel_grown HGR5.out (Nat.le_refl _) (by rw[HAQ.out];exact HBl4.out.size))
  have HB5:Hid (Below V2.heap.size V2 V5):=Bn HB3.out HB35.out
  have HO5:=hid (HO3.out.kept (grown_bel (r:=none) HB35.out) (by simp))
  have HAGE:Hid (V2.heap.size<=A):=by show _<=_;rw[HAE.out,HMP.out];exact Nat.le_succ _
  have HMGE:Hid (V2.heap.size<=mp):=Nat.le_of_eq HMP.out.symm
  clear HG4 HBl4 HS4 HGR5 HS5 HB35 HO3 HB3 HS3 HAQ HAE HV3
  have HHC:=hid (fun(V:World) (nn i:Nat) (D:DataW Value) (hb:Below V2.heap.size V2 V) (hblk:V.heap[A]?=some (.cells (auC (.slice ka kn kc) (.slice ha hn hc) (.slice ma mn mc) mp (audF key HS ms i)) 74)) (hown:V.ownsMap Tryd.prog 3 (plainElem Tryd.prog 3) mp nn D) (hnn:nn<=i) (hi:i<ms.length) (hfs:4<=(audF key HS ms i).1->Fs1 ms i D)=>
   (show Hc V2 V A mp nn ka kc key ha hc HS ma mc ms i D (audF key HS ms i) from⟨HL.out.later HB2.out,HK.out.later HB2.out,HKF.out,HRW.out,H32.out,HM.out.later HB2.out,HOK.out,by rw[<-HMN.out];omega,hb,by rw[<-HKN.out,<-HHN.out,<-HMN.out];exact hblk,hown,hnn,hi,HAGE.out,HMGE.out,hfs⟩))
  go_wp2
  go_loopw [30] (fun x30 wr=>∃(i nn:Nat) (D:DataW Value),i<=mn∧x30= .int .i64 (i:Int)∧Hid (Below V2.heap.size V2 wr)∧Hid (wr.heap[A]?=some (.cells (auC (.slice ka kn kc) (.slice ha hn hc) (.slice ma mn mc) mp (audF key HS ms i)) 74))∧Hid (wr.ownsMap Tryd.prog 3 (plainElem Tryd.prog 3) mp nn D)∧Hid (nn<=i)∧Hid (4<=(audF key HS ms i).1->Fs1 ms i D)) (fun x30 _=>mn-(RowKit.intOf x30).toNat)
  case atStart=>exact⟨0,0,_,by omega,rfl,HB5.out,HG5.out,HO5.out,Nat.le_refl _,fun _=>Fs1.nil ms⟩
  case round=>
   obtain⟨i,nn,D,hi,rfl,HBI,HGI,HOI,HNI,HFI⟩:=hrel
   clear HB5 HG5 HO5
   by_cases hlt2:i<mn
   ·have hiz:(i:Int)<(mn:Int):=by omega
    have HCI:=hid (HHC.out wr nn i D HBI.out HGI.out HOI.out HNI.out (by rw[<-HMN.out];exact hlt2) HFI.out)
    go_wp2_with fail
    have hst:=HST.out V2 wr A mp nn ha hc i D HCI.out
    refine hst.mono ?_
    rintro _ W9 ⟨rfl,hb9,hg9,D9,nn9,ho9,hn9,hf9⟩
    rw[<-HKN.out,<-HHN.out,<-HMN.out] at hg9
    have HB9:=hid hb9
    have HG9:=hid hg9
    have HO9:=hid ho9
    have HN9:=hid hn9
    have HF9:=hid hf9
    clear hst hb9 hg9 ho9 hn9 hf9 HCI
    go_wp2
    go_round
    case rel=>exact⟨i+1,nn9,D9,by omega,by go_num,HB9.out,HG9.out,HO9.out,HN9.out,HF9.out⟩
    case measure=>simp[RowKit.intOf];omega
   ·have hie:i=mn:=by omega
    have hiz:¬(i:Int)<(mn:Int):=by omega
    have HIE:=hid hie
    clear hie
    have HRG:Hid (wr.rangeAt A 4 (fnV (audF key HS ms i))):=fun j v hv=>by
     rw[Joins.cell_of_block HGI.out]
     have hj:j<3:=(List.getElem?_eq_some_iff.1 hv).1
     match j,hj with
     | 0,_=>exact hv
     | 1,_=>exact hv
     | 2,_=>exact hv
    have HG6:=hid (blk_later HG2.out HBI.out)
    obtain⟨FF,hFF⟩:∃FF,FF=fnV (audF key HS ms i):=⟨_,rfl⟩
    have HFF:=hid hFF
    have HFO:Hid (FF.toArray.all (·.oneCell')=true):=by show _=_;rw[hFF];exact fnV_one _
    have HFL:Hid (FF.length=3):=by show _=_;rw[hFF];rfl
    rw[<-hFF] at HRG
    clear hFF
    go_wp2_with (first | refine wpList_load_P rfl 40 _ rfl A 4 rfl FF _ HRG.out Tryd.underlying40 rfl (by rw[HFL.out];exact Tryd.size40c) ?_ | refine wpList_store_W rfl 40 _ _ rfl rfl G FF.toArray rfl rfl 40 _ HG6.out (by rw[List.size_toArray,HFL.out];exact Tryd.size40c) (by rw[List.size_toArray,List.size_toArray,HFL.out];rfl) HFO.out ?_ | fail)
    intro V7 HG7 HGR7 HS7
    have HB7:Hid (Below w.heap.size w V7):=(Bn HB2.out HBI.out).trans (bel_grown HGR7.out (by rw[HGQ.out];exact Nat.le_refl _) (Bn HB2.out HBI.out).size)
    go_wp2
    refine bodyPost_ret (results_cell_row (ty:=40) rfl _ _ _ _ _ _ _ rfl HG7.out Tryd.underlying40 rfl (by rw[List.size_toArray,HFL.out];exact Tryd.size40c)) rfl ?_
    exact⟨by rw[HAU.out,HFF.out,HIE.out],HB7.out⟩
end Go.Proofs.YtplinkmagnihmaaDoor
